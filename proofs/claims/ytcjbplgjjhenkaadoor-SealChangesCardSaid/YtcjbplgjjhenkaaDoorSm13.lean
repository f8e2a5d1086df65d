/-
  The reference's Table, by a contract.
-/
import Derived.Test.YtcjbplgjjhenkaaDoorSm7
import Derived.Deep.WholeRow
/-
  Sum of package sha, by a contract.
-/
namespace Go.Proofs.YtcjbplgjjhenkaaDoor
open Go.RowKit
set_option linter.unusedVariables false
set_option linter.unusedSimpArgs false

/-- The digest of bytes. -/
def digest (m : List UInt8) : List UInt8 := dig32 (foldB startS (m ++ padL m.length) ((m ++ padL m.length).length / 64))
theorem padded_len (n : Nat) : (n + (padL n).length) % 64 = 0 := by
  rw [padL_len]
  unfold padZ
  omega
theorem dg_info : (Tryd.prog.info? 86).map (·.size) = some 73 := by kernel_rfl
theorem dg_built (s : St) : (Tryd.prog.built 86 [(0, .agg (stA s))]) = some (dgA s (List.replicate 64 0) 0) := by kernel_rfl
theorem wpList_built {P : Program} {ops : Array Oper} {rest : List Oper} {o : Oper} {a : Act} {w : World} {Q : Exit → Act → World → Prop} (hg : o.guard = none) (t : TypeId) (parts : Array (Nat × Operand)) (ho : o.op = .build t parts) (cells : Array Value)
    (hb : P.built t (parts.map fun (i, x) => (i, a.eval x)).toList = some cells) (h : wpList P ops Q rest (a.put o.dst (.agg cells)) w) : wpList P ops Q (o :: rest) a w :=
  wpList_build hg t parts ho (by rw [hb]; rfl) (by rw [hb]; exact h)
theorem dg_zero : (Tryd.prog.info? 86).map (fun i => (i.zero, i.size)) = some (some (.agg (dgA ⟨0, 0, 0, 0, 0, 0, 0, 0⟩ (List.replicate 64 0) 0)), 73) := by kernel_rfl
theorem dgA_size (s : St) (buf : List UInt8) (u : Int) (h : buf.length = 64) : (dgA s buf u).size = 73 := by
  unfold dgA
  rw [List.size_toArray, dgL_len _ _ _ h]
theorem dgA_one (s : St) (buf : List UInt8) (u : Int) : (dgA s buf u).all (·.oneCell') = true := by
  rw [Array.all_eq_true_iff_forall_mem]
  intro v hv
  have hv' : v ∈ dgL s buf u := by simpa [dgA] using hv
  unfold dgL at hv'
  rcases List.mem_append.1 hv' with h | h
  · exact (Array.all_eq_true_iff_forall_mem.1 (stA_one s)) v (by simpa using h)
  · rcases List.mem_append.1 h with h | h
    · exact oneCell_bv buf v h
    · rw [List.mem_singleton.1 h]; rfl
set_option maxHeartbeats 8000000 in
set_option maxRecDepth 100000 in
theorem ssum_any (w : World) (q : Nat) (A : Option Addr) (n c : Nat) (L : List (List UInt8)) (hK : KAt w) (hn : n = L.length) (hm : MemM w q A L) (hL : L.length ≤ 9223372036854775807) (hs : (L.map List.length).sum ≤ 140737488355328) :
    Calls Tryd.prog 39 #[.slice A n c] w fun e w' => e = .returned (.agg ((digest L.flatten).map bv).toArray) ∧ Below w.heap.size w w' := by
  subst hn
  have hKlt := hK.lt
  have HK := kept hK
  have HM := kept hm
  have HS := kept hs
  clear hK hm hs
  go_enter Tryd.func39, Tryd.ntmps39
  have hz := (zero_of_info dg_zero).1
  go_wp2_with (first | (go_at_call 50; refine (sstart_any _).mono ?_; rintro e w1 ⟨rfl, hb1⟩) | (refine wpList_built rfl 86 _ rfl (dgA startS (List.replicate 64 0) 0) (by first | exact dg_built startS | rfl) ?_) | (refine wpList_store_row rfl 86 _ _ rfl w1.heap.size (dgA startS (List.replicate 64 0) 0) rfl rfl 86 (dgA ⟨0, 0, 0, 0, 0, 0, 0, 0⟩ (List.replicate 64 0) 0) (Blk.new w1 _ _) (by rw [dg_info, dgA_size _ _ _ (by simp)]) (by rw [dgA_size _ _ _ (by simp), dgA_size _ _ _ (by simp)]) (dgA_one _ _ _) ?_))
  clear h
  go_name_world W2 hW2
  have hB2 : Blk W2 w1.heap.size 86 (dgA startS (List.replicate 64 0) 0) := by
    rw [← hW2]
    exact setRow_heap _ _ _ _ _ _ (Blk.new w1 _ _)
  have hg1 : w.heap.size + 1 ≤ w1.heap.size := by have := hb1.size; simpa using this
  have hR2 : Blk W2 w.heap.size 36 (gA 32 (dgF startS 0)) := by
    rw [← hW2, ← dgF_zero]
    have h0 : Blk w1 w.heap.size 36 (Array.replicate 32 (.int .u8 0)) := (Blk.new w _ _).below hb1 (by simp)
    exact (h0.alloc _).keep (setRow_other _ _ _ _ (by omega))
  have hb2 : Below w.heap.size w W2 := by
    rw [← hW2]
    have h0 : Below w.heap.size w w1 := ((Below.refl _ w).alloc (Nat.le_refl _) _).trans (hb1.mono (by simp))
    exact below_setRow (h0.alloc h0.size _) (by omega) _
  have HD2 := kept (dg_start hB2)
  have HR2 := kept hR2
  have HB2 := kept hb2
  have hg2 := hB2.lt
  clear hB2 hR2 hb2 hW2 hb1 hz
  obtain ⟨g, hg⟩ : ∃ g, w1.heap.size = g := ⟨_, rfl⟩
  rw [hg] at HD2 hg1 hg2
  rw [hg]
  clear hg
  go_loopw [4, 11] (fun t i wr => ∃ j : Nat, j ≤ L.length ∧ i = .int .i64 j ∧ t = .int .i64 (((L.take j).flatten.length : Nat) : Int) ∧ Kept (Dg wr g (L.take j).flatten) ∧ Kept (Blk wr w.heap.size 36 (gA 32 (dgF startS 0))) ∧ Kept (Below w.heap.size w wr)) (fun _ i _ => L.length - (intOf i).toNat)
  case atStart => exact ⟨0, Nat.zero_le _, rfl, rfl, HD2, HR2, HB2⟩
  case round =>
    obtain ⟨j, hj, rfl, rfl, HD3, HR3, HB3⟩ := hrel
    rename World => W3
    clear HD2 HR2 HB2
    have hg3 : g < W3.heap.size := by obtain ⟨_, _, hb, _⟩ := HD3.out; exact hb.lt
    have HK3 := kept (HK.out.below0 HB3.out)
    by_cases hlt : j < L.length
    · obtain ⟨o, A', q', c', rfl, hc, hmj, hcap⟩ := HM.out.at_ hlt
      obtain ⟨q2, hq2, hm2⟩ := hmj.old (g := g) (by omega)
      have hm3 := hm2.below0 HB3.out
      have hc3 : W3.cell? ⟨q, o + j, none⟩ = some (.slice A' (L[j]'hlt).length c') := (HB3.out.cell (p := ⟨q, o + j, none⟩) (World.block_lt_of_cell? w _ hc)).trans hc
      have hfl := flatten_take_succ L j hlt
      have hln := congrArg List.length hfl
      rw [List.length_append, flatten_len, flatten_len] at hln
      have hle := sum_take_le L (j + 1)
      have hS := HS.out
      have hb : (L.take j).flatten.length + (L[j]'hlt).length ≤ 140737488355328 := by rw [flatten_len]; omega
      generalize (L.take j).flatten = F at *
      generalize hl : (L[j]'hlt) = lj at *
      have HFL := kept hfl
      have HAD := kept (dadd_any W3 g q2 F lj A' lj.length c' HD3.out HK3.out (by have := HK.out.lt; omega) rfl hcap (by omega) hm3 hq2)
      clear hfl hln hle hS hm2 hm3 hmj hl hc
      go_wp2_with (go_at_call 51; refine HAD.out.mono ?_; rintro e W4 ⟨rfl, hD4, hG4⟩)
      go_roundw
      case rel =>
        refine ⟨j + 1, by omega, by go_num, by rw [HFL.out, List.length_append]; go_num, kept (by rw [HFL.out]; exact hD4), kept (HR3.out.grown hG4 (fun e => by injection e with e; omega)), kept (HB3.out.grown hG4 HB3.out.size (fun k hk => by injection hk; omega))⟩
      case measure => simp [intOf]; omega
    · obtain rfl : j = L.length := by omega
      have hfl : (L.take L.length).flatten = L.flatten := by rw [List.take_of_length_le (Nat.le_refl _)]
      have hfln := flatten_len L
      have hS := HS.out
      rw [hfl] at HD3
      rw [hfl]
      obtain ⟨F, hF⟩ : ∃ F, L.flatten = F := ⟨_, rfl⟩
      rw [hF] at HD3 hfln
      rw [hF]
      have hFl : F.length ≤ 140737488355328 := by omega
      have HPD := kept (fun w => spad_any w F.length (by omega))
      have HPL := kept (padL_len F.length)
      have hz64 := padZ_lt F.length
      clear hfl hfln hS
      go_wp2_with fail
      refine (HPD.out _).mono ?_
      rintro e W4 ⟨v4, rfl, hown4, hb4⟩
      obtain ⟨A4, q4, c4, rfl, hc4, hcm4, hm4, hq4, hq5⟩ := hown4.form
      have hD4 : Dg W4 g F := HD3.out.grown (gb_of_below hb4 none) (fun e => by cases e)
      have hne : padL F.length ≠ [] := by
        intro e
        have := HPL.out
        rw [e, List.length_nil] at this
        omega
      have hq4g : q4 ≠ g := by have := (hq4 hne).1; omega
      have HAD := kept (dadd_any W4 g q4 F (padL F.length) A4 (padL F.length).length c4 hD4 (HK3.out.below0 hb4) (by have := HK.out.lt; omega) rfl hc4 (by rw [HPL.out]; omega) hm4 hq4g)
      have HR4 := kept (HR3.out.below hb4 HR3.out.lt)
      have HB4 := kept (HB3.out.trans (hb4.mono HB3.out.size))
      clear hown4 hm4 hq4 hq5 hD4 hne hb4
      go_wp2_with fail
      refine HAD.out.mono ?_
      rintro e W5 ⟨rfl, hD5, hG5⟩
      have HR5 := kept (HR4.out.grown hG5 (fun e => by injection e with e; omega))
      have HB5 := kept (HB4.out.grown hG5 HB4.out.size (fun k hk => by injection hk; omega))
      obtain ⟨buf5, hbuf5, hblk5, _⟩ := hD5
      have HBY := kept (dbytes_any W5 g _ buf5 _ hblk5)
      clear hblk5 hG5
      go_wp2_with fail
      refine HBY.out.mono ?_
      rintro e W6 ⟨rfl, hb6⟩
      have HR6 := kept (HR5.out.below hb6 HR5.out.lt)
      have HB6 := kept (HB5.out.trans (hb6.mono HB5.out.size))
      clear hb6
      have hdg : dig32 (foldB startS (F ++ padL F.length) ((F ++ padL F.length).length / 64)) = digest F := rfl
      rw [hdg]
      obtain ⟨D, hD⟩ : ∃ D, digest F = D := ⟨_, rfl⟩
      rw [hD]
      have hDl : D.length = 32 := by rw [← hD]; simp [digest, dig32]
      have HFD := kept hD
      clear hD hdg
      go_wp2_with (refine wpList_store_row rfl 36 _ _ rfl w.heap.size (D.map bv).toArray rfl rfl 36 (gA 32 (dgF startS 0)) ?hg2 ?hi2 ?ho ?h1 ?_)
      case hg2 => exact HR6.out
      case hi2 =>
        rw [b32_size]
        simp [hDl]
      case ho =>
        rw [gA_size]
        simp [hDl]
      case h1 => exact all_oneCell_toArray (oneCell_bv D)
      exact bodyPost_ret (v := .agg (D.map bv).toArray) (results_cell_row Tryd.results39 _ _ w.heap.size 36 (D.map bv).toArray (0, 0) _ rfl (setRow_heap _ _ _ _ _ _ HR6.out) Tryd.underlying36 rfl (by rw [b32_size]; simp [hDl])) rfl ⟨by rw [hF, HFD.out], below_setRow HB6.out (Nat.le_refl _) _⟩
end Go.Proofs.YtcjbplgjjhenkaaDoor
namespace Go.Proofs.YtcjbplgjjhenkaaDoor
open Go.RowKit
set_option linter.unusedVariables false
set_option linter.unusedSimpArgs false

set_option maxHeartbeats 1000000 in
set_option maxRecDepth 100000 in
theorem rtable_any (w : World) : Calls Tryd.prog 46 #[] w fun e w' => e = .returned (.agg (kList.map wv).toArray) ∧ Below w.heap.size w w' := by
  rw [kA_eq]
  go_enter Tryd.func46, Tryd.ntmps46
  go_wp2_with (first | (refine wpList_built rfl 79 _ rfl (wA kF) (by kernel_rfl) ?_) | (refine wpList_store_row rfl 79 _ _ rfl w.heap.size (wA kF) rfl rfl 79 (wA fun _ => 0) (Blk.new w _ _) (by rw [w64_size, wA_size]) (by rw [wA_size, wA_size]) (wA_one _) ?_))
  exact bodyPost_ret (v := .agg (wA kF)) (results_cell_row Tryd.results46 _ _ w.heap.size 79 (wA kF) (0, 0) _ rfl (setRow_heap _ _ _ _ _ _ (Blk.new w _ (wA fun _ => 0))) Tryd.underlying79 rfl (by rw [w64_size, wA_size])) rfl ⟨rfl, below_setRow ((Below.refl _ w).alloc (Nat.le_refl _) _) (Nat.le_refl _) _⟩
end Go.Proofs.YtcjbplgjjhenkaaDoor
