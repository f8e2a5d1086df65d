/-
  The reference's Sum, by a contract.
-/
import Derived.Test.YtcjbplgjjhenkaaDoorSm13
import Derived.Laws.Cover3
import Derived.StillTailTactics
namespace Go.Proofs.YtcjbplgjjhenkaaDoor
open Go.RowKit
set_option linter.unusedVariables false
set_option linter.unusedSimpArgs false

/-- The load of a whole array as one step of a region's still beginning. -/
theorem still_load_mid {P : Program} {ops : Array Oper} {w : World} {Q : Act → Prop} {op : Oper} {rest : List Oper} {a : Act} (hgd : op.guard = none) (ty : TypeId) (x : Operand) (ho : op.op = .load ty x)
    (b o : Nat) (hx : a.eval x = .pointer (some ⟨b, o, none⟩)) (cs : List Value) (d : TypeDesc) (hc : w.rangeAt b o cs)
    (hu : P.underlying ty = some d) (hd : d.isRow = true) (hi : (P.info? ty).map (·.size) = some cs.length)
    (h : wpStill P ops w Q rest (a.put op.dst (.agg cs.toArray))) : wpStill P ops w Q (op :: rest) a := by
  refine wpStill_step fun K hK => ?_
  have hw : Region.wanted op (yielded ops a.tmps) = true := by simp [Region.wanted, hgd]
  rw [if_pos hw]
  unfold Oper.still execOp
  simp only [ho, hx, Instr.loadAt, Instr.sureAddr, Sem.run_bind, Sem.run_pure, Result.andThen_ok, run_loadVar_mid w b o ty cs d hc hu hd hi]
  simp [Oper.stillUpon]
  exact hK _ h
theorem range_of_blk {w : World} {g : Nat} {t : TypeId} {cs : Array Value} (h : Blk w g t cs) : w.rangeAt g 0 cs.toList := by
  intro j v hv
  rw [h.cell, Nat.zero_add]
  simpa using hv
theorem range_of_mem {w : World} {q : Nat} {l : List UInt8} (h : Mem w q (some ⟨q, 0, none⟩) l) (a n : Nat) : w.rangeAt q a (((l.drop a).take n).map bv) := by
  intro j v hv
  rw [List.getElem?_map] at hv
  cases hj : ((l.drop a).take n)[j]? with
  | none => rw [hj] at hv; cases hv
  | some b =>
    rw [hj] at hv
    injection hv with hv
    subst hv
    rw [List.getElem?_take] at hj
    split at hj
    · rw [List.getElem?_drop] at hj
      rcases h with h | ⟨o, ho, hc⟩
      · rw [h] at hj; simp at hj
      · injection ho with ho
        injection ho with _ ho _
        subst ho
        have := hc (a + j) b hj
        rw [Nat.zero_add] at this
        exact this
    · cases hj
/-- Bytes, followed by their padding. -/
def padded (l : List UInt8) : List UInt8 := l ++ padL l.length
set_option maxHeartbeats 8000000 in
set_option maxRecDepth 100000 in
theorem rsum_any (w : World) (q : Nat) (A : Option Addr) (n c : Nat) (l : List UInt8) (hn : n = l.length) (hm : Mem w q A l) (hl : l.length ≤ 140737488355200) :
    Calls Tryd.prog 31 #[.slice A n c] w fun e w' => e = .returned (.agg ((digest l).map bv).toArray) ∧ Below w.heap.size w w' := by
  subst hn
  obtain ⟨i0, hi0, hz0, hs0, hbb0⟩ := info_parts u8_info
  have HM := kept hm
  have HPL := kept (padL_len l.length)
  have hz64 := padZ_lt l.length
  have HPD := kept (fun w => rpad_any w l.length (by omega))
  clear hm
  go_enter Tryd.func31, Tryd.ntmps31
  have hb1 : Below w.heap.size w ((w.alloc (.cells (Array.replicate 32 (.int .u8 0)) 36)).alloc (.cells #[] 5)) := ((Below.refl _ w).alloc (Nat.le_refl _) _).alloc (by simp) _
  have hR1 : Blk ((w.alloc (.cells (Array.replicate 32 (.int .u8 0)) 36)).alloc (.cells #[] 5)) w.heap.size 36 (gA 32 (dgF startS 0)) := by
    rw [← dgF_zero]
    exact (Blk.new w _ _).alloc _
  have hO1 : Own ((w.alloc (.cells (Array.replicate 32 (.int .u8 0)) 36)).alloc (.cells #[] 5)) (w.heap.size + 1) (.slice (some ⟨w.heap.size + 1, 0, none⟩) 0 0) [] := by
    have n2 := Blk.new (w.alloc (.cells (Array.replicate 32 (.int .u8 0)) 36)) 5 #[]
    simp only [World.size_alloc] at n2
    exact own_of_blk (l := []) n2 (by omega) (by simp)
  have hM1 : Mem ((w.alloc (.cells (Array.replicate 32 (.int .u8 0)) 36)).alloc (.cells #[] 5)) q A l := HM.out.below0 hb1
  go_wp2_with (first | (at_builtin; refine wpList_append_bytes rfl (.tmp 9) (.tmp 10) 24 rfl (w.heap.size + 1) i0 Tryd.underlying24 hi0 hz0 hs0 hbb0 (.slice (some ⟨w.heap.size + 1, 0, none⟩) 0 0) [] rfl hO1 q A _ c l rfl rfl hM1 (by simp; omega) (by simp) ?_; intro v2 W2 hown2 hg2))
  have HB2 := kept (hb1.grown hg2 hb1.size (fun k hk => by simp [Value.ownBlock] at hk; omega))
  have HR2 := kept (hR1.grown hg2 (by simp [Value.ownBlock]))
  rw [List.nil_append] at hown2
  have HO2 := kept hown2
  clear hb1 hR1 hO1 hM1 hg2 hown2
  refine (HPD.out _).mono ?_
  rintro e W3 ⟨v3, rfl, hown3, hb3⟩
  obtain ⟨A3, q3, c3, rfl, hc3, hcm3, hm3, _⟩ := hown3.form
  have HB3 := kept (HB2.out.trans (hb3.mono HB2.out.size))
  have HR3 := kept (HR2.out.below hb3 HR2.out.lt)
  have hown23 := HO2.out.below hb3
  have hs3 := HB3.out.size
  have hs2 := HB2.out.size
  have hlt3 := HR3.out.lt
  have hpl : (padL l.length).length ≤ 80 := by have := HPL.out; omega
  clear hown3 hb3
  go_wp2_with (first | (at_builtin; refine wpList_append_bytes rfl (.tmp 11) (.tmp 14) 24 rfl (w.heap.size + 1) i0 Tryd.underlying24 hi0 hz0 hs0 hbb0 v2 l rfl hown23 q3 A3 _ c3 (padL l.length) rfl rfl hm3 (by omega) (by omega) ?_; intro v4 W4 hown4 hg4))
  have hown3' : ∀ k, v2.ownBlock = some k → w.heap.size + 1 ≤ k := fun k hk => (World.ownsRow.lt hown23 k hk).1
  have HB4 := kept (HB3.out.grown hg4 HB3.out.size (fun k hk => by have := hown3' k hk; omega))
  have HR4 := kept (HR3.out.grown hg4 (fun e => by have := hown3' _ e.symm; omega))
  have hml : (padded l).length = l.length + (padL l.length).length := by unfold padded; rw [List.length_append]
  have hm64 : (padded l).length % 64 = 0 := by rw [hml]; exact padded_len l.length
  have hdg : digest l = dig32 (foldB startS (padded l) ((padded l).length / 64)) := rfl
  change Own W4 (w.heap.size + 1) v4 (padded l) at hown4
  obtain ⟨M, hM⟩ : ∃ M, padded l = M := ⟨_, rfl⟩
  rw [hM] at hml hm64 hdg hown4
  have hMp : 0 < M.length := by have := HPL.out; omega
  have hMl : M.length ≤ 140737488355320 := by omega
  have HDG := kept hdg
  have HM64 := kept hm64
  obtain ⟨A5, q5, c5, rfl, hc5, hcm5, hm5, hq5, _⟩ := hown4.form
  obtain ⟨hq5', rfl, _⟩ := hq5 (by intro e; rw [e] at hMp; simp at hMp)
  have HMM := kept hm5
  have hc5' : ¬ (c5 = 0) := by omega
  clear HM HPL HPD HB2 HR2 HO2 HB3 HR3 hown23 hg4 hown3' hown4 hm5 hq5 hm3 hml hm64 hdg hpl hc3 hcm3
  refine (rstart_any W4).mono ?_
  rintro e W5 ⟨rfl, hb5⟩
  have HB5 := kept (HB4.out.trans (hb5.mono HB4.out.size))
  have HR5 := kept (HR4.out.below hb5 HR4.out.lt)
  have HM5 := kept (HMM.out.below0 hb5)
  clear HB4 HR4 HMM hb5
  go_wp2_with (refine wpList_store_row rfl 77 _ _ rfl W5.heap.size (stA startS) rfl rfl 77 (Array.replicate 8 (.int .u32 0)) (Blk.new W5 _ _) (by rw [s8_size, stA_size]) rfl (stA_one _) ?_)
  have HS6 := kept (show Blk ((W5.alloc (.cells (Array.replicate 8 (.int .u32 0)) 77)).setRow W5.heap.size (stA startS)) W5.heap.size 77 (stA startS) from setRow_heap _ _ _ _ _ _ (Blk.new W5 _ _))
  have HB6 := kept (show Below w.heap.size w ((W5.alloc (.cells (Array.replicate 8 (.int .u32 0)) 77)).setRow W5.heap.size (stA startS)) from below_setRow (HB5.out.alloc HB5.out.size _) HB5.out.size _)
  have HR6 := kept (show Blk ((W5.alloc (.cells (Array.replicate 8 (.int .u32 0)) 77)).setRow W5.heap.size (stA startS)) w.heap.size 36 (gA 32 (dgF startS 0)) from (HR5.out.alloc _).keep (setRow_other _ _ _ _ (by have := HR5.out.lt; omega)))
  have hq5l : q5 < W5.heap.size := HM5.out.lt (by intro e; rw [e] at hMp; simp at hMp)
  have HM6 := kept (show Mem ((W5.alloc (.cells (Array.replicate 8 (.int .u32 0)) 77)).setRow W5.heap.size (stA startS)) q5 (some ⟨q5, 0, none⟩) M from (HM5.out.alloc _).keep (fun _ => setRow_other _ _ _ _ (by omega)))
  have hgS : w.heap.size + 1 ≤ W5.heap.size := by have := HR5.out.lt; omega
  change Calls _ _ _ ((W5.alloc (.cells (Array.replicate 8 (.int .u32 0)) 77)).setRow W5.heap.size (stA startS)) _
  generalize (W5.alloc (.cells (Array.replicate 8 (.int .u32 0)) 77)).setRow W5.heap.size (stA startS) = W6 at HS6 HB6 HR6 HM6 ⊢
  obtain ⟨gS, hgSe⟩ : ∃ g, W5.heap.size = g := ⟨_, rfl⟩
  rw [hgSe] at HS6 hgS hq5l
  rw [hgSe]
  clear HB5 HR5 HM5 hgSe
  refine (rtable_any W6).mono ?_
  rintro e W7 ⟨rfl, hb7⟩
  rw [kA_eq]
  have HS7 := kept (HS6.out.below hb7 HS6.out.lt)
  have HB7 := kept (HB6.out.trans (hb7.mono HB6.out.size))
  have HR7 := kept (HR6.out.below hb7 HR6.out.lt)
  have HM7 := kept (HM6.out.below0 hb7)
  clear HS6 HB6 HR6 HM6 hb7
  go_wp2_with (refine wpList_store_row rfl 79 _ _ rfl W7.heap.size (wA kF) rfl rfl 79 (wA fun _ => 0) (Blk.new W7 _ _) (by rw [w64_size, wA_size]) (by rw [wA_size, wA_size]) (wA_one _) ?_)
  go_name_world W8 hW8
  have HT8 := kept (show Blk W8 W7.heap.size 79 (wA kF) by rw [← hW8]; exact setRow_heap _ _ _ _ _ _ (Blk.new W7 _ _))
  have HB8 := kept (show Below w.heap.size w W8 by rw [← hW8]; exact below_setRow (HB7.out.alloc HB7.out.size _) HB7.out.size _)
  have HR8 := kept (show Blk W8 w.heap.size 36 (gA 32 (dgF startS 0)) by rw [← hW8]; exact (HR7.out.alloc _).keep (setRow_other _ _ _ _ (by have := HR7.out.lt; omega)))
  have HS8 := kept (show Blk W8 gS 77 (stA startS) by rw [← hW8]; exact (HS7.out.alloc _).keep (setRow_other _ _ _ _ (by have := HS7.out.lt; omega)))
  have HM8 := kept (show Mem W8 q5 (some ⟨q5, 0, none⟩) M by rw [← hW8]; exact (HM7.out.alloc _).keep (fun h => setRow_other _ _ _ _ (by have := HM7.out.lt (by intro e; rw [e] at hMp; simp at hMp); omega)))
  have hgT : gS < W7.heap.size := HS7.out.lt
  clear hW8 HB7 HR7 HS7 HM7
  obtain ⟨gT, hgTe⟩ : ∃ g, W7.heap.size = g := ⟨_, rfl⟩
  rw [hgTe] at HT8 hgT
  rw [hgTe]
  clear hgTe
  go_loopw [6] (fun i wr => ∃ k : Nat, 64 * k ≤ M.length ∧ i = .int .i64 ((64 * k : Nat) : Int) ∧ Kept (Below w.heap.size w wr) ∧ Kept (Blk wr w.heap.size 36 (gA 32 (dgF startS 0))) ∧ Kept (Blk wr gS 77 (stA (foldB startS M k))) ∧ Kept (Mem wr q5 (some ⟨q5, 0, none⟩) M) ∧ Kept (Blk wr gT 79 (wA kF))) (fun i _ => M.length - (intOf i).toNat)
  case atStart => exact ⟨0, by omega, rfl, HB8, HR8, HS8, HM8, HT8⟩
  case round =>
    obtain ⟨k, hk, rfl, HB9, HR9, HS9, HM9, HT9⟩ := hrel
    rename World => W9
    clear HB8 HR8 HS8 HM8 HT8
    by_cases hlt : 64 * k < M.length
    · have h64 : 64 * k + 64 ≤ M.length := by have := HM64.out; omega
      obtain ⟨S, hS⟩ : ∃ S, foldB startS M k = S := ⟨_, rfl⟩
      obtain ⟨b, hb⟩ : ∃ b, (M.drop (64 * k)).take 64 = b := ⟨_, rfl⟩
      have hbl : b.length = 64 := by rw [← hb, List.length_take, List.length_drop]; omega
      have hnext : foldB startS M (k + 1) = blockS kList S b := by rw [foldB, hS, hb]
      rw [hS] at HS9
      have HN := kept hnext
      have HBL := kept hbl
      have r0 := kept (show W9.drew.rangeAt gS 0 (stA S).toList from range_of_blk HS9.out)
      have r1 := kept (show W9.drew.rangeAt q5 (64 * k) (b.map bv) from hb ▸ range_of_mem HM9.out (64 * k) 64)
      have r2 := kept (show W9.drew.rangeAt gT 0 (wA kF).toList from range_of_blk HT9.out)
      have n32 : (Tryd.prog.info? 77).map (·.size) = some (stA S).toList.length := s8_size
      have n33 : (Tryd.prog.info? 67).map (·.size) = some (b.map bv).length := by rw [b64_size, List.length_map, HBL.out]
      have n37 : (Tryd.prog.info? 79).map (·.size) = some (wA kF).toList.length := by rw [w64_size, Array.length_toList, wA_size]
      have hap : ∀ a c, (Instr.arrayAt 67 (.slice a 64 c)).run Tryd.prog W9.drew = .ok (.pointer a) W9.drew := fun a c => run_arrayAt _ _ _ 64 _ _ _ Tryd.underlying67 (by omega)
      obtain ⟨K, hK⟩ : ∃ K, 64 * k = K := ⟨_, rfl⟩
      rw [hK] at hlt h64 r1
      rw [hK]
      have hKc : ¬ (c5 = K) := by omega
      have hw1 : IntKind.i64.wrap ((K : Int) + 64) = (K : Int) + 64 := IntWalk.i64_in _ (by omega)
      have t1 : ((K : Int) + 64).toNat = K + 64 := by omega
      have p0 : (0 : Int) ≤ (K : Int) := by omega
      have p1 : (0 : Int) ≤ (K : Int) + 64 := by omega
      have p2 : (K : Int) + 64 ≤ (c5 : Int) := by omega
      have p3 : (K : Int) ≤ ((K + 64 : Nat) : Int) := by omega
      have p4 : K + 64 - K = 64 := by omega
      have HKK := kept hK
      clear hS hb hbl hnext hK
      go_wp2
      refine wp_region_still_tail 9 (by kernel_rfl) (by kernel_rfl) ?_
      simp only [List.take_succ_cons, List.take_zero, List.drop_succ_cons, List.drop_zero]
      change wpStill _ _ W9.drew (fun a' => wpList _ _ _ _ a' W9.drew) _ _
      refine still_load_mid rfl 77 (.tmp 4) rfl gS 0 rfl (stA S).toList _ r0.out Tryd.underlying77 rfl n32 ?_
      iterate 4 still_step
      iterate 2 still_step
      refine still_load_mid rfl 67 (.tmp 30) rfl q5 K rfl (b.map bv) _ r1.out Tryd.underlying67 rfl n33 ?_
      refine still_load_mid rfl 79 (.tmp 5) rfl gT 0 rfl (wA kF).toList _ r2.out Tryd.underlying79 rfl n37 ?_
      refine wpStill_nil ?_
      have HRB := kept (rblock_any W9.drew S b kList HBL.out rfl)
      rw [kA_eq] at HRB
      go_wp2_with (first | (go_at_call 47; refine HRB.out.mono ?_; rintro e W10 ⟨rfl, hb10⟩; have hb10' : Below W9.heap.size W9 W10 := ⟨hb10.os, hb10.tape, hb10.output, hb10.size, hb10.block⟩; have hS10 : Blk W10 gS 77 (stA S) := HS9.out.below hb10' HS9.out.lt) | (refine wpList_store_row rfl 77 _ _ rfl gS (stA (blockS kList S b)) rfl rfl 77 (stA S) hS10 (by rw [s8_size, stA_size]) (by rw [stA_size, stA_size]) (stA_one _) ?_))
      go_roundw
      case rel =>
        refine ⟨k + 1, by have := HKK.out; omega, by rw [← HKK.out]; go_num, kept (below_setRow (HB9.out.trans (hb10'.mono HB9.out.size)) (by omega) _), kept ((HR9.out.below hb10' HR9.out.lt).keep (setRow_other _ _ _ _ (by omega))), kept (by rw [HN.out]; exact setRow_heap _ _ _ _ _ _ (HS9.out.below hb10' HS9.out.lt)), kept ((HM9.out.below0 hb10').keep (fun _ => setRow_other _ _ _ _ (by omega))), kept ((HT9.out.below hb10' HT9.out.lt).keep (setRow_other _ _ _ _ (by omega)))⟩
      case measure => simp [intOf]; omega
    · have hkM : 64 * k = M.length := by have := HM64.out; omega
      obtain ⟨S, hS⟩ : ∃ S, foldB startS M k = S := ⟨_, rfl⟩
      have hdS : digest l = dig32 S := by rw [HDG.out, show M.length / 64 = k by omega, hS]
      rw [hS] at HS9
      have HDS := kept hdS
      have HKM := kept hkM
      clear hS hdS hkM HM9 HT9
      go_wp2
      go_name_world V0 hV0
      have HR0 := kept (show Blk V0 w.heap.size 36 (gA 32 (dgF S 0)) by
        rw [← hV0]
        have e : gA 32 (dgF S 0) = gA 32 (dgF startS 0) := gA_ext fun j _ => rfl
        rw [e]
        exact HR9.out.alloc _)
      have HT0 := kept (show Blk V0 W9.heap.size 36 (gA 32 (dgF S 0)) by
        rw [← hV0, ← dgF_zero]
        exact Blk.new W9 _ _)
      have HW0 := kept (show Below w.heap.size w V0 by rw [← hV0]; exact HB9.out.alloc HB9.out.size _)
      have HS0 := kept (show Blk V0 gS 77 (stA S) by rw [← hV0]; exact HS9.out.alloc _)
      have hgSl : gS < W9.heap.size := HS9.out.lt
      clear hV0 HB9 HR9 HS9
      obtain ⟨gD, hgD⟩ : ∃ g, W9.heap.size = g := ⟨_, rfl⟩
      rw [hgD] at HT0 hgSl
      rw [hgD]
      clear hgD
      go_loopw [8] (fun i wr => ∃ n : Nat, n ≤ 32 ∧ i = .int .i64 n ∧ Kept (Blk wr w.heap.size 36 (gA 32 (dgF S 0))) ∧ Kept (Blk wr gD 36 (gA 32 (dgF S n))) ∧ Kept (Below w.heap.size w wr) ∧ Kept (Blk wr gS 77 (stA S))) (fun i _ => 32 - (intOf i).toNat)
      case atStart => exact ⟨0, Nat.zero_le _, rfl, HR0, HT0, HW0, HS0⟩
      case round =>
        obtain ⟨n, hn, rfl, HR1, HT1, HW1, HS1⟩ := hrel
        rename World => V1
        clear HR0 HT0 HW0 HS0
        by_cases hlt : n < 32
        · have c1 : V1.cell? ⟨gS, n / 4, none⟩ = some (.int .u32 (wi (stF S (n / 4)))) := by rw [HS1.out.cell, v8_st]; exact v8_at _ (by omega)
          have c2 : V1.cell? ⟨gD, n, none⟩ = some (dgF S n n) := by rw [HT1.out.cell]; exact gA_at _ _ hlt
          have f2 := HT1.out.frozen n
          have hnum := dig_num S n
          have HN := kept hnum
          clear hnum
          go_wp2
          go_roundw
          case rel =>
            refine ⟨n + 1, by omega, by go_num, kept (HR1.out.far (by show w.heap.size ≠ gD; omega) _), kept ?_, kept (HW1.out.setCell (p := ⟨gD, n, none⟩) (by show w.heap.size ≤ gD; omega) _), kept (HS1.out.far (by show gS ≠ gD; omega) _)⟩
            rw [HN.out]
            exact HT1.out.putG n (bv (digB S n)) (dgF_set S n)
          case measure => simp [intOf]; omega
        · obtain rfl : n = 32 := by omega
          go_wp2_with (first | (refine wpList_load_row rfl 36 _ rfl gD rfl 36 (gA 32 (dgF S 32)) (0,0) _ HT1.out Tryd.underlying36 rfl (by rw [b32_size, gA_size]) ?_) | (refine wpList_store_row rfl 36 _ _ rfl w.heap.size (gA 32 (dgF S 32)) rfl rfl 36 (gA 32 (dgF S 0)) HR1.out (by rw [b32_size, gA_size]) (by rw [gA_size, gA_size]) (dgF_one _ _) ?_))
          exact bodyPost_ret (v := .agg (gA 32 (dgF S 32))) (results_cell_row Tryd.results31 _ _ w.heap.size 36 (gA 32 (dgF S 32)) (0, 0) _ rfl (setRow_heap _ _ _ _ _ _ HR1.out) Tryd.underlying36 rfl (by rw [b32_size, gA_size])) rfl ⟨by rw [HDS.out, dgF_all], below_setRow HW1.out (Nat.le_refl _) _⟩
end Go.Proofs.YtcjbplgjjhenkaaDoor
