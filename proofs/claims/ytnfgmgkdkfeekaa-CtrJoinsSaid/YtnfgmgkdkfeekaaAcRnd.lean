/-
  Package aes: a round, and back, by contracts.
-/
import Derived.Test.YtnfgmgkdkfeekaaAcMixd
import Derived.Test.YtnfgmgkdkfeekaaFlcSub
import Derived.Test.YtnfgmgkdkfeekaaFlow
import Derived.Test.YtnfgmgkdkfeekaaAesEq
namespace Go.Proofs.Ytnfgmgkdkfeekaa
open Go.RowKit
set_option linter.unusedVariables false
set_option linter.unusedSimpArgs false

theorem gdot_q4 (c0 c1 c2 c3 : UInt8) (f : Nat → UInt8) : gdot (q4 c0 c1 c2 c3) f = d4 c0 c1 c2 c3 (f 0) (f 1) (f 2) (f 3) := rfl
theorem mixB_at (c0 c1 c2 c3 : UInt8) (s : Nat → UInt8) (j : Nat) : mixB (q4 c0 c1 c2 c3) s j = d4 c0 c1 c2 c3 (s j) (s ((j % 4 + 1) % 4 + 4 * (j / 4))) (s ((j % 4 + 2) % 4 + 4 * (j / 4))) (s ((j % 4 + 3) % 4 + 4 * (j / 4))) := by
  unfold mixB mixC
  rw [gdot_q4]
  show d4 c0 c1 c2 c3 (s (4 * (j / 4) + (0 + j % 4) % 4)) (s (4 * (j / 4) + (1 + j % 4) % 4)) (s (4 * (j / 4) + (2 + j % 4) % 4)) (s (4 * (j / 4) + (3 + j % 4) % 4)) = _
  rw [show 4 * (j / 4) + (0 + j % 4) % 4 = j by omega, show 4 * (j / 4) + (1 + j % 4) % 4 = (j % 4 + 1) % 4 + 4 * (j / 4) by omega, show 4 * (j / 4) + (2 + j % 4) % 4 = (j % 4 + 2) % 4 + 4 * (j / 4) by omega, show 4 * (j / 4) + (3 + j % 4) % 4 = (j % 4 + 3) % 4 + 4 * (j / 4) by omega]
theorem mixB_rnd (s : Nat → UInt8) : mixB (q4 2 3 1 1) s = rndM s := funext fun j => by rw [mixB_at, rndM_mx]; rfl
theorem mixB_un (s : Nat → UInt8) : mixB (q4 14 11 13 9) s = uM s := funext fun j => by rw [mixB_at]; rfl
structure AEnv (w : World) (b key : Nat → UInt8) (W : World) : Prop where
  bb : Blk W w.heap.size 22 (bA 16 b)
  bk : Blk W (w.heap.size + 1) 22 (bA 16 key)
  br : Blk W (w.heap.size + 1 + 1) 22 (bA 16 fun _ => 0)
  bw : Below w.heap.size w W
theorem AEnv.set {w W : World} {b key : Nat → UInt8} (h : AEnv w b key W) {g : Nat} (hg : w.heap.size + 3 ≤ g) (i : Nat) (u : Value) : AEnv w b key (W.setCell ⟨g, i, none⟩ u) :=
  ⟨h.bb.far (by show w.heap.size ≠ g; omega) u, h.bk.far (by show w.heap.size + 1 ≠ g; omega) u, h.br.far (by show w.heap.size + 1 + 1 ≠ g; omega) u, h.bw.setCell (by show w.heap.size ≤ g; omega) u⟩
theorem AEnv.alloc {w W : World} {b key : Nat → UInt8} (h : AEnv w b key W) (o : Obj) : AEnv w b key (W.alloc o) := ⟨h.bb.alloc o, h.bk.alloc o, h.br.alloc o, h.bw.alloc h.bw.size o⟩
theorem AEnv.drew {w W : World} {b key : Nat → UInt8} (h : AEnv w b key W) : AEnv w b key W.drew := ⟨h.bb.drew_, h.bk.drew_, h.br.drew_, h.bw.drew⟩
theorem AEnv.below {w W W' : World} {b key : Nat → UInt8} (h : AEnv w b key W) (k : Below W.heap.size W W') : AEnv w b key W' := ⟨h.bb.below k h.bb.lt, h.bk.below k h.bk.lt, h.br.below k h.br.lt, h.bw.trans (k.mono h.bw.size)⟩
theorem AEnv.row {w W : World} {b key : Nat → UInt8} (h : AEnv w b key W) {g : Nat} (hg : w.heap.size + 3 ≤ g) (ds : Array Value) : AEnv w b key (W.setRow g ds) := ⟨h.bb.row_far (by omega), h.bk.row_far (by omega), h.br.row_far (by omega), below_setRow h.bw (by omega) _⟩
theorem aenv_start (w : World) (b key : Nat → UInt8) : AEnv w b key (((w.alloc (.cells (bA 16 b) 22)).alloc (.cells (bA 16 key) 22)).alloc (.cells (bA 16 fun _ => 0) 22)) := by
  have n0 := Blk.new w 22 (bA 16 b)
  have n1 := Blk.new (w.alloc (.cells (bA 16 b) 22)) 22 (bA 16 key)
  have n2 := Blk.new ((w.alloc (.cells (bA 16 b) 22)).alloc (.cells (bA 16 key) 22)) 22 (bA 16 fun _ => 0)
  simp only [World.size_alloc] at n1 n2
  exact ⟨(n0.alloc _).alloc _, n1.alloc _, n2, (((Below.refl _ _).alloc (Nat.le_refl _) _).alloc (by simp) _).alloc (by simp; omega) _⟩
/-- A byte that is replaced. -/
def subF (b : Nat → UInt8) : Nat → UInt8 := fun i => gsub (b (srcI i))
theorem subF_rnd (b : Nat → UInt8) : subF b = rndS sbx b := funext fun j => by
  unfold subF rndS
  rw [sbx_at]
  rfl
set_option maxHeartbeats 4000000 in
set_option maxRecDepth 100000 in
theorem around_any (w : World) (b key : Nat → UInt8) (last : Bool) : Calls Try.prog 30 #[.agg (bA 16 b), .agg (bA 16 key), .bool last] w fun e w' => e = .returned (.agg (bA 16 (aRnd last b key))) ∧ Below w.heap.size w w' := by
  have HRE := kept (aRnd_eq last b key)
  rw [← subF_rnd] at HRE
  generalize aRnd last b key = RR at HRE
  go_enter Try.func30, Try.ntmps30
  go_upto_region 2 with (fail)
  go_name_world W0 hW0
  have HE0 := kept (show AEnv w b key W0 by rw [← hW0]; exact (aenv_start w b key).alloc _)
  have HO0 := kept (show Blk W0 (w.heap.size + 1 + 1 + 1) 22 (bA 16 (fillF (subF b) 0)) by
    rw [← hW0]
    have n3 := Blk.new (((w.alloc (.cells (bA 16 b) 22)).alloc (.cells (bA 16 key) 22)).alloc (.cells (bA 16 fun _ => 0) 22)) 22 (bA 16 fun _ => 0)
    simp only [World.size_alloc] at n3
    exact n3)
  clear hW0
  go_wp2_with fail
  go_loopw [9] (fun i wr => ∃ n : Nat, n ≤ 16 ∧ i = .int .i64 n ∧ Kept (AEnv w b key wr) ∧ Kept (Blk wr (w.heap.size + 1 + 1 + 1) 22 (bA 16 (fillF (subF b) n)))) (fun i _ => 16 - (intOf i).toNat)
  case atStart => exact ⟨0, Nat.zero_le _, rfl, HE0, HO0⟩
  case round =>
    obtain ⟨n, hn, rfl, HE1, HO1⟩ := hrel
    rename World => W1
    clear HE0 HO0
    by_cases hlt : n < 16
    · have hn16 : (n : Int) < 16 := by omega
      have HG := kept (show subF b n = gsub (b (srcI n)) from rfl)
      have HSRC := kept (asrc_any W1 n hlt)
      have hs16 := srcI_lt n
      have c1 : W1.cell? ⟨w.heap.size, srcI n, none⟩ = some (.int .u8 ((b (srcI n)).toNat : Int)) := by rw [HE1.out.bb.cell]; exact bA_at _ _ hs16
      generalize b (srcI n) = x at c1 HG
      generalize srcI n = k at c1 hs16 HSRC
      go_wp2_with fail
      refine HSRC.out.mono ?_
      rintro e w' ⟨rfl, rfl⟩
      have hk16 : (k : Int) < 16 := by omega
      go_wp2_with fail
      refine (fsub_any W1 x).mono ?_
      rintro e W2 ⟨rfl, kb⟩
      have HE2 := kept (HE1.out.below kb)
      have HO2 := kept (HO1.out.below kb HO1.out.lt)
      clear HE1 HO1 kb c1 HSRC
      have c3 : W2.cell? ⟨w.heap.size + 1 + 1 + 1, n, none⟩ = some (.int .u8 0) := by rw [HO2.out.cell, bA_at _ _ hlt, fillF_at]; rfl
      have f3 := HO2.out.frozen n
      generalize gsub x = y at HG
      go_wp2
      go_roundw
      case rel => exact ⟨n + 1, by omega, by go_num, kept (HE2.out.set (by omega) _ _), kept (HO2.out.putB n y fun j _ => by rw [← HG.out]; exact fillF_set _ _ _ rfl j)⟩
      case measure => simp [intOf]; omega
    · obtain rfl : n = 16 := by omega
      have HT := kept (show Blk W1 (w.heap.size + 1 + 1 + 1) 22 (bA 16 (subF b)) by rw [← fillF_all]; exact HO1.out)
      clear HO1 hn hlt
      generalize subF b = S at HT HRE
      cases last with
      | true =>
        rw [if_pos rfl] at HRE
        go_wp2_with (first | (refine wpList_load_row rfl 22 (.tmp 7) rfl (w.heap.size + 1 + 1 + 1) rfl 22 (bA 16 S) (0, 0) _ HT.out Try.underlying22 rfl (by rw [b16_size, bA_size]) ?_) | (refine wpList_load_row rfl 22 (.tmp 4) rfl (w.heap.size + 1) rfl 22 (bA 16 key) (0, 0) _ HE1.out.bk Try.underlying22 rfl (by rw [b16_size, bA_size]) ?_))
        refine (axor_any W1 S key).mono ?_
        rintro e W2 ⟨rfl, kb⟩
        have HE2 := kept (HE1.out.below kb)
        clear HE1 HT kb
        rw [← HRE.out]
        go_wp2_with (refine wpList_store_row rfl 22 (.tmp 6) (.tmp 28) rfl (w.heap.size + 1 + 1) (bA 16 RR) rfl rfl 22 (bA 16 fun _ => 0) HE2.out.br (by rw [b16_size, bA_size]) (by rw [bA_size, bA_size]) (bA_one _ _) ?_)
        exact bodyPost_ret (v := .agg (bA 16 RR)) (results_cell_row Try.results30 _ _ (w.heap.size + 1 + 1) 22 (bA 16 RR) (0, 0) _ rfl (setRow_heap _ _ _ _ _ _ HE2.out.br) Try.underlying22 rfl (by rw [b16_size, bA_size])) rfl ⟨rfl, below_setRow HE2.out.bw (by omega) _⟩
      | false =>
        rw [if_neg Bool.false_ne_true, ← mixB_rnd] at HRE
        go_wp2_with fail
        have RG := kept (show ∀ w', Below W1.heap.size W1 w' → w'.rangeAt (w.heap.size + 1 + 1 + 1) 0 (bA 16 S).toList from fun w' h => (HT.out.below h HT.out.lt).range)
        refine wp_region_flow 4 (fun w' => Below W1.heap.size W1 w') [fun v _ => v = .agg (bA 16 S), fun v _ => v = .agg (bA 4 (q4 2 3 1 1)), fun v w' => ∃ g, v = .func (.func 47) #[] #[.pointer (some ⟨g, 0, none⟩)] ∧ Blk w' g 70 (bA 4 (q4 2 3 1 1)), fun v _ => v = .agg (bA 16 (mixB (q4 2 3 1 1) S))] (by kernel_rfl) (by kernel_rfl) rfl (Below.refl _ W1).drew (fun _ _ h k => below_next h k) ?_ ?_ ?_
        · exact stable_cons (stable_eq _) (stable_cons (stable_eq _) (stable_cons (fun v w w' h k => by obtain ⟨g, e, hb⟩ := h; exact ⟨g, e, hb.below k hb.lt⟩) (stable_cons (stable_eq _) (stable_nil))))
        · simp only [List.take_succ_cons, List.take_zero]
          refine OweAll.cons ?_ (OweAll.cons ?_ (OweAll.cons ?_ (OweAll.cons ?_ OweAll.nil)))
          · intro us w' A hA hC hd K hK
            exact flow_load (φ := fun v _ => v = .agg (bA 16 S)) (by rw [hA]; kernel_rfl) 22 (.tmp 7) rfl (w.heap.size + 1 + 1 + 1) 0 (by rw [hA]; kernel_rfl) (bA 16 S).toList _ (RG.out w' hC) Try.underlying22 rfl (s16_len _) rfl hK
          · intro us w' A hA hC hd K hK
            exact flow_value (.agg (bA 4 (q4 2 3 1 1))) (by rw [hA]; kernel_rfl) (by rw [hA]; kernel_rfl) rfl hK
          · intro us w' A hA hC hd K hK
            have e1 : us 1 = .agg (bA 4 (q4 2 3 1 1)) := hd 1 (by kernel_rfl)
            refine flow_call 40 #[us 1] (by rw [hA]; kernel_rfl) (fun _ => by rw [hA]; kernel_rfl) ?_ hK
            rw [e1]
            exact (amixer_any _ _).mono fun e w'' he => by
              obtain ⟨⟨g, h1, _, h3⟩, h4⟩ := he
              exact ⟨_, h1, ⟨g, rfl, h3⟩, h4⟩
          · intro us w' A hA hC hd K hK
            have e0 : us 0 = .agg (bA 16 S) := hd 0 (by kernel_rfl)
            obtain ⟨gm, e2, hgm⟩ := hd 2 (by kernel_rfl)
            refine flow_call 39 #[us 0, us 2] (by rw [hA]; kernel_rfl) (fun _ => by rw [hA]; kernel_rfl) ?_ hK
            rw [e0, e2]
            exact (amixed_any _ gm _ _ hgm).mono fun e w'' he => ⟨_, he.1, rfl, he.2⟩
        · intro us w' A hA hC hd
          subst hA
          have e0 : us 0 = .agg (bA 16 S) := hd 0 (by omega)
          have e1 : us 1 = .agg (bA 4 (q4 2 3 1 1)) := hd 1 (by omega)
          obtain ⟨gm, e2, hgm⟩ := hd 2 (by omega)
          have e3 : us 3 = .agg (bA 16 (mixB (q4 2 3 1 1) S)) := hd 3 (by omega)
          simp only [List.take_succ_cons, List.take_zero, List.drop_succ_cons, List.drop_zero, fillAct, Act.put, Nat.zero_add, Nat.reduceAdd, List.setIfInBounds_toArray, List.set_cons_zero, List.set_cons_succ, e0, e1, e2, e3]
          clear hd 
          have HE2 := kept (HE1.out.below hC)
          have HT2 := kept (HT.out.below hC HT.out.lt)
          clear hC HE1 HT RG e0 e1 e2 e3 hgm
          obtain ⟨M, hM⟩ : ∃ M, mixB (q4 2 3 1 1) S = M := ⟨_, rfl⟩
          rw [hM] at HRE
          rw [hM]
          clear hM
          go_upto_region 9 with (refine wpList_store_row rfl 22 (.tmp 7) (.tmp 25) rfl (w.heap.size + 1 + 1 + 1) (bA 16 M) rfl rfl 22 (bA 16 S) HT2.out (by rw [b16_size, bA_size]) (by rw [bA_size, bA_size]) (bA_one _ _) ?_)
          go_name_world W3 hW3
          have HE3 := kept (show AEnv w b key W3 by rw [← hW3]; exact HE2.out.row (by omega) _)
          have HM3 := kept (show Blk W3 (w.heap.size + 1 + 1 + 1) 22 (bA 16 M) by rw [← hW3]; exact setRow_heap _ _ _ _ _ _ HT2.out)
          clear hW3 HE2 HT2
          go_wp2_with (first | (refine wpList_load_row rfl 22 (.tmp 7) rfl (w.heap.size + 1 + 1 + 1) rfl 22 (bA 16 M) (0, 0) _ HM3.out Try.underlying22 rfl (by rw [b16_size, bA_size]) ?_) | (refine wpList_load_row rfl 22 (.tmp 4) rfl (w.heap.size + 1) rfl 22 (bA 16 key) (0, 0) _ HE3.out.bk Try.underlying22 rfl (by rw [b16_size, bA_size]) ?_))
          refine (axor_any W3 M key).mono ?_
          rintro e W4 ⟨rfl, kb⟩
          have HE4 := kept (HE3.out.below kb)
          clear HE3 HM3 kb
          rw [← HRE.out]
          go_wp2_with (refine wpList_store_row rfl 22 (.tmp 6) (.tmp 28) rfl (w.heap.size + 1 + 1) (bA 16 RR) rfl rfl 22 (bA 16 fun _ => 0) HE4.out.br (by rw [b16_size, bA_size]) (by rw [bA_size, bA_size]) (bA_one _ _) ?_)
          exact bodyPost_ret (v := .agg (bA 16 RR)) (results_cell_row Try.results30 _ _ (w.heap.size + 1 + 1) 22 (bA 16 RR) (0, 0) _ rfl (setRow_heap _ _ _ _ _ _ HE4.out.br) Try.underlying22 rfl (by rw [b16_size, bA_size])) rfl ⟨rfl, below_setRow HE4.out.bw (by omega) _⟩
/-- The place to which a byte is moved back. -/
def dstI (j : Nat) : Nat := j % 4 + 4 * ((j / 4 + 4 - j % 4) % 4)
theorem dst_src : ∀ i, i < 16 → dstI (srcI i) = i := by decide
theorem src_dst : ∀ j, j < 16 → srcI (dstI j) = j := by decide
theorem dst_lt : ∀ j, j < 16 → dstI j < 16 := by decide
/-- The block behind n bytes. -/
def unF (b S : Nat → UInt8) (n : Nat) : Nat → UInt8 := fun j => if dstI j < n then gunsub (S (dstI j)) else b j
theorem unF_set (b S : Nat → UInt8) (n : Nat) (hn : n < 16) (j : Nat) (hj : j < 16) : unF b S (n + 1) j = if j = srcI n then gunsub (S n) else unF b S n j := by
  unfold unF
  by_cases e : j = srcI n
  · rw [if_pos e, e, dst_src n hn, if_pos (by omega)]
  · rw [if_neg e]
    have hne : dstI j ≠ n := fun h => e (by rw [← src_dst j hj, h])
    by_cases h : dstI j < n
    · rw [if_pos h, if_pos (by omega)]
    · rw [if_neg h, if_neg (by omega)]
theorem unF_all (b S : Nat → UInt8) : bA 16 (unF b S 16) = bA 16 (uS S) := bA_ext fun j hj => if_pos (dst_lt j hj)
end Go.Proofs.Ytnfgmgkdkfeekaa
