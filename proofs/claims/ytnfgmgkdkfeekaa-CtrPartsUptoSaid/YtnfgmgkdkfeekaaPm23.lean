/-
  Package ctr: a block of a stream, by a contract.
-/
import Derived.Test.YtnfgmgkdkfeekaaPm21
import Derived.Test.YtnfgmgkdkfeekaaPm17
import Derived.Test.YtnfgmgkdkfeekaaPm22
import Derived.Test.YtnfgmgkdkfeekaaPm7
import Derived.Test.YtnfgmgkdkfeekaaPm20
import Derived.Test.YtnfgmgkdkfeekaaPm10
/-
  Package aes: a round, and back, by contracts.
-/
namespace Go.Proofs.Ytnfgmgkdkfeekaa
open Go.RowKit
set_option linter.unusedVariables false
set_option linter.unusedSimpArgs false

theorem gdot_q4 (c0 c1 c2 c3 : UInt8) (f : Nat → UInt8) : gdot (q4 c0 c1 c2 c3) f = d4 c0 c1 c2 c3 (f 0) (f 1) (f 2) (f 3) := rfl
theorem mixB_at (c0 c1 c2 c3 : UInt8) (s : Nat → UInt8) (j : Nat) : mixB (q4 c0 c1 c2 c3) s j = d4 c0 c1 c2 c3 (s j) (s ((j % 4 + 1) % 4 + 4 * (j / 4))) (s ((j % 4 + 2) % 4 + 4 * (j / 4))) (s ((j % 4 + 3) % 4 + 4 * (j / 4))) := by
  unfold mixB mixC
  rw [gdot_q4]
  show d4 c0 c1 c2 c3 (s (4 * (j / 4) + (0 + j % 4) % 4)) (s (4 * (j / 4) + (1 + j % 4) % 4)) (s (4 * (j / 4) + (2 + j % 4) % 4)) (s (4 * (j / 4) + (3 + j % 4) % 4)) = _
  rw [show 4 * (j / 4) + (0 + j % 4) % 4 = j by omega, show 4 * (j / 4) + (1 + j % 4) % 4 = (j % 4 + 1) % 4 + 4 * (j / 4) by omega, show 4 * (j / 4) + (2 + j % 4) % 4 = (j % 4 + 2) % 4 + 4 * (j / 4) by omega, show 4 * (j / 4) + (3 + j % 4) % 4 = (j % 4 + 3) % 4 + 4 * (j / 4) by omega]
theorem mixB_rnd (s : Nat → UInt8) : mixB (q4 2 3 1 1) s = rndM s := funext fun j => by rw [mixB_at, rndM_mx]; rfl
theorem mixB_un (s : Nat → UInt8) : mixB (q4 14 11 13 9) s = uM s := funext fun j => by rw [mixB_at]; rfl
structure AEnv (w : World) (b key : Nat → UInt8) (W : World) : Prop where
  bb : Blk W w.heap.size 22 (bA 16 b)
  bk : Blk W (w.heap.size + 1) 22 (bA 16 key)
  br : Blk W (w.heap.size + 1 + 1) 22 (bA 16 fun _ => 0)
  bw : Below w.heap.size w W
theorem AEnv.set {w W : World} {b key : Nat → UInt8} (h : AEnv w b key W) {g : Nat} (hg : w.heap.size + 3 ≤ g) (i : Nat) (u : Value) : AEnv w b key (W.setCell ⟨g, i, none⟩ u) :=
  ⟨h.bb.far (by show w.heap.size ≠ g; omega) u, h.bk.far (by show w.heap.size + 1 ≠ g; omega) u, h.br.far (by show w.heap.size + 1 + 1 ≠ g; omega) u, h.bw.setCell (by show w.heap.size ≤ g; omega) u⟩
theorem AEnv.alloc {w W : World} {b key : Nat → UInt8} (h : AEnv w b key W) (o : Obj) : AEnv w b key (W.alloc o) := ⟨h.bb.alloc o, h.bk.alloc o, h.br.alloc o, h.bw.alloc h.bw.size o⟩
theorem AEnv.drew {w W : World} {b key : Nat → UInt8} (h : AEnv w b key W) : AEnv w b key W.drew := ⟨h.bb.drew_, h.bk.drew_, h.br.drew_, h.bw.drew⟩
theorem AEnv.below {w W W' : World} {b key : Nat → UInt8} (h : AEnv w b key W) (k : Below W.heap.size W W') : AEnv w b key W' := ⟨h.bb.below k h.bb.lt, h.bk.below k h.bk.lt, h.br.below k h.br.lt, h.bw.trans (k.mono h.bw.size)⟩
theorem AEnv.row {w W : World} {b key : Nat → UInt8} (h : AEnv w b key W) {g : Nat} (hg : w.heap.size + 3 ≤ g) (ds : Array Value) : AEnv w b key (W.setRow g ds) := ⟨h.bb.row_far (by omega), h.bk.row_far (by omega), h.br.row_far (by omega), below_setRow h.bw (by omega) _⟩
theorem aenv_start (w : World) (b key : Nat → UInt8) : AEnv w b key (((w.alloc (.cells (bA 16 b) 22)).alloc (.cells (bA 16 key) 22)).alloc (.cells (bA 16 fun _ => 0) 22)) := by
  have n0 := Blk.new w 22 (bA 16 b)
  have n1 := Blk.new (w.alloc (.cells (bA 16 b) 22)) 22 (bA 16 key)
  have n2 := Blk.new ((w.alloc (.cells (bA 16 b) 22)).alloc (.cells (bA 16 key) 22)) 22 (bA 16 fun _ => 0)
  simp only [World.size_alloc] at n1 n2
  exact ⟨(n0.alloc _).alloc _, n1.alloc _, n2, (((Below.refl _ _).alloc (Nat.le_refl _) _).alloc (by simp) _).alloc (by simp; omega) _⟩
/-- A byte that is replaced. -/
def subF (b : Nat → UInt8) : Nat → UInt8 := fun i => gsub (b (srcI i))
theorem subF_rnd (b : Nat → UInt8) : subF b = rndS sbx b := funext fun j => by
  unfold subF rndS
  rw [sbx_at]
  rfl
set_option maxHeartbeats 4000000 in
set_option maxRecDepth 100000 in
theorem around_any (w : World) (b key : Nat → UInt8) (last : Bool) : Calls Try.prog 30 #[.agg (bA 16 b), .agg (bA 16 key), .bool last] w fun e w' => e = .returned (.agg (bA 16 (aRnd last b key))) ∧ Below w.heap.size w w' := by
  have HRE := kept (aRnd_eq last b key)
  rw [← subF_rnd] at HRE
  generalize aRnd last b key = RR at HRE
  go_enter Try.func30, Try.ntmps30
  go_upto_region 2 with (fail)
  go_name_world W0 hW0
  have HE0 := kept (show AEnv w b key W0 by rw [← hW0]; exact (aenv_start w b key).alloc _)
  have HO0 := kept (show Blk W0 (w.heap.size + 1 + 1 + 1) 22 (bA 16 (fillF (subF b) 0)) by
    rw [← hW0]
    have n3 := Blk.new (((w.alloc (.cells (bA 16 b) 22)).alloc (.cells (bA 16 key) 22)).alloc (.cells (bA 16 fun _ => 0) 22)) 22 (bA 16 fun _ => 0)
    simp only [World.size_alloc] at n3
    exact n3)
  clear hW0
  go_wp2_with fail
  go_loopw [9] (fun i wr => ∃ n : Nat, n ≤ 16 ∧ i = .int .i64 n ∧ Kept (AEnv w b key wr) ∧ Kept (Blk wr (w.heap.size + 1 + 1 + 1) 22 (bA 16 (fillF (subF b) n)))) (fun i _ => 16 - (intOf i).toNat)
  case atStart => exact ⟨0, Nat.zero_le _, rfl, HE0, HO0⟩
  case round =>
    obtain ⟨n, hn, rfl, HE1, HO1⟩ := hrel
    rename World => W1
    clear HE0 HO0
    by_cases hlt : n < 16
    · have hn16 : (n : Int) < 16 := by omega
      have HG := kept (show subF b n = gsub (b (srcI n)) from rfl)
      have HSRC := kept (asrc_any W1 n hlt)
      have hs16 := srcI_lt n
      have c1 : W1.cell? ⟨w.heap.size, srcI n, none⟩ = some (.int .u8 ((b (srcI n)).toNat : Int)) := by rw [HE1.out.bb.cell]; exact bA_at _ _ hs16
      generalize b (srcI n) = x at c1 HG
      generalize srcI n = k at c1 hs16 HSRC
      go_wp2_with fail
      refine HSRC.out.mono ?_
      rintro e w' ⟨rfl, rfl⟩
      have hk16 : (k : Int) < 16 := by omega
      go_wp2_with fail
      refine (fsub_any W1 x).mono ?_
      rintro e W2 ⟨rfl, kb⟩
      have HE2 := kept (HE1.out.below kb)
      have HO2 := kept (HO1.out.below kb HO1.out.lt)
      clear HE1 HO1 kb c1 HSRC
      have c3 : W2.cell? ⟨w.heap.size + 1 + 1 + 1, n, none⟩ = some (.int .u8 0) := by rw [HO2.out.cell, bA_at _ _ hlt, fillF_at]; rfl
      have f3 := HO2.out.frozen n
      generalize gsub x = y at HG
      go_wp2
      go_roundw
      case rel => exact ⟨n + 1, by omega, by go_num, kept (HE2.out.set (by omega) _ _), kept (HO2.out.putB n y fun j _ => by rw [← HG.out]; exact fillF_set _ _ _ rfl j)⟩
      case measure => simp [intOf]; omega
    · obtain rfl : n = 16 := by omega
      have HT := kept (show Blk W1 (w.heap.size + 1 + 1 + 1) 22 (bA 16 (subF b)) by rw [← fillF_all]; exact HO1.out)
      clear HO1 hn hlt
      generalize subF b = S at HT HRE
      cases last with
      | true =>
        rw [if_pos rfl] at HRE
        go_wp2_with (first | (refine wpList_load_row rfl 22 (.tmp 7) rfl (w.heap.size + 1 + 1 + 1) rfl 22 (bA 16 S) (0, 0) _ HT.out Try.underlying22 rfl (by rw [b16_size, bA_size]) ?_) | (refine wpList_load_row rfl 22 (.tmp 4) rfl (w.heap.size + 1) rfl 22 (bA 16 key) (0, 0) _ HE1.out.bk Try.underlying22 rfl (by rw [b16_size, bA_size]) ?_))
        refine (axor_any W1 S key).mono ?_
        rintro e W2 ⟨rfl, kb⟩
        have HE2 := kept (HE1.out.below kb)
        clear HE1 HT kb
        rw [← HRE.out]
        go_wp2_with (refine wpList_store_row rfl 22 (.tmp 6) (.tmp 28) rfl (w.heap.size + 1 + 1) (bA 16 RR) rfl rfl 22 (bA 16 fun _ => 0) HE2.out.br (by rw [b16_size, bA_size]) (by rw [bA_size, bA_size]) (bA_one _ _) ?_)
        exact bodyPost_ret (v := .agg (bA 16 RR)) (results_cell_row Try.results30 _ _ (w.heap.size + 1 + 1) 22 (bA 16 RR) (0, 0) _ rfl (setRow_heap _ _ _ _ _ _ HE2.out.br) Try.underlying22 rfl (by rw [b16_size, bA_size])) rfl ⟨rfl, below_setRow HE2.out.bw (by omega) _⟩
      | false =>
        rw [if_neg Bool.false_ne_true, ← mixB_rnd] at HRE
        go_wp2_with fail
        have RG := kept (show ∀ w', Below W1.heap.size W1 w' → w'.rangeAt (w.heap.size + 1 + 1 + 1) 0 (bA 16 S).toList from fun w' h => (HT.out.below h HT.out.lt).range)
        refine wp_region_flow 4 (fun w' => Below W1.heap.size W1 w') [fun v _ => v = .agg (bA 16 S), fun v _ => v = .agg (bA 4 (q4 2 3 1 1)), fun v w' => ∃ g, v = .func (.func 47) #[] #[.pointer (some ⟨g, 0, none⟩)] ∧ Blk w' g 70 (bA 4 (q4 2 3 1 1)), fun v _ => v = .agg (bA 16 (mixB (q4 2 3 1 1) S))] (by kernel_rfl) (by kernel_rfl) rfl (Below.refl _ W1).drew (fun _ _ h k => below_next h k) ?_ ?_ ?_
        · exact stable_cons (stable_eq _) (stable_cons (stable_eq _) (stable_cons (fun v w w' h k => by obtain ⟨g, e, hb⟩ := h; exact ⟨g, e, hb.below k hb.lt⟩) (stable_cons (stable_eq _) (stable_nil))))
        · simp only [List.take_succ_cons, List.take_zero]
          refine OweAll.cons ?_ (OweAll.cons ?_ (OweAll.cons ?_ (OweAll.cons ?_ OweAll.nil)))
          · intro us w' A hA hC hd K hK
            exact flow_load (φ := fun v _ => v = .agg (bA 16 S)) (by rw [hA]; kernel_rfl) 22 (.tmp 7) rfl (w.heap.size + 1 + 1 + 1) 0 (by rw [hA]; kernel_rfl) (bA 16 S).toList _ (RG.out w' hC) Try.underlying22 rfl (s16_len _) rfl hK
          · intro us w' A hA hC hd K hK
            exact flow_value (.agg (bA 4 (q4 2 3 1 1))) (by rw [hA]; kernel_rfl) (by rw [hA]; kernel_rfl) rfl hK
          · intro us w' A hA hC hd K hK
            have e1 : us 1 = .agg (bA 4 (q4 2 3 1 1)) := hd 1 (by kernel_rfl)
            refine flow_call 40 #[us 1] (by rw [hA]; kernel_rfl) (fun _ => by rw [hA]; kernel_rfl) ?_ hK
            rw [e1]
            exact (amixer_any _ _).mono fun e w'' he => by
              obtain ⟨⟨g, h1, _, h3⟩, h4⟩ := he
              exact ⟨_, h1, ⟨g, rfl, h3⟩, h4⟩
          · intro us w' A hA hC hd K hK
            have e0 : us 0 = .agg (bA 16 S) := hd 0 (by kernel_rfl)
            obtain ⟨gm, e2, hgm⟩ := hd 2 (by kernel_rfl)
            refine flow_call 39 #[us 0, us 2] (by rw [hA]; kernel_rfl) (fun _ => by rw [hA]; kernel_rfl) ?_ hK
            rw [e0, e2]
            exact (amixed_any _ gm _ _ hgm).mono fun e w'' he => ⟨_, he.1, rfl, he.2⟩
        · intro us w' A hA hC hd
          subst hA
          have e0 : us 0 = .agg (bA 16 S) := hd 0 (by omega)
          have e1 : us 1 = .agg (bA 4 (q4 2 3 1 1)) := hd 1 (by omega)
          obtain ⟨gm, e2, hgm⟩ := hd 2 (by omega)
          have e3 : us 3 = .agg (bA 16 (mixB (q4 2 3 1 1) S)) := hd 3 (by omega)
          simp only [List.take_succ_cons, List.take_zero, List.drop_succ_cons, List.drop_zero, fillAct, Act.put, Nat.zero_add, Nat.reduceAdd, List.setIfInBounds_toArray, List.set_cons_zero, List.set_cons_succ, e0, e1, e2, e3]
          clear hd 
          have HE2 := kept (HE1.out.below hC)
          have HT2 := kept (HT.out.below hC HT.out.lt)
          clear hC HE1 HT RG e0 e1 e2 e3 hgm
          obtain ⟨M, hM⟩ : ∃ M, mixB (q4 2 3 1 1) S = M := ⟨_, rfl⟩
          rw [hM] at HRE
          rw [hM]
          clear hM
          go_upto_region 9 with (refine wpList_store_row rfl 22 (.tmp 7) (.tmp 25) rfl (w.heap.size + 1 + 1 + 1) (bA 16 M) rfl rfl 22 (bA 16 S) HT2.out (by rw [b16_size, bA_size]) (by rw [bA_size, bA_size]) (bA_one _ _) ?_)
          go_name_world W3 hW3
          have HE3 := kept (show AEnv w b key W3 by rw [← hW3]; exact HE2.out.row (by omega) _)
          have HM3 := kept (show Blk W3 (w.heap.size + 1 + 1 + 1) 22 (bA 16 M) by rw [← hW3]; exact setRow_heap _ _ _ _ _ _ HT2.out)
          clear hW3 HE2 HT2
          go_wp2_with (first | (refine wpList_load_row rfl 22 (.tmp 7) rfl (w.heap.size + 1 + 1 + 1) rfl 22 (bA 16 M) (0, 0) _ HM3.out Try.underlying22 rfl (by rw [b16_size, bA_size]) ?_) | (refine wpList_load_row rfl 22 (.tmp 4) rfl (w.heap.size + 1) rfl 22 (bA 16 key) (0, 0) _ HE3.out.bk Try.underlying22 rfl (by rw [b16_size, bA_size]) ?_))
          refine (axor_any W3 M key).mono ?_
          rintro e W4 ⟨rfl, kb⟩
          have HE4 := kept (HE3.out.below kb)
          clear HE3 HM3 kb
          rw [← HRE.out]
          go_wp2_with (refine wpList_store_row rfl 22 (.tmp 6) (.tmp 28) rfl (w.heap.size + 1 + 1) (bA 16 RR) rfl rfl 22 (bA 16 fun _ => 0) HE4.out.br (by rw [b16_size, bA_size]) (by rw [bA_size, bA_size]) (bA_one _ _) ?_)
          exact bodyPost_ret (v := .agg (bA 16 RR)) (results_cell_row Try.results30 _ _ (w.heap.size + 1 + 1) 22 (bA 16 RR) (0, 0) _ rfl (setRow_heap _ _ _ _ _ _ HE4.out.br) Try.underlying22 rfl (by rw [b16_size, bA_size])) rfl ⟨rfl, below_setRow HE4.out.bw (by omega) _⟩
/-- The place to which a byte is moved back. -/
def dstI (j : Nat) : Nat := j % 4 + 4 * ((j / 4 + 4 - j % 4) % 4)
theorem dst_src : ∀ i, i < 16 → dstI (srcI i) = i := by decide
theorem src_dst : ∀ j, j < 16 → srcI (dstI j) = j := by decide
theorem dst_lt : ∀ j, j < 16 → dstI j < 16 := by decide
/-- The block behind n bytes. -/
def unF (b S : Nat → UInt8) (n : Nat) : Nat → UInt8 := fun j => if dstI j < n then gunsub (S (dstI j)) else b j
theorem unF_set (b S : Nat → UInt8) (n : Nat) (hn : n < 16) (j : Nat) (hj : j < 16) : unF b S (n + 1) j = if j = srcI n then gunsub (S n) else unF b S n j := by
  unfold unF
  by_cases e : j = srcI n
  · rw [if_pos e, e, dst_src n hn, if_pos (by omega)]
  · rw [if_neg e]
    have hne : dstI j ≠ n := fun h => e (by rw [← src_dst j hj, h])
    by_cases h : dstI j < n
    · rw [if_pos h, if_pos (by omega)]
    · rw [if_neg h, if_neg (by omega)]
theorem unF_all (b S : Nat → UInt8) : bA 16 (unF b S 16) = bA 16 (uS S) := bA_ext fun j hj => if_pos (dst_lt j hj)
end Go.Proofs.Ytnfgmgkdkfeekaa
/-
  Package aes: encryption and decryption of a block, by contracts.
-/
namespace Go.Proofs.Ytnfgmgkdkfeekaa
open Go.RowKit
set_option linter.unusedVariables false
set_option linter.unusedSimpArgs false

structure FEnv (w : World) (g5 : Nat) (ks : Nat → UInt8) (W : World) : Prop where
  br : Blk W (w.heap.size + 1 + 1) 22 (bA 16 fun _ => 0)
  bs : Blk W g5 56 (bA 176 ks)
  bw : Below w.heap.size w W
theorem FEnv.below {w W W' : World} {g5 : Nat} {ks : Nat → UInt8} (h : FEnv w g5 ks W) (k : Below W.heap.size W W') : FEnv w g5 ks W' := ⟨h.br.below k h.br.lt, h.bs.below k h.bs.lt, h.bw.trans (k.mono h.bw.size)⟩
theorem FEnv.row {w W : World} {g5 : Nat} {ks : Nat → UInt8} (h : FEnv w g5 ks W) (hg : w.heap.size + 2 < g5) (ds : Array Value) : FEnv w g5 ks (W.setRow (w.heap.size + 1) ds) := ⟨h.br.row_far (by omega), h.bs.row_far (by omega), below_setRow h.bw (by omega) _⟩
theorem kRow_range {w : World} {g : Nat} {t : TypeId} {ks : Nat → UInt8} (h : Blk w g t (bA 176 ks)) : w.rangeAt g 0 (bA 16 (kRow ks 0)).toList := by
  have := h.row_range 0 (by omega)
  rwa [Nat.zero_mul] at this
set_option maxHeartbeats 4000000 in
set_option maxRecDepth 100000 in
theorem aenc_any (w : World) (key b : Nat → UInt8) : Calls Try.prog 24 #[.agg (bA 16 key), .agg (bA 16 b)] w fun e w' => e = .returned (.agg (bA 16 (aEnc key b))) ∧ Below w.heap.size w w' := by
  obtain ⟨ks, hks⟩ : ∃ ks, aKey key = ks := ⟨_, rfl⟩
  have HKY := kept (fun w => akeys_any w key)
  rw [hks] at HKY
  have HRES := kept (show aEnc key b = aSt ks b 10 by rw [← hks]; rfl)
  generalize aEnc key b = RES at HRES
  clear hks
  have hz1 := zero11
  go_enter Try.func24, Try.ntmps24
  go_upto_region 1 with (fail)
  go_name_world W0 hW0
  have HK0 := kept (show Blk W0 w.heap.size 22 (bA 16 key) by rw [← hW0]; exact ((Blk.new w _ _).alloc _).alloc _)
  have HB0 := kept (show Blk W0 (w.heap.size + 1) 22 (bA 16 b) by
    rw [← hW0]
    have n1 := Blk.new (w.alloc (.cells (bA 16 key) 22)) 22 (bA 16 b)
    simp only [World.size_alloc] at n1
    exact n1.alloc _)
  have HZ0 := kept (show Blk W0 (w.heap.size + 1 + 1) 22 (bA 16 fun _ => 0) by
    rw [← hW0]
    have n2 := Blk.new ((w.alloc (.cells (bA 16 key) 22)).alloc (.cells (bA 16 b) 22)) 22 (bA 16 fun _ => 0)
    simp only [World.size_alloc] at n2
    exact n2)
  have HW0 := kept (show Below w.heap.size w W0 by rw [← hW0]; exact (((Below.refl _ _).alloc (Nat.le_refl _) _).alloc (by simp) _).alloc (by simp; omega) _)
  clear hW0
  go_wp2_with (refine wpList_load_row rfl 22 (.tmp 2) rfl w.heap.size rfl 22 (bA 16 key) (0, 0) _ HK0.out Try.underlying22 rfl (by rw [b16_size, bA_size]) ?_)
  refine (HKY.out W0).mono ?_
  rintro e W1 ⟨rfl, kb⟩
  have HB1 := kept (HB0.out.below kb HB0.out.lt)
  have HZ1 := kept (HZ0.out.below kb HZ0.out.lt)
  have HW1 := kept (HW0.out.trans (kb.mono HW0.out.size))
  clear kb HK0 HB0 HZ0 HW0 HKY
  have hg5 : w.heap.size + 2 < W1.heap.size := HZ1.out.lt
  go_upto_region 2 with (refine wpList_store_row rfl 56 (.tmp 5) (.tmp 8) rfl W1.heap.size (bA 176 ks) rfl rfl 56 (bA 176 fun _ => 0) (Blk.new W1 _ _) (by rw [b176_size, bA_size]) (by rw [bA_size, bA_size]) (bA_one _ _) ?_)
  go_name_world W2 hW2
  have HB2 := kept (show Blk W2 (w.heap.size + 1) 22 (bA 16 b) by rw [← hW2]; exact (HB1.out.alloc _).row_far (by omega))
  have HE2 := kept (show FEnv w W1.heap.size ks W2 by
    rw [← hW2]
    exact ⟨(HZ1.out.alloc _).row_far (by omega), setRow_heap _ _ _ _ _ _ (Blk.new W1 _ _), below_setRow (HW1.out.alloc HW1.out.size _) (by omega) _⟩)
  clear hW2 hz1 HB1 HZ1 HW1
  generalize W1.heap.size = g5 at hg5 HE2
  have RG := kept (kRow_range HE2.out.bs)
  go_wp2_with (first | (refine wpList_load_row rfl 22 (.tmp 3) rfl (w.heap.size + 1) rfl 22 (bA 16 b) (0, 0) _ HB2.out Try.underlying22 rfl (by rw [b16_size, bA_size]) ?_) | (refine wpList_load_mid rfl 22 (.tmp 10) rfl g5 0 rfl (bA 16 (kRow ks 0)).toList _ RG.out Try.underlying22 rfl (s16_len _) ?_))
  refine (axor_any W2 b (kRow ks 0)).mono ?_
  rintro e W3 ⟨rfl, kb⟩
  have HE3 := kept (HE2.out.below kb)
  have HB3 := kept (HB2.out.below kb HB2.out.lt)
  clear HE2 HB2 kb RG
  obtain ⟨X, hX⟩ : ∃ X, aXor b (kRow ks 0) = X := ⟨_, rfl⟩
  rw [hX]
  have HX := kept (show aSt ks b 0 = X from hX)
  clear hX
  go_upto_region 3 with (refine wpList_store_row rfl 22 (.tmp 3) (.tmp 12) rfl (w.heap.size + 1) (bA 16 X) rfl rfl 22 (bA 16 b) HB3.out (by rw [b16_size, bA_size]) (by rw [bA_size, bA_size]) (bA_one _ _) ?_)
  go_name_world W4 hW4
  have HE4 := kept (show FEnv w g5 ks W4 by rw [← hW4]; exact HE3.out.row hg5 _)
  have HB4 := kept (show Blk W4 (w.heap.size + 1) 22 (bA 16 (aSt ks b 0)) by rw [← hW4, HX.out]; exact setRow_heap _ _ _ _ _ _ HB3.out)
  clear hW4 HE3 HB3 HX
  go_wp2_with fail
  go_loopw [6] (fun i wr => ∃ n : Nat, n ≤ 10 ∧ i = .int .i64 ((n + 1 : Nat) : Int) ∧ Kept (FEnv w g5 ks wr) ∧ Kept (Blk wr (w.heap.size + 1) 22 (bA 16 (aSt ks b n)))) (fun i _ => 11 - (intOf i).toNat)
  case atStart => exact ⟨0, Nat.zero_le _, rfl, HE4, HB4⟩
  case round =>
    obtain ⟨n, hn, rfl, HE5, HB5⟩ := hrel
    rename World => W5
    clear HE4 HB4
    by_cases hlt : n < 10
    · have hn10 : ((n + 1 : Nat) : Int) ≤ 10 := by omega
      have hn0 : 0 ≤ ((n + 1 : Nat) : Int) := by omega
      have hn11 : ((n + 1 : Nat) : Int) < 11 := by omega
      have hq : (((n + 1 : Nat) : Int) == 10) = (n + 1 == 10) := by
        rw [Bool.eq_iff_iff, beq_iff_eq, beq_iff_eq]
        omega
      have HN := kept (show aSt ks b (n + 1) = aRnd (n + 1 == 10) (aSt ks b n) (kRow ks (n + 1)) from rfl)
      have hm12 : n + 1 < 11 := by omega
      obtain ⟨m, hm⟩ : ∃ m, n + 1 = m := ⟨_, rfl⟩
      rw [hm] at HN hq hn10 hn0 hn11 hm12
      rw [hm]
      have HM := kept hm
      clear hm hlt hn
      obtain ⟨K, hK⟩ : ∃ K, kRow ks m = K := ⟨_, rfl⟩
      have HKR := kept hK
      rw [hK] at HN
      obtain ⟨S, hS⟩ : ∃ S, aSt ks b n = S := ⟨_, rfl⟩
      rw [hS] at HN HB5
      clear hK hS
      go_wp2_with fail
      obtain ⟨C, hCd⟩ : ∃ C : World → Prop, C = fun w' => Below W5.heap.size W5 w' := ⟨_, rfl⟩
      have HC := kept (show ∀ w', C w' → Below W5.heap.size W5 w' from fun w' h => by rw [hCd] at h; exact h)
      have HC' := kept (show ∀ w', Below W5.heap.size W5 w' → C w' from fun w' h => by rw [hCd]; exact h)
      clear hCd
      have Q1 := kept (show ∀ w', C w' → w'.rangeAt (w.heap.size + 1) 0 (bA 16 S).toList from fun w' h => (HB5.out.below (HC.out _ h) HB5.out.lt).range)
      have Q2 := kept (show ∀ w', C w' → w'.rangeAt g5 (m * 16) (bA 16 K).toList from fun w' h => by rw [← HKR.out]; exact (HE5.out.bs.below (HC.out _ h) HE5.out.bs.lt).row_range m hm12)
      refine wp_region_tail C 7 (by kernel_rfl) (by kernel_rfl) (HC'.out _ (Below.refl _ W5).drew) ?_
      simp only [List.take_succ_cons, List.take_zero, List.drop_succ_cons, List.drop_zero]
      refine quiet_load (by rfl) 22 (.tmp 3) rfl (w.heap.size + 1) 0 rfl (bA 16 S).toList _ Q1.out Try.underlying22 rfl (s16_len _) ?_
      quiet_step (exact fun _ => rfl)
      quiet_step (exact fun _ => rfl)
      refine quiet_load (by rfl) 22 (.tmp 19) rfl g5 (m * 16) (by rfl) (bA 16 K).toList _ Q2.out Try.underlying22 rfl (s16_len _) ?_
      quiet_step (exact fun _ => rfl)
      quiet_step (exact fun _ => rfl)
      quiet_step (exact fun hw' => (around_any _ S K (m == 10)).mono fun e w'' he => ⟨he.1, HC'.out _ ((HC.out _ hw').trans (he.2.mono (HC.out _ hw').size))⟩)
      refine wpQuiet_nil ?_
      intro W6 hC6
      have hb6 := HC.out _ hC6
      have HE6 := kept (HE5.out.below hb6)
      have HB6 := kept (HB5.out.below hb6 HB5.out.lt)
      clear hC6 hb6 HC HC' Q1 Q2 HE5 HB5
      obtain ⟨T, hT⟩ : ∃ T, aRnd (m == 10) S K = T := ⟨_, rfl⟩
      rw [hT] at HN
      rw [hT]
      clear hT
      go_wp2_with (refine wpList_store_row rfl 22 (.tmp 3) (.tmp 23) rfl (w.heap.size + 1) (bA 16 T) rfl rfl 22 (bA 16 S) HB6.out (by rw [b16_size, bA_size]) (by rw [bA_size, bA_size]) (bA_one _ _) ?_)
      go_roundw
      case rel => exact ⟨n + 1, by have := HM.out; omega, congrArg (Value.int .i64) (by have := HM.out; omega), kept (HE6.out.row hg5 _), kept (by rw [HM.out, HN.out]; exact setRow_heap _ _ _ _ _ _ HB6.out)⟩
      case measure => have := HM.out; simp [intOf]; omega
    · obtain rfl : n = 10 := by omega
      rw [← HRES.out] at HB5
      clear hn hlt HRES
      go_wp2_with (first | (refine wpList_load_row rfl 22 (.tmp 3) rfl (w.heap.size + 1) rfl 22 (bA 16 RES) (0, 0) _ HB5.out Try.underlying22 rfl (by rw [b16_size, bA_size]) ?_) | (refine wpList_store_row rfl 22 (.tmp 4) (.tmp 24) rfl (w.heap.size + 1 + 1) (bA 16 RES) rfl rfl 22 (bA 16 (fun _ => 0)) HE5.out.br (by rw [b16_size, bA_size]) (by rw [bA_size, bA_size]) (bA_one _ _) ?_))
      exact bodyPost_ret (v := .agg (bA 16 RES)) (results_cell_row Try.results24 _ _ (w.heap.size + 1 + 1) 22 (bA 16 RES) (0, 0) _ rfl (setRow_heap _ _ _ _ _ _ HE5.out.br) Try.underlying22 rfl (by rw [b16_size, bA_size])) rfl ⟨rfl, below_setRow HE5.out.bw (by omega) _⟩
end Go.Proofs.Ytnfgmgkdkfeekaa
namespace Go.Proofs.Ytnfgmgkdkfeekaa
open Go.RowKit
set_option linter.unusedVariables false
set_option linter.unusedSimpArgs false

/-- A nonce, and the last k bytes of a number behind it. -/
def bFill (nonce : Nat → UInt8) (i k : Nat) : Nat → UInt8 := fun j => if j < 8 then nonce j else if 15 < j + k then UInt8.ofNat (i / 256 ^ (15 - j) % 256) else 0
theorem bFill_set (nonce : Nat → UInt8) (i k j : Nat) (hk : k < 8) (hj : j < 16) : bFill nonce i (k + 1) j = if j = 15 - k then UInt8.ofNat (i / 256 ^ k % 256) else bFill nonce i k j := by
  unfold bFill
  by_cases e : j = 15 - k
  · subst e
    rw [if_pos rfl, if_neg (by omega), if_pos (by omega), show 15 - (15 - k) = k by omega]
  · rw [if_neg e]
    by_cases h : j < 8
    · rw [if_pos h, if_pos h]
    · rw [if_neg h, if_neg h]
      by_cases h2 : 15 < j + k
      · rw [if_pos h2, if_pos (by omega)]
      · rw [if_neg h2, if_neg (by omega)]
theorem bFill_zero (nonce : Nat → UInt8) (i : Nat) : (splice (bA 16 fun _ => 0).toList 0 (bA 8 nonce).toList).toArray = bA 16 (bFill nonce i 0) := by
  rw [splice_bA _ _ 16 0 8 (by omega)]
  refine bA_ext fun j hj => ?_
  unfold bFill
  by_cases h : j < 8
  · rw [if_pos (by omega), if_pos h, Nat.sub_zero]
  · rw [if_neg (by omega), if_neg h, if_neg (by omega)]
theorem bFill_all (nonce : Nat → UInt8) (i : Nat) : bA 16 (bFill nonce i 8) = bA 16 (cBlk nonce i) := bA_ext fun j hj => by
  unfold bFill cBlk
  by_cases h : j < 8
  · rw [if_pos h, if_pos h]
  · rw [if_neg h, if_neg h, if_pos (by omega)]
theorem al8 : Try.prog.arrayLen 23 = 8 := by simp [Program.arrayLen, Try.underlying23]
theorem el8 : Try.prog.elem 23 = 5 := by simp [Program.elem, Try.underlying23]
theorem slice8_all (w : World) (g : Nat) : (Instr.sliceAt 23 (.pointer (some ⟨g, 0, none⟩)) none none none).run Try.prog w = .ok (.slice (some ⟨g, 0, none⟩) 8 8) w := by
  rw [run_sliceAt_array_all w 23 ⟨g, 0, none⟩ (by simp [Program.arrayLen, Program.elem, Try.underlying23])]
  rw [al8, el8, size_u8]
  show Result.ok (slicedAt _ _ _ _ _) w = _
  unfold slicedAt
  rw [if_neg (by omega), Addr.add_mid]
theorem slice16_all (w : World) (g : Nat) : (Instr.sliceAt 22 (.pointer (some ⟨g, 0, none⟩)) none none none).run Try.prog w = .ok (.slice (some ⟨g, 0, none⟩) 16 16) w := by
  rw [run_sliceAt_array_all w 22 ⟨g, 0, none⟩ (by simp [Program.arrayLen, Program.elem, Try.underlying22])]
  rw [al16, el16, size_u8]
  show Result.ok (slicedAt _ _ _ _ _) w = _
  unfold slicedAt
  rw [if_neg (by omega), Addr.add_mid]
structure BEnv (w : World) (key : Nat → UInt8) (W : World) : Prop where
  bk : Blk W w.heap.size 22 (bA 16 key)
  br : Blk W (w.heap.size + 1 + 1) 22 (bA 16 fun _ => 0)
  bw : Below w.heap.size w W
theorem BEnv.set {w W : World} {key : Nat → UInt8} (h : BEnv w key W) {g : Nat} (hg : w.heap.size + 3 ≤ g) (i : Nat) (u : Value) : BEnv w key (W.setCell ⟨g, i, none⟩ u) :=
  ⟨h.bk.far (by show w.heap.size ≠ g; omega) u, h.br.far (by show w.heap.size + 1 + 1 ≠ g; omega) u, h.bw.setCell (by show w.heap.size ≤ g; omega) u⟩
theorem BEnv.row {w W : World} {key : Nat → UInt8} (h : BEnv w key W) {g : Nat} (hg : w.heap.size + 3 ≤ g) (ds : Array Value) : BEnv w key (W.setRow g ds) :=
  ⟨h.bk.row_far (by omega), h.br.row_far (by omega), below_setRow h.bw (by omega) _⟩
theorem BEnv.below {w W W' : World} {key : Nat → UInt8} (h : BEnv w key W) (k : Below W.heap.size W W') : BEnv w key W' :=
  ⟨h.bk.below k h.bk.lt, h.br.below k h.br.lt, below_next h.bw k⟩
theorem BEnv.drew {w W : World} {key : Nat → UInt8} (h : BEnv w key W) : BEnv w key W.drew := ⟨h.bk.drew_, h.br.drew_, h.bw.drew⟩
set_option maxHeartbeats 2000000 in
set_option maxRecDepth 100000 in
theorem cblock_any (w : World) (key nonce : Nat → UInt8) (i : Nat) (hi : i < 18446744073709551616) : Calls Try.prog 18 #[.agg (bA 16 key), .agg (bA 8 nonce), .int .u64 (i : Int)] w fun e w' => e = .returned (.agg (bA 16 (cEnc key nonce i))) ∧ Below w.heap.size w w' := by
  go_enter Try.func18, Try.ntmps18
  go_upto_region 2 with (fail)
  go_name_world W0 hW0
  have n0 := Blk.new w 22 (bA 16 key)
  have n1 := Blk.new (w.alloc (.cells (bA 16 key) 22)) 23 (bA 8 nonce)
  have n2 := Blk.new ((w.alloc (.cells (bA 16 key) 22)).alloc (.cells (bA 8 nonce) 23)) 22 (bA 16 fun _ => 0)
  have n3 := Blk.new (((w.alloc (.cells (bA 16 key) 22)).alloc (.cells (bA 8 nonce) 23)).alloc (.cells (bA 16 fun _ => 0) 22)) 22 (bA 16 fun _ => 0)
  simp only [World.size_alloc] at n1 n2 n3
  have HE0 := kept (show BEnv w key W0 by
    rw [← hW0]
    exact ⟨((n0.alloc _).alloc _).alloc _, n2.alloc _, ((((Below.refl _ _).alloc (Nat.le_refl _) _).alloc (by simp) _).alloc (by simp; omega) _).alloc (by simp; omega) _⟩)
  have HN0 := kept (show Blk W0 (w.heap.size + 1) 23 (bA 8 nonce) by rw [← hW0]; exact (n1.alloc _).alloc _)
  have HB0 := kept (show Blk W0 (w.heap.size + 1 + 1 + 1) 22 (bA 16 fun _ => 0) by rw [← hW0]; exact n3)
  clear hW0 n0 n1 n2 n3
  have hs1 := fun w' => slice16_all w' (w.heap.size + 1 + 1 + 1)
  have hs2 := fun w' => slice8_all w' (w.heap.size + 1)
  have HSRC := kept (show ∀ j v, (bA 8 nonce).toList[j]? = some v → W0.drew.cell? ((⟨w.heap.size + 1, 0, none⟩ : Addr).add j) = some v from fun j v hv => by
    rw [Addr.add_mid, Nat.zero_add]
    show W0.cell? _ = _
    rw [HN0.out.cell]
    simpa using hv)
  have HLM := kept (show (bA 8 nonce).toList.length = 8 by rw [Array.length_toList, bA_size])
  have HONE := kept (show ∀ v ∈ (bA 8 nonce).toList, v.oneCell' = true from fun v hv => by
    have := bA_one 8 nonce
    rw [Array.all_eq_true_iff_forall_mem] at this
    exact this v (by simpa using hv))
  obtain ⟨CC, hCd⟩ : ∃ CC : World → Prop, CC = fun w' => w' = W0.drew := ⟨_, rfl⟩
  have HC := kept (show ∀ w', CC w' → w' = W0.drew from fun w' h => by rw [hCd] at h; exact h)
  have hC0 : CC W0.drew := by rw [hCd]
  clear hCd
  refine wp_region_tail CC 2 (by kernel_rfl) (by kernel_rfl) hC0 ?_
  simp only [List.take_succ_cons, List.take_zero, List.drop_succ_cons, List.drop_zero]
  quiet_step (exact fun _ => rfl)
  quiet_step (exact fun _ => rfl)
  refine wpQuiet_nil ?_
  intro W5 hC5
  rw [HC.out _ hC5]
  clear hC5 hC0 HC
  go_wp2_with (refine wpList_copy_own rfl (.tmp 9) (.tmp 10) 27 27 rfl 5 Try.underlying27 u8_size (w.heap.size + 1 + 1 + 1) 0 16 16 ⟨w.heap.size + 1, 0, none⟩ 8 8 rfl rfl (bA 16 fun _ => 0) 22 HB0.out (bA 8 nonce).toList (by rw [HLM.out]; show _ = min _ _; omega) HSRC.out (by rw [HLM.out, bA_size]; omega) HONE.out ?_)
  go_name_world W6 hW6
  have HE6 := kept (show BEnv w key W6 by rw [← hW6]; exact HE0.out.drew.row (by omega) _)
  have HB6 := kept (show Blk W6 (w.heap.size + 1 + 1 + 1) 22 (bA 16 (bFill nonce i 0)) by
    rw [← hW6, ← bFill_zero, show (splice (bA 16 fun _ => 0).toList 0 (bA 8 nonce).toList).toArray = ((bA 8 nonce).toList ++ List.drop (bA 8 nonce).size (bA 16 fun _ => 0).toList).toArray by simp [splice]]
    exact setRow_heap _ _ _ _ _ _ HB0.out.drew_)
  clear hW6 HE0 HB0 HN0 hs1 hs2 HSRC HLM HONE
  generalize (bA 8 nonce).size = sz
  go_loopw [12] (fun k wr => ∃ n : Nat, n ≤ 8 ∧ k = .int .i64 n ∧ Kept (BEnv w key wr) ∧ Kept (Blk wr (w.heap.size + 1 + 1 + 1) 22 (bA 16 (bFill nonce i n)))) (fun k _ => 8 - (intOf k).toNat)
  case atStart => exact ⟨0, Nat.zero_le _, rfl, HE6, HB6⟩
  case round =>
    obtain ⟨n, hn, rfl, HE1, HB1⟩ := hrel
    rename World => W1
    clear HE6 HB6
    by_cases hlt : n < 8
    · have hn8 : (n : Int) < 8 := by omega
      have HS := kept fun j (hj : j < 16) => bFill_set nonce i n j hlt hj
      have HM := kept (digit n i)
      have c3 : ∃ o : UInt8, W1.cell? ⟨w.heap.size + 1 + 1 + 1, 15 - n, none⟩ = some (.int .u8 (o.toNat : Int)) := ⟨_, by rw [HB1.out.cell]; exact bA_at _ _ (by omega)⟩
      obtain ⟨o3, c3⟩ := c3
      have f3 := HB1.out.frozen (15 - n)
      have h15 : (15 : Int) - (n : Int) = ((15 - n : Nat) : Int) := by omega
      go_wp2_with fail
      refine ⟨⟨n + 1, by omega, by go_num, kept (HE1.out.set (by omega) _ _), kept ?_⟩, by simp [intOf]; omega⟩
      rw [HM.out]
      exact HB1.out.putB (15 - n) _ HS.out
    · obtain rfl : n = 8 := by omega
      have HB2 := kept (show Blk W1 (w.heap.size + 1 + 1 + 1) 22 (bA 16 (cBlk nonce i)) by rw [← bFill_all]; exact HB1.out)
      clear HB1 hn hlt
      go_wp2_with (first | (refine wpList_load_row rfl 22 (.tmp 3) rfl w.heap.size rfl 22 (bA 16 key) (0, 0) _ HE1.out.bk Try.underlying22 rfl (by rw [b16_size, bA_size]) ?_) | (refine wpList_load_row rfl 22 (.tmp 7) rfl (w.heap.size + 1 + 1 + 1) rfl 22 (bA 16 (cBlk nonce i)) (0, 0) _ HB2.out Try.underlying22 rfl (by rw [b16_size, bA_size]) ?_))
      refine (aenc_any W1 key (cBlk nonce i)).mono ?_
      rintro e w2 ⟨rfl, k⟩
      have HE2 := kept (HE1.out.below k)
      clear k HE1 HB2
      obtain ⟨R, hR⟩ : ∃ R, aEnc key (cBlk nonce i) = R := ⟨_, rfl⟩
      rw [hR]
      have HR := kept (show cEnc key nonce i = R from hR)
      clear hR
      go_wp2_with (refine wpList_store_row rfl 22 (.tmp 6) (.tmp 26) rfl (w.heap.size + 1 + 1) (bA 16 R) rfl rfl 22 (bA 16 (fun _ => 0)) HE2.out.br (by rw [b16_size, bA_size]) (by rw [bA_size, bA_size]) (bA_one _ _) ?_)
      exact bodyPost_ret (v := .agg (bA 16 R)) (results_cell_row Try.results18 _ _ (w.heap.size + 1 + 1) 22 (bA 16 R) (0, 0) _ rfl (setRow_heap _ _ _ _ _ _ HE2.out.br) Try.underlying22 rfl (by rw [b16_size, bA_size])) rfl ⟨by rw [HR.out], below_setRow HE2.out.bw (by omega) _⟩
end Go.Proofs.Ytnfgmgkdkfeekaa
