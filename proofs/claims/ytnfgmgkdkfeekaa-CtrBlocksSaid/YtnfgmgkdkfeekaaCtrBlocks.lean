/-
  A block of the stream is the encryption of the nonce and its number, and streams of different nonces are different: the law CtrBlocks returns true for every input. No condition.
-/
import Derived.Test.YtnfgmgkdkfeekaaCtrLaw
namespace Go.Proofs.Ytnfgmgkdkfeekaa.ctrBlocks
open Go.ChangeShapes Go.WideShapes Go.ChangeAt Go.RowKit
set_option linter.unusedVariables false
set_option linter.unusedSimpArgs false

set_option maxHeartbeats 4000000 in
set_option maxRecDepth 100000 in
theorem walk (w : World) (key nonce other : Nat → UInt8) (i : Nat) (hi : i < 18446744073709551616) :
    Calls Try.prog 6 #[.agg (bA 16 key), .agg (bA 8 nonce), .agg (bA 8 other), .int .u64 (i : Int)] w fun e w' => e = .returned (.bool true) ∧ Below w.heap.size w w' := by
  obtain ⟨i2, hi2⟩ : ∃ i2, (i + 1) % 18446744073709551616 = i2 := ⟨_, rfl⟩
  have hadd : IntKind.u64.wrap ((i : Int) + 1) = (i2 : Int) := by
    rw [IntKind.wrap_u64]
    omega
  have hi3 : i2 < 18446744073709551616 := by omega
  go_enter Try.func6, Try.ntmps6
  go_upto_region 1 with (fail)
  go_name_world W0 hW0
  have n0 := Blk.new w 22 (bA 16 key)
  have n1 := Blk.new (w.alloc (.cells (bA 16 key) 22)) 23 (bA 8 nonce)
  have n2 := Blk.new ((w.alloc (.cells (bA 16 key) 22)).alloc (.cells (bA 8 nonce) 23)) 23 (bA 8 other)
  simp only [World.size_alloc] at n1 n2
  have H0 := kept (show Blk W0 w.heap.size 22 (bA 16 key) by rw [← hW0]; exact (n0.alloc _).alloc _)
  have H1 := kept (show Blk W0 (w.heap.size + 1) 23 (bA 8 nonce) by rw [← hW0]; exact n1.alloc _)
  have H2 := kept (show Blk W0 (w.heap.size + 1 + 1) 23 (bA 8 other) by rw [← hW0]; exact n2)
  have HW := kept (show Below w.heap.size w W0 by rw [← hW0]; exact (((Below.refl w.heap.size w).alloc (Nat.le_refl _) (.cells (bA 16 key) 22)).alloc (by simp) (.cells (bA 8 nonce) 23)).alloc (by simp; omega) (.cells (bA 8 other) 23))
  clear hW0 n0 n1 n2
  go_wp2_with fail
  refine (cawake_any W0).mono ?_
  rintro e W1 ⟨rfl, k⟩
  replace H0 := kept (H0.out.below k H0.out.lt)
  replace H1 := kept (H1.out.below k H1.out.lt)
  replace H2 := kept (H2.out.below k H2.out.lt)
  replace HW := kept (below_next HW.out k)
  clear k
  have hlt : w.heap.size + 1 + 1 < W1.heap.size := H2.out.lt
  go_upto_region 3 with (fail)
  go_wp2_with (first | (refine wpList_load_row rfl 22 (.tmp 4) rfl w.heap.size rfl 22 (bA 16 key) (0, 0) _ H0.out Try.underlying22 rfl (by rw [b16_size, bA_size]) ?_) | (refine wpList_load_row rfl 23 (.tmp 5) rfl (w.heap.size + 1) rfl 23 (bA 8 nonce) (0, 0) _ H1.out Try.underlying23 rfl (by rw [b8_size, bA_size]) ?_))
  refine (cblock_any W1 key nonce i hi).mono ?_
  rintro e W2 ⟨rfl, k⟩
  replace H0 := kept (H0.out.below k H0.out.lt)
  replace H1 := kept (H1.out.below k H1.out.lt)
  replace H2 := kept (H2.out.below k H2.out.lt)
  replace HW := kept (below_next HW.out k)
  have hlt2 : w.heap.size + 1 + 1 < W2.heap.size := H2.out.lt
  clear k hlt
  obtain ⟨E, hE⟩ : ∃ E, cEnc key nonce i = E := ⟨_, rfl⟩
  rw [hE]
  go_upto_region 4 with (refine wpList_store_row rfl 22 (.tmp 9) (.tmp 16) rfl W2.heap.size (bA 16 E) rfl rfl 22 (bA 16 fun _ => 0) (Blk.new W2 _ _) (by rw [b16_size, bA_size]) (by rw [bA_size, bA_size]) (bA_one _ _) ?_)
  go_name_world W3 hW3
  replace H0 := kept (show Blk W3 w.heap.size 22 (bA 16 key) by rw [← hW3]; exact (H0.out.alloc _).row_far (by omega))
  replace H1 := kept (show Blk W3 (w.heap.size + 1) 23 (bA 8 nonce) by rw [← hW3]; exact (H1.out.alloc _).row_far (by omega))
  replace H2 := kept (show Blk W3 (w.heap.size + 1 + 1) 23 (bA 8 other) by rw [← hW3]; exact (H2.out.alloc _).row_far (by omega))
  have H3 := kept (show Blk W3 W2.heap.size 22 (bA 16 E) by rw [← hW3]; exact setRow_heap _ _ _ _ _ _ (Blk.new W2 _ _))
  replace HW := kept (show Below w.heap.size w W3 by rw [← hW3]; exact below_setRow (HW.out.alloc HW.out.size _) HW.out.size _)
  clear hW3
  generalize W2.heap.size = g3 at hlt2 H3
  go_wp2_with (first | (refine wpList_load_row rfl 22 (.tmp 4) rfl w.heap.size rfl 22 (bA 16 key) (0, 0) _ H0.out Try.underlying22 rfl (by rw [b16_size, bA_size]) ?_) | (refine wpList_load_row rfl 23 (.tmp 6) rfl (w.heap.size + 1 + 1) rfl 23 (bA 8 other) (0, 0) _ H2.out Try.underlying23 rfl (by rw [b8_size, bA_size]) ?_))
  refine (cblock_any W3 key other i hi).mono ?_
  rintro e W4 ⟨rfl, k⟩
  replace H0 := kept (H0.out.below k H0.out.lt)
  replace H1 := kept (H1.out.below k H1.out.lt)
  replace H2 := kept (H2.out.below k H2.out.lt)
  replace H3 := kept (H3.out.below k H3.out.lt)
  replace HW := kept (below_next HW.out k)
  have hlt4 : g3 < W4.heap.size := H3.out.lt
  clear k
  obtain ⟨E2, hE2⟩ : ∃ E2, cEnc key other i = E2 := ⟨_, rfl⟩
  rw [hE2]
  go_upto_region 5 with (refine wpList_store_row rfl 22 (.tmp 10) (.tmp 20) rfl W4.heap.size (bA 16 E2) rfl rfl 22 (bA 16 fun _ => 0) (Blk.new W4 _ _) (by rw [b16_size, bA_size]) (by rw [bA_size, bA_size]) (bA_one _ _) ?_)
  go_name_world W5 hW5
  replace H0 := kept (show Blk W5 w.heap.size 22 (bA 16 key) by rw [← hW5]; exact (H0.out.alloc _).row_far (by omega))
  replace H1 := kept (show Blk W5 (w.heap.size + 1) 23 (bA 8 nonce) by rw [← hW5]; exact (H1.out.alloc _).row_far (by omega))
  replace H2 := kept (show Blk W5 (w.heap.size + 1 + 1) 23 (bA 8 other) by rw [← hW5]; exact (H2.out.alloc _).row_far (by omega))
  replace H3 := kept (show Blk W5 g3 22 (bA 16 E) by rw [← hW5]; exact (H3.out.alloc _).row_far (by omega))
  have H4 := kept (show Blk W5 W4.heap.size 22 (bA 16 E2) by rw [← hW5]; exact setRow_heap _ _ _ _ _ _ (Blk.new W4 _ _))
  replace HW := kept (show Below w.heap.size w W5 by rw [← hW5]; exact below_setRow (HW.out.alloc HW.out.size _) HW.out.size _)
  clear hW5
  generalize W4.heap.size = g4 at hlt4 H4
  have hsame : eq16 E E2 = eq8 nonce other := by
    by_cases h : Eq8 nonce other
    · rw [eq8_yes h, ← hE, ← hE2]
      exact eq16_yes (by unfold cEnc; rw [cBlk_cong h i]; exact fun _ _ => rfl)
    · rw [eq8_no h]
      exact eq16_no (fun e => h (cEnc_nonce key nonce other i (by rw [hE, hE2]; exact e)))
  have hnext : eq16 E (cEnc key nonce i2) = false := eq16_no (by rw [← hE]; exact cEnc_next key nonce i i2 (by omega))
  have HC3 := kept (fun w' => cblock_any w' key nonce i2 hi3)
  have HRB := kept (fun w' => rcblock_any w' key nonce i hi)
  rw [hE] at HRB
  have q1 := fun w' => run_eql16 E E w'
  rw [eq16_yes (fun _ _ => rfl)] at q1
  have q2 := fun w' => run_eql16 E E2 w'
  rw [hsame] at q2
  have q3 := fun w' => run_eql8 nonce other w'
  have q4 := fun w' => run_equalIn16 E (cEnc key nonce i2) w'
  rw [hnext] at q4
  generalize cEnc key nonce i2 = E3 at HC3 q4
  generalize eq8 nonce other = same at q2 q3
  clear hsame hnext hE hE2 hi hi2 hi3
  have R0 := kept (show ∀ w', Below W5.heap.size W5 w' → w'.rangeAt w.heap.size 0 (bA 16 key).toList from fun w' h => (H0.out.below h H0.out.lt).range)
  have R1 := kept (show ∀ w', Below W5.heap.size W5 w' → w'.rangeAt (w.heap.size + 1) 0 (bA 8 nonce).toList from fun w' h => (H1.out.below h H1.out.lt).range)
  have R2 := kept (show ∀ w', Below W5.heap.size W5 w' → w'.rangeAt (w.heap.size + 1 + 1) 0 (bA 8 other).toList from fun w' h => (H2.out.below h H2.out.lt).range)
  have R3 := kept (show ∀ w', Below W5.heap.size W5 w' → w'.rangeAt g3 0 (bA 16 E).toList from fun w' h => (H3.out.below h H3.out.lt).range)
  have R4 := kept (show ∀ w', Below W5.heap.size W5 w' → w'.rangeAt g4 0 (bA 16 E2).toList from fun w' h => (H4.out.below h H4.out.lt).range)
  refine wp_region_flow 26 (fun w' => Below W5.heap.size W5 w') [fun v _ => v = .agg (bA 16 E), fun v _ => v = .agg (bA 16 key), fun v _ => v = .agg (bA 8 nonce), fun v _ => v = .int .u64 (i : Int), fun v _ => v = .agg (bA 256 sbx), fun v _ => v = .agg (bA 16 E), fun v _ => v = .bool true, fun v _ => v = .bool true, fun v _ => v = .agg (bA 16 E), fun v _ => v = .agg (bA 16 E2), fun v _ => v = .bool same, fun v _ => v = .agg (bA 8 nonce), fun v _ => v = .agg (bA 8 other), fun v _ => v = .bool same, fun v _ => v = .bool true, fun v _ => v = .bool true, fun v _ => v = .bool true, fun v _ => v = .agg (bA 16 E), fun v _ => v = .agg (bA 16 key), fun v _ => v = .agg (bA 8 nonce), fun v _ => v = .int .u64 (i : Int), fun v _ => v = .int .u64 (i2 : Int), fun v _ => v = .agg (bA 16 E3), fun v _ => v = .bool true, fun v _ => v = .bool true, fun v _ => v = .bool true] (by kernel_rfl) (by kernel_rfl) rfl (Below.refl _ W5).drew (fun _ _ h k => below_next h k) ?_ ?_ ?_
  · exact stable_cons (stable_eq _) (stable_cons (stable_eq _) (stable_cons (stable_eq _) (stable_cons (stable_eq _) (stable_cons (stable_eq _) (stable_cons (stable_eq _) (stable_cons (stable_eq _) (stable_cons (stable_eq _) (stable_cons (stable_eq _) (stable_cons (stable_eq _) (stable_cons (stable_eq _) (stable_cons (stable_eq _) (stable_cons (stable_eq _) (stable_cons (stable_eq _) (stable_cons (stable_eq _) (stable_cons (stable_eq _) (stable_cons (stable_eq _) (stable_cons (stable_eq _) (stable_cons (stable_eq _) (stable_cons (stable_eq _) (stable_cons (stable_eq _) (stable_cons (stable_eq _) (stable_cons (stable_eq _) (stable_cons (stable_eq _) (stable_cons (stable_eq _) (stable_cons (stable_eq _) (stable_nil))))))))))))))))))))))))))
  · simp only [List.take_succ_cons, List.take_zero]
    refine OweAll.cons ?_ (OweAll.cons ?_ (OweAll.cons ?_ (OweAll.cons ?_ (OweAll.cons ?_ (OweAll.cons ?_ (OweAll.cons ?_ (OweAll.cons ?_ (OweAll.cons ?_ (OweAll.cons ?_ (OweAll.cons ?_ (OweAll.cons ?_ (OweAll.cons ?_ (OweAll.cons ?_ (OweAll.cons ?_ (OweAll.cons ?_ (OweAll.cons ?_ (OweAll.cons ?_ (OweAll.cons ?_ (OweAll.cons ?_ (OweAll.cons ?_ (OweAll.cons ?_ (OweAll.cons ?_ (OweAll.cons ?_ (OweAll.cons ?_ (OweAll.cons ?_ OweAll.nil)))))))))))))))))))))))))
    · intro us w' A hA hC hd K hK
      exact flow_load (φ := fun v _ => v = .agg (bA 16 E)) (by rw [hA]; kernel_rfl) 22 (.tmp 9) rfl g3 0 (by rw [hA]; kernel_rfl) (bA 16 E).toList _ (R3.out w' hC) Try.underlying22 rfl (s16_len _) rfl hK
    · intro us w' A hA hC hd K hK
      exact flow_load (φ := fun v _ => v = .agg (bA 16 key)) (by rw [hA]; kernel_rfl) 22 (.tmp 4) rfl w.heap.size 0 (by rw [hA]; kernel_rfl) (bA 16 key).toList _ (R0.out w' hC) Try.underlying22 rfl (s16_len _) rfl hK
    · intro us w' A hA hC hd K hK
      exact flow_load (φ := fun v _ => v = .agg (bA 8 nonce)) (by rw [hA]; kernel_rfl) 23 (.tmp 5) rfl (w.heap.size + 1) 0 (by rw [hA]; kernel_rfl) (bA 8 nonce).toList _ (R1.out w' hC) Try.underlying23 rfl (s8_len _) rfl hK
    · intro us w' A hA hC hd K hK
      exact flow_value (.int .u64 (i : Int)) (by rw [hA]; kernel_rfl) (by rw [hA]; kernel_rfl) rfl hK
    · intro us w' A hA hC hd K hK
      refine flow_call 20 #[] (by rw [hA]; kernel_rfl) (fun _ => by rw [hA]; kernel_rfl) ?_ hK
      exact calls_known (rbox7_any w')
    · intro us w' A hA hC hd K hK
      have e1 : us 1 = .agg (bA 16 key) := hd 1 (by kernel_rfl)
      have e2 : us 2 = .agg (bA 8 nonce) := hd 2 (by kernel_rfl)
      have e3 : us 3 = .int .u64 (i : Int) := hd 3 (by kernel_rfl)
      have e4 : us 4 = .agg (bA 256 sbx) := hd 4 (by kernel_rfl)
      refine flow_call 19 #[us 1, us 2, us 3, us 4] (by rw [hA]; kernel_rfl) (fun _ => by rw [hA]; kernel_rfl) ?_ hK
      rw [e1, e2, e3, e4]
      exact calls_known (HRB.out w')
    · intro us w' A hA hC hd K hK
      have e0 : us 0 = .agg (bA 16 E) := hd 0 (by kernel_rfl)
      have e5 : us 5 = .agg (bA 16 E) := hd 5 (by kernel_rfl)
      have ev21 : A.tmps[21]?.getD undef = us 0 := by rw [hA]; kernel_rfl
      rw [e0] at ev21
      have ev26 : A.tmps[26]?.getD undef = us 5 := by rw [hA]; kernel_rfl
      rw [e5] at ev26
      refine flow_value (.bool true) (by rw [hA]; kernel_rfl) ?_ rfl hK
      clear hA hd hK
      go_simp
    · intro us w' A hA hC hd K hK
      have e6 : us 6 = .bool true := hd 6 (by kernel_rfl)
      have ev27 : A.tmps[27]?.getD undef = us 6 := by rw [hA]; kernel_rfl
      rw [e6] at ev27
      refine flow_value (.bool true) (by rw [hA]; kernel_rfl) ?_ rfl hK
      clear hA hd hK
      go_simp
    · intro us w' A hA hC hd K hK
      have e7 : us 7 = .bool true := hd 7 (by kernel_rfl)
      have gv : A.tmps[28]? = some (us 7) := by rw [hA]; kernel_rfl
      rw [e7] at gv
      exact flow_load (φ := fun v _ => v = .agg (bA 16 E)) (by rw [guard_known 7 true true 28 rfl rfl gv]; rfl) 22 (.tmp 9) rfl g3 0 (by rw [hA]; kernel_rfl) (bA 16 E).toList _ (R3.out w' hC) Try.underlying22 rfl (s16_len _) rfl hK
    · intro us w' A hA hC hd K hK
      have e7 : us 7 = .bool true := hd 7 (by kernel_rfl)
      have gv : A.tmps[28]? = some (us 7) := by rw [hA]; kernel_rfl
      rw [e7] at gv
      exact flow_load (φ := fun v _ => v = .agg (bA 16 E2)) (by rw [guard_known 7 true true 28 rfl rfl gv]; rfl) 22 (.tmp 10) rfl g4 0 (by rw [hA]; kernel_rfl) (bA 16 E2).toList _ (R4.out w' hC) Try.underlying22 rfl (s16_len _) rfl hK
    · intro us w' A hA hC hd K hK
      have e8 : us 8 = .agg (bA 16 E) := hd 8 (by kernel_rfl)
      have e9 : us 9 = .agg (bA 16 E2) := hd 9 (by kernel_rfl)
      have e7 : us 7 = .bool true := hd 7 (by kernel_rfl)
      have gv : A.tmps[28]? = some (us 7) := by rw [hA]; kernel_rfl
      rw [e7] at gv
      have ev29 : A.tmps[29]?.getD undef = us 8 := by rw [hA]; kernel_rfl
      rw [e8] at ev29
      have ev30 : A.tmps[30]?.getD undef = us 9 := by rw [hA]; kernel_rfl
      rw [e9] at ev30
      refine flow_value (.bool same) (by rw [guard_known 7 true true 28 rfl rfl gv]; rfl) ?_ rfl hK
      clear hA hd hK gv
      go_simp
    · intro us w' A hA hC hd K hK
      have e7 : us 7 = .bool true := hd 7 (by kernel_rfl)
      have gv : A.tmps[28]? = some (us 7) := by rw [hA]; kernel_rfl
      rw [e7] at gv
      exact flow_load (φ := fun v _ => v = .agg (bA 8 nonce)) (by rw [guard_known 7 true true 28 rfl rfl gv]; rfl) 23 (.tmp 5) rfl (w.heap.size + 1) 0 (by rw [hA]; kernel_rfl) (bA 8 nonce).toList _ (R1.out w' hC) Try.underlying23 rfl (s8_len _) rfl hK
    · intro us w' A hA hC hd K hK
      have e7 : us 7 = .bool true := hd 7 (by kernel_rfl)
      have gv : A.tmps[28]? = some (us 7) := by rw [hA]; kernel_rfl
      rw [e7] at gv
      exact flow_load (φ := fun v _ => v = .agg (bA 8 other)) (by rw [guard_known 7 true true 28 rfl rfl gv]; rfl) 23 (.tmp 6) rfl (w.heap.size + 1 + 1) 0 (by rw [hA]; kernel_rfl) (bA 8 other).toList _ (R2.out w' hC) Try.underlying23 rfl (s8_len _) rfl hK
    · intro us w' A hA hC hd K hK
      have e11 : us 11 = .agg (bA 8 nonce) := hd 11 (by kernel_rfl)
      have e12 : us 12 = .agg (bA 8 other) := hd 12 (by kernel_rfl)
      have e7 : us 7 = .bool true := hd 7 (by kernel_rfl)
      have gv : A.tmps[28]? = some (us 7) := by rw [hA]; kernel_rfl
      rw [e7] at gv
      have ev32 : A.tmps[32]?.getD undef = us 11 := by rw [hA]; kernel_rfl
      rw [e11] at ev32
      have ev33 : A.tmps[33]?.getD undef = us 12 := by rw [hA]; kernel_rfl
      rw [e12] at ev33
      refine flow_value (.bool same) (by rw [guard_known 7 true true 28 rfl rfl gv]; rfl) ?_ rfl hK
      clear hA hd hK gv
      go_simp
    · intro us w' A hA hC hd K hK
      have e10 : us 10 = .bool same := hd 10 (by kernel_rfl)
      have e13 : us 13 = .bool same := hd 13 (by kernel_rfl)
      have e7 : us 7 = .bool true := hd 7 (by kernel_rfl)
      have gv : A.tmps[28]? = some (us 7) := by rw [hA]; kernel_rfl
      rw [e7] at gv
      have ev31 : A.tmps[31]?.getD undef = us 10 := by rw [hA]; kernel_rfl
      rw [e10] at ev31
      have ev34 : A.tmps[34]?.getD undef = us 13 := by rw [hA]; kernel_rfl
      rw [e13] at ev34
      refine flow_value (.bool true) (by rw [guard_known 7 true true 28 rfl rfl gv]; rfl) ?_ rfl hK
      clear hA hd hK gv
      go_simp
    · intro us w' A hA hC hd K hK
      have e7 : us 7 = .bool true := hd 7 (by kernel_rfl)
      have e14 : us 14 = .bool true := hd 14 (by kernel_rfl)
      have ev28 : A.tmps[28]?.getD undef = us 7 := by rw [hA]; kernel_rfl
      rw [e7] at ev28
      have ev35 : A.tmps[35]?.getD undef = us 14 := by rw [hA]; kernel_rfl
      rw [e14] at ev35
      refine flow_value (.bool true) (by rw [hA]; kernel_rfl) ?_ rfl hK
      clear hA hd hK
      go_simp
    · intro us w' A hA hC hd K hK
      have e15 : us 15 = .bool true := hd 15 (by kernel_rfl)
      have ev36 : A.tmps[36]?.getD undef = us 15 := by rw [hA]; kernel_rfl
      rw [e15] at ev36
      refine flow_value (.bool true) (by rw [hA]; kernel_rfl) ?_ rfl hK
      clear hA hd hK
      go_simp
    · intro us w' A hA hC hd K hK
      have e16 : us 16 = .bool true := hd 16 (by kernel_rfl)
      have gv : A.tmps[37]? = some (us 16) := by rw [hA]; kernel_rfl
      rw [e16] at gv
      exact flow_load (φ := fun v _ => v = .agg (bA 16 E)) (by rw [guard_known 16 true true 37 rfl rfl gv]; rfl) 22 (.tmp 9) rfl g3 0 (by rw [hA]; kernel_rfl) (bA 16 E).toList _ (R3.out w' hC) Try.underlying22 rfl (s16_len _) rfl hK
    · intro us w' A hA hC hd K hK
      have e16 : us 16 = .bool true := hd 16 (by kernel_rfl)
      have gv : A.tmps[37]? = some (us 16) := by rw [hA]; kernel_rfl
      rw [e16] at gv
      exact flow_load (φ := fun v _ => v = .agg (bA 16 key)) (by rw [guard_known 16 true true 37 rfl rfl gv]; rfl) 22 (.tmp 4) rfl w.heap.size 0 (by rw [hA]; kernel_rfl) (bA 16 key).toList _ (R0.out w' hC) Try.underlying22 rfl (s16_len _) rfl hK
    · intro us w' A hA hC hd K hK
      have e16 : us 16 = .bool true := hd 16 (by kernel_rfl)
      have gv : A.tmps[37]? = some (us 16) := by rw [hA]; kernel_rfl
      rw [e16] at gv
      exact flow_load (φ := fun v _ => v = .agg (bA 8 nonce)) (by rw [guard_known 16 true true 37 rfl rfl gv]; rfl) 23 (.tmp 5) rfl (w.heap.size + 1) 0 (by rw [hA]; kernel_rfl) (bA 8 nonce).toList _ (R1.out w' hC) Try.underlying23 rfl (s8_len _) rfl hK
    · intro us w' A hA hC hd K hK
      have e16 : us 16 = .bool true := hd 16 (by kernel_rfl)
      have gv : A.tmps[37]? = some (us 16) := by rw [hA]; kernel_rfl
      rw [e16] at gv
      exact flow_value (.int .u64 (i : Int)) (by rw [guard_known 16 true true 37 rfl rfl gv]; rfl) (by rw [hA]; kernel_rfl) rfl hK
    · intro us w' A hA hC hd K hK
      have e20 : us 20 = .int .u64 (i : Int) := hd 20 (by kernel_rfl)
      have e16 : us 16 = .bool true := hd 16 (by kernel_rfl)
      have gv : A.tmps[37]? = some (us 16) := by rw [hA]; kernel_rfl
      rw [e16] at gv
      have ev41 : A.tmps[41]?.getD undef = us 20 := by rw [hA]; kernel_rfl
      rw [e20] at ev41
      refine flow_value (.int .u64 (i2 : Int)) (by rw [guard_known 16 true true 37 rfl rfl gv]; rfl) ?_ rfl hK
      clear hA hd hK gv
      go_simp
    · intro us w' A hA hC hd K hK
      have e18 : us 18 = .agg (bA 16 key) := hd 18 (by kernel_rfl)
      have e19 : us 19 = .agg (bA 8 nonce) := hd 19 (by kernel_rfl)
      have e21 : us 21 = .int .u64 (i2 : Int) := hd 21 (by kernel_rfl)
      have e16 : us 16 = .bool true := hd 16 (by kernel_rfl)
      have gv : A.tmps[37]? = some (us 16) := by rw [hA]; kernel_rfl
      rw [e16] at gv
      refine flow_call 18 #[us 18, us 19, us 21] (by rw [guard_known 16 true true 37 rfl rfl gv]; rfl) (fun _ => by rw [hA]; kernel_rfl) ?_ hK
      rw [e18, e19, e21]
      exact calls_known (HC3.out w')
    · intro us w' A hA hC hd K hK
      have e17 : us 17 = .agg (bA 16 E) := hd 17 (by kernel_rfl)
      have e22 : us 22 = .agg (bA 16 E3) := hd 22 (by kernel_rfl)
      have e16 : us 16 = .bool true := hd 16 (by kernel_rfl)
      have gv : A.tmps[37]? = some (us 16) := by rw [hA]; kernel_rfl
      rw [e16] at gv
      have ev38 : A.tmps[38]?.getD undef = us 17 := by rw [hA]; kernel_rfl
      rw [e17] at ev38
      have ev43 : A.tmps[43]?.getD undef = us 22 := by rw [hA]; kernel_rfl
      rw [e22] at ev43
      refine flow_value (.bool true) (by rw [guard_known 16 true true 37 rfl rfl gv]; rfl) ?_ rfl hK
      clear hA hd hK gv
      go_simp
    · intro us w' A hA hC hd K hK
      have e16 : us 16 = .bool true := hd 16 (by kernel_rfl)
      have e23 : us 23 = .bool true := hd 23 (by kernel_rfl)
      have ev37 : A.tmps[37]?.getD undef = us 16 := by rw [hA]; kernel_rfl
      rw [e16] at ev37
      have ev44 : A.tmps[44]?.getD undef = us 23 := by rw [hA]; kernel_rfl
      rw [e23] at ev44
      refine flow_value (.bool true) (by rw [hA]; kernel_rfl) ?_ rfl hK
      clear hA hd hK
      go_simp
    · intro us w' A hA hC hd K hK
      have e24 : us 24 = .bool true := hd 24 (by kernel_rfl)
      have ev45 : A.tmps[45]?.getD undef = us 24 := by rw [hA]; kernel_rfl
      rw [e24] at ev45
      refine flow_value (.bool true) (by rw [hA]; kernel_rfl) ?_ rfl hK
      clear hA hd hK
      go_simp
  · intro us w' A hA hC hd
    subst hA
    have e0 : us 0 = .agg (bA 16 E) := hd 0 (by omega)
    have e1 : us 1 = .agg (bA 16 key) := hd 1 (by omega)
    have e2 : us 2 = .agg (bA 8 nonce) := hd 2 (by omega)
    have e3 : us 3 = .int .u64 (i : Int) := hd 3 (by omega)
    have e4 : us 4 = .agg (bA 256 sbx) := hd 4 (by omega)
    have e5 : us 5 = .agg (bA 16 E) := hd 5 (by omega)
    have e6 : us 6 = .bool true := hd 6 (by omega)
    have e7 : us 7 = .bool true := hd 7 (by omega)
    have e8 : us 8 = .agg (bA 16 E) := hd 8 (by omega)
    have e9 : us 9 = .agg (bA 16 E2) := hd 9 (by omega)
    have e10 : us 10 = .bool same := hd 10 (by omega)
    have e11 : us 11 = .agg (bA 8 nonce) := hd 11 (by omega)
    have e12 : us 12 = .agg (bA 8 other) := hd 12 (by omega)
    have e13 : us 13 = .bool same := hd 13 (by omega)
    have e14 : us 14 = .bool true := hd 14 (by omega)
    have e15 : us 15 = .bool true := hd 15 (by omega)
    have e16 : us 16 = .bool true := hd 16 (by omega)
    have e17 : us 17 = .agg (bA 16 E) := hd 17 (by omega)
    have e18 : us 18 = .agg (bA 16 key) := hd 18 (by omega)
    have e19 : us 19 = .agg (bA 8 nonce) := hd 19 (by omega)
    have e20 : us 20 = .int .u64 (i : Int) := hd 20 (by omega)
    have e21 : us 21 = .int .u64 (i2 : Int) := hd 21 (by omega)
    have e22 : us 22 = .agg (bA 16 E3) := hd 22 (by omega)
    have e23 : us 23 = .bool true := hd 23 (by omega)
    have e24 : us 24 = .bool true := hd 24 (by omega)
    have e25 : us 25 = .bool true := hd 25 (by omega)
    simp only [List.take_succ_cons, List.take_zero, List.drop_succ_cons, List.drop_zero, fillAct, Act.put, Nat.zero_add, Nat.reduceAdd, List.setIfInBounds_toArray, List.set_cons_zero, List.set_cons_succ, e0, e1, e2, e3, e4, e5, e6, e7, e8, e9, e10, e11, e12, e13, e14, e15, e16, e17, e18, e19, e20, e21, e22, e23, e24, e25]
    clear hd R0 R1 R2 R3 R4 HC3 HRB q1 q2 q3 q4
    have hW := HW.out.trans (hC.mono HW.out.size)
    go_wp2
    go_ret
    exact ⟨rfl, hW⟩

set_option maxRecDepth 100000 in
theorem lifted (os : Os) (started : os.Started) (H : Type) (enc : TypeId × Value → H) :
    ReturnsInHanded {} Try.checked os 6 .any (Rows.ctrBlocksSpec.pre6 enc Try.prog Try.f6 Rows.ctrBlocksRow.domain false) (Rows.ctrBlocksSpec.post enc Try.prog Try.f6 false true false false) := by
  refine returnsInHanded_of_change (C := Try.checked) own_knob started (by kernel_rfl) Try.func6
    (ChangeSpec.witness6 (enc := enc) (C := Try.checked) false ⟨#[], #[.agg #[.int .u8 0, .int .u8 0, .int .u8 0, .int .u8 0, .int .u8 0, .int .u8 0, .int .u8 0, .int .u8 0, .int .u8 0, .int .u8 0, .int .u8 0, .int .u8 0, .int .u8 0, .int .u8 0, .int .u8 0, .int .u8 0], .agg #[.int .u8 0, .int .u8 0, .int .u8 0, .int .u8 0, .int .u8 0, .int .u8 0, .int .u8 0, .int .u8 0], .agg #[.int .u8 0, .int .u8 0, .int .u8 0, .int .u8 0, .int .u8 0, .int .u8 0, .int .u8 0, .int .u8 0], .int .u64 0], []⟩ 8 (by kernel_rfl) (by kernel_rfl) (by kernel_rfl) (by kernel_rfl)) ?_
  intro W base args ds gs before hval0 hW hcnd _
  have hval : ∀ (j : Nat) t v, Try.f6.params[j]? = some t → args[j]? = some v → Value.okWide Try.prog W .any base t v := hval0
  have hW' := hW
  obtain ⟨p, q, hA0, hV, rfl, hfz, hnd⟩ := hW
  have hA : DataW.TrodAll enc Try.prog W 0 (fun _ => true) true Try.f6.params.toList args.toList ds p := hA0
  rw [Try.params6] at hA hval
  obtain ⟨v0, v1, v2, v3, d0, d1, d2, d3, p0, p1, p2, p3, rfl, rfl, rfl, h0, h1, h2, h3⟩ := trodAll_four hA
  obtain ⟨rfl, rfl⟩ := trodVars_none hV
  have hvl0 := hval 0 22 v0 rfl rfl
  have hvl1 := hval 1 23 v1 rfl rfl
  have hvl2 := hval 2 23 v2 rfl rfl
  have hvl3 := hval 3 39 v3 rfl rfl
  obtain ⟨f0, hv0, hw0⟩ := open_arrInt _ _ 16 Try.underlying22 .u8 Try.underlying5 (by kernel_rfl) (by kernel_rfl) hvl0 h0
  obtain ⟨key, hb0⟩ := bytes_of_arr 16 f0 hw0
  rw [hb0] at hv0
  subst hv0
  obtain ⟨f1, hv1, hw1⟩ := open_arrInt _ _ 8 Try.underlying23 .u8 Try.underlying5 (by kernel_rfl) (by kernel_rfl) hvl1 h1
  obtain ⟨nonce, hb1⟩ := bytes_of_arr 8 f1 hw1
  rw [hb1] at hv1
  subst hv1
  obtain ⟨f2, hv2, hw2⟩ := open_arrInt _ _ 8 Try.underlying23 .u8 Try.underlying5 (by kernel_rfl) (by kernel_rfl) hvl2 h2
  obtain ⟨other, hb2⟩ := bytes_of_arr 8 f2 hw2
  rw [hb2] at hv2
  subst hv2
  obtain ⟨z, rfl, rfl, rfl, w3⟩ := open_int Try.underlying39 hvl3 h3
  have fz := bounds_u64 w3
  obtain ⟨i, rfl⟩ := Int.eq_ofNat_of_zero_le fz.1
  clear hA0 hval0
  refine (walk W key nonce other i (by omega)).mono fun e W' ⟨he, bel⟩ => ?_
  subst he
  exact ⟨_, rfl, _, _, _, [], _, [], hW', trodAll_mk1 (shut_bool Try.underlying4 _), trodAll_mk4 (keep_arg (by kernel_rfl) (of_decide_eq_true (by kernel_rfl)) h0 bel) (keep_arg (by kernel_rfl) (of_decide_eq_true (by kernel_rfl)) h1 bel) (keep_arg (by kernel_rfl) (of_decide_eq_true (by kernel_rfl)) h2 bel) (shut_int Try.underlying39 w3), rfl, bel.frame _, fun h => by cases h⟩

theorem over : Rows.ctrBlocksRow.holds Try.pinned (OpenSpec.ofChange Rows.ctrBlocksSpec) :=
  OpenClaim.holds_of_wide 6 Try.f6 rfl rfl rfl rfl rfl rfl rfl ⟨rfl, rfl, rfl, rfl, rfl⟩ rfl rfl rfl rfl rfl (by kernel_rfl) Try.func6 (by kernel_rfl)
    (of_decide_eq_true (by kernel_rfl)) (by unfold Func.isWrapper; first | (rw [if_pos (by decide +kernel)]; kernel_rfl) | (rw [if_neg (by decide +kernel)]; exact ⟨rfl, rfl⟩))
    (fun os started H enc _ => lifted os started H enc)

/-- The statement. -/
theorem proved : Rows.CtrBlocksSaid := over
#print axioms proved
end Go.Proofs.Ytnfgmgkdkfeekaa.ctrBlocks
