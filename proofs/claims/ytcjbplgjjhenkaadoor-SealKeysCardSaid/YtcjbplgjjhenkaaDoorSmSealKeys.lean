/-
  The derived keys of any keys are those of the reference: the law SealKeys returns true for every input. No condition.
-/
import Derived.Test.YtcjbplgjjhenkaaDoorSm38
import Derived.Test.YtcjbplgjjhenkaaDoorSm15
import Derived.Test.YtcjbplgjjhenkaaDoorSm4
import Derived.Test.YtcjbplgjjhenkaaDoorSm39
namespace Go.Proofs.YtcjbplgjjhenkaaDoor.sealKeys
open Go.ChangeShapes Go.WideShapes Go.ChangeAt Go.RowKit
set_option linter.unusedVariables false
set_option linter.unusedSimpArgs false

theorem range_below {w w' : World} {g : Nat} {L : List Value} (h : w.rangeAt g 0 L) (hg : g < w.heap.size) (k : Below w.heap.size w w') : w'.rangeAt g 0 L := fun j v hv => (k.cell (p := ⟨g, 0 + j, none⟩) hg).trans (h j v hv)
set_option maxHeartbeats 4000000 in
set_option maxRecDepth 100000 in
theorem walk_same (w : World) (K1 K2 : List UInt8) (hKA : KAt w) (h1 : K1.length = 16) (h2 : K2.length = 16) (hKO : K1 = K2) :
    Calls Tryd.prog 6 #[.agg (bA 16 (ofL K1)), .agg (bA 16 (ofL K2))] w fun e w' => e = .returned (.bool true) ∧ Below w.heap.size w w' := by
  have HKO := kept hKO
  have KA := kept hKA
  have HL1 := kept h1
  have HL2 := kept h2
  clear hKA h1 h2 hKO
  go_enter Tryd.func6, Tryd.ntmps6
  go_upto_region 1 with (fail)
  go_name_world W0 hW0
  have H0 := kept (show Blk W0 w.heap.size 22 (bA 16 (ofL K1)) by rw [← hW0]; exact (Blk.new w _ _).alloc _)
  have H1 := kept (show Blk W0 (w.heap.size + 1) 22 (bA 16 (ofL K2)) by
    rw [← hW0]
    have n1 := Blk.new (w.alloc (.cells (bA 16 (ofL K1)) 22)) 22 (bA 16 (ofL K2))
    simpa only [World.size_alloc] using n1)
  have HW := kept (show Below w.heap.size w W0 by rw [← hW0]; exact ((Below.refl _ w).alloc (Nat.le_refl _) _).alloc (by simp) _)
  clear hW0
  replace KA := kept (KA.out.below0 HW.out)
  go_wp2_with fail
  refine (sawake_any W0 KA.out).mono ?_
  rintro e W1 ⟨rfl, k⟩
  replace H0 := kept (H0.out.below k H0.out.lt)
  replace H1 := kept (H1.out.below k H1.out.lt)
  replace KA := kept (KA.out.below0 k)
  replace HW := kept (below_next HW.out k)
  clear k
  go_wp2_with (first | (refine wpList_load_row rfl 22 (.tmp 2) rfl w.heap.size rfl 22 (bA 16 (ofL K1)) (0, 0) _ H0.out Tryd.underlying22 rfl (by rw [b16_size, bA_size]) ?_))
  refine (keys_any W1 K1 KA.out HL1.out).mono ?_
  rintro e W2 ⟨rfl, k⟩
  replace H0 := kept (H0.out.below k H0.out.lt)
  replace H1 := kept (H1.out.below k H1.out.lt)
  replace KA := kept (KA.out.below0 k)
  replace HW := kept (below_next HW.out k)
  clear k
  have hlt1 : w.heap.size + 1 < W2.heap.size := H1.out.lt
  go_upto_region 4 with (first | (refine wpList_store_row rfl 22 (.tmp 5) (.tmp 14) rfl W2.heap.size (bA 16 (ofL (keyE K1))) rfl rfl 22 (bA 16 (fun _ => 0)) ((Blk.new W2 _ _).alloc _) (by rw [b16_size, bA_size]) (by rw [bA_size, bA_size]) (bA_one _ _) ?_) | (refine wpList_store_row rfl 36 (.tmp 6) (.tmp 15) rfl (W2.heap.size + 1) (bA 32 (ofL (keyM K1))) rfl rfl 36 (bA 32 (fun _ => 0)) ((blk_second W2 _ _ _).row_far (by omega)) (by rw [b32_size, bA_size]) (by rw [bA_size, bA_size]) (bA_one _ _) ?_))
  go_name_world W3 hW3
  have k : Below W2.heap.size W2 W3 := by
    rw [← hW3]
    exact below_setRow (below_setRow (((Below.refl _ W2).alloc (Nat.le_refl _) _).alloc (by simp) _) (Nat.le_refl _) _) (by omega) _
  have HE1 := kept (show Blk W3 W2.heap.size 22 (bA 16 (ofL (keyE K1))) by
    rw [← hW3]
    exact Blk.row_far (setRow_heap _ _ _ _ _ _ ((Blk.new W2 _ _).alloc _)) (by omega))
  have HM1 := kept (show Blk W3 (W2.heap.size + 1) 36 (bA 32 (ofL (keyM K1))) by
    rw [← hW3]
    exact setRow_heap _ _ _ _ _ _ ((blk_second W2 _ _ _).row_far (by omega)))
  replace H0 := kept (H0.out.below k H0.out.lt)
  replace H1 := kept (H1.out.below k H1.out.lt)
  replace KA := kept (KA.out.below0 k)
  replace HW := kept (below_next HW.out k)
  clear k hW3
  generalize W2.heap.size = bk1 at hlt1 HE1 HM1 ⊢
  go_wp2_with (first | (refine wpList_load_row rfl 22 (.tmp 3) rfl (w.heap.size + 1) rfl 22 (bA 16 (ofL K2)) (0, 0) _ H1.out Tryd.underlying22 rfl (by rw [b16_size, bA_size]) ?_))
  refine (keys_any W3 K2 KA.out HL2.out).mono ?_
  rintro e W4 ⟨rfl, k⟩
  replace H0 := kept (H0.out.below k H0.out.lt)
  replace H1 := kept (H1.out.below k H1.out.lt)
  replace HE1 := kept (HE1.out.below k HE1.out.lt)
  replace HM1 := kept (HM1.out.below k HM1.out.lt)
  replace KA := kept (KA.out.below0 k)
  replace HW := kept (below_next HW.out k)
  clear k
  have hlt2 : w.heap.size + 1 < W4.heap.size := H1.out.lt
  go_upto_region 5 with (first | (refine wpList_store_row rfl 22 (.tmp 7) (.tmp 19) rfl W4.heap.size (bA 16 (ofL (keyE K2))) rfl rfl 22 (bA 16 (fun _ => 0)) ((Blk.new W4 _ _).alloc _) (by rw [b16_size, bA_size]) (by rw [bA_size, bA_size]) (bA_one _ _) ?_) | (refine wpList_store_row rfl 36 (.tmp 8) (.tmp 20) rfl (W4.heap.size + 1) (bA 32 (ofL (keyM K2))) rfl rfl 36 (bA 32 (fun _ => 0)) ((blk_second W4 _ _ _).row_far (by omega)) (by rw [b32_size, bA_size]) (by rw [bA_size, bA_size]) (bA_one _ _) ?_))
  go_name_world W5 hW5
  have k : Below W4.heap.size W4 W5 := by
    rw [← hW5]
    exact below_setRow (below_setRow (((Below.refl _ W4).alloc (Nat.le_refl _) _).alloc (by simp) _) (Nat.le_refl _) _) (by omega) _
  have HE2 := kept (show Blk W5 W4.heap.size 22 (bA 16 (ofL (keyE K2))) by
    rw [← hW5]
    exact Blk.row_far (setRow_heap _ _ _ _ _ _ ((Blk.new W4 _ _).alloc _)) (by omega))
  have HM2 := kept (show Blk W5 (W4.heap.size + 1) 36 (bA 32 (ofL (keyM K2))) by
    rw [← hW5]
    exact setRow_heap _ _ _ _ _ _ ((blk_second W4 _ _ _).row_far (by omega)))
  replace H0 := kept (H0.out.below k H0.out.lt)
  replace H1 := kept (H1.out.below k H1.out.lt)
  replace HE1 := kept (HE1.out.below k HE1.out.lt)
  replace HM1 := kept (HM1.out.below k HM1.out.lt)
  replace KA := kept (KA.out.below0 k)
  replace HW := kept (below_next HW.out k)
  clear k hW5
  generalize W4.heap.size = bk2 at hlt2 HE2 HM2 ⊢
  have MK1 := kept (mem_arr H0.out HL1.out)
  have MK2 := kept (mem_arr H1.out HL2.out)
  have ME1 := kept (mem_arr HE1.out (keyE_len K1))
  have MM1 := kept (mem_arr HM1.out (keyM_len K1))
  have MM2 := kept (mem_arr HM2.out (keyM_len K2))
  have s1 := fun w' => slice16_all w' bk1
  have s2 := fun w' => slice16_all w' w.heap.size
  have s3 := fun w' => slice32_all w' (bk1 + 1)
  have s4 := fun w' => slice16_all w' (w.heap.size + 1)
  have s5 := fun w' => slice32_all w' (bk2 + 1)
  have DE1 := kept (show ∀ w' : World, Below W5.heap.size W5 w' → Calls Tryd.prog 16 #[.slice (some ⟨w.heap.size, 0, none⟩) 16 16, .string ({ data := #[101, 110, 99, 114, 121, 112, 116] } : ByteArray), .int .i64 16] w' fun e w2 => ∃ v, e = .returned v ∧ Own w2 w'.heap.size v (keyE K1) ∧ Below w'.heap.size w' w2 from fun w' h => rder_yes w' _ _ 16 16 K1 ({ data := #[101, 110, 99, 114, 121, 112, 116] } : ByteArray) 16 HL1.out.symm (MK1.out.below0 h) (by rw [HL1.out]; omega) (by decide) (by omega))
  have DM1 := kept (show ∀ w' : World, Below W5.heap.size W5 w' → Calls Tryd.prog 16 #[.slice (some ⟨w.heap.size, 0, none⟩) 16 16, .string ({ data := #[112, 114, 111, 116, 101, 99, 116] } : ByteArray), .int .i64 32] w' fun e w2 => ∃ v, e = .returned v ∧ Own w2 w'.heap.size v (keyM K1) ∧ Below w'.heap.size w' w2 from fun w' h => rder_yes w' _ _ 16 16 K1 ({ data := #[112, 114, 111, 116, 101, 99, 116] } : ByteArray) 32 HL1.out.symm (MK1.out.below0 h) (by rw [HL1.out]; omega) (by decide) (by omega))
  have DE2 := kept (show ∀ w' : World, Below W5.heap.size W5 w' → Calls Tryd.prog 16 #[.slice (some ⟨w.heap.size + 1, 0, none⟩) 16 16, .string ({ data := #[101, 110, 99, 114, 121, 112, 116] } : ByteArray), .int .i64 16] w' fun e w2 => ∃ v, e = .returned v ∧ Own w2 w'.heap.size v (keyE K2) ∧ Below w'.heap.size w' w2 from fun w' h => rder_yes w' _ _ 16 16 K2 ({ data := #[101, 110, 99, 114, 121, 112, 116] } : ByteArray) 16 HL2.out.symm (MK2.out.below0 h) (by rw [HL2.out]; omega) (by decide) (by omega))
  have DM2 := kept (show ∀ w' : World, Below W5.heap.size W5 w' → Calls Tryd.prog 16 #[.slice (some ⟨w.heap.size + 1, 0, none⟩) 16 16, .string ({ data := #[112, 114, 111, 116, 101, 99, 116] } : ByteArray), .int .i64 32] w' fun e w2 => ∃ v, e = .returned v ∧ Own w2 w'.heap.size v (keyM K2) ∧ Below w'.heap.size w' w2 from fun w' h => rder_yes w' _ _ 16 16 K2 ({ data := #[112, 114, 111, 116, 101, 99, 116] } : ByteArray) 32 HL2.out.symm (MK2.out.below0 h) (by rw [HL2.out]; omega) (by decide) (by omega))
  have R0 := kept (show ∀ w', Below W5.heap.size W5 w' → w'.rangeAt w.heap.size 0 (bA 16 (ofL K1)).toList from fun w' h => (H0.out.below h H0.out.lt).range)
  have R1 := kept (show ∀ w', Below W5.heap.size W5 w' → w'.rangeAt (w.heap.size + 1) 0 (bA 16 (ofL K2)).toList from fun w' h => (H1.out.below h H1.out.lt).range)
  have R2 := kept (show ∀ w', Below W5.heap.size W5 w' → w'.rangeAt bk1 0 (bA 16 (ofL (keyE K1))).toList from fun w' h => (HE1.out.below h HE1.out.lt).range)
  have R3 := kept (show ∀ w', Below W5.heap.size W5 w' → w'.rangeAt (bk1 + 1) 0 (bA 32 (ofL (keyM K1))).toList from fun w' h => (HM1.out.below h HM1.out.lt).range)
  have R4 := kept (show ∀ w', Below W5.heap.size W5 w' → w'.rangeAt bk2 0 (bA 16 (ofL (keyE K2))).toList from fun w' h => (HE2.out.below h HE2.out.lt).range)
  have R5 := kept (show ∀ w', Below W5.heap.size W5 w' → w'.rangeAt (bk2 + 1) 0 (bA 32 (ofL (keyM K2))).toList from fun w' h => (HM2.out.below h HM2.out.lt).range)
  have q1 := fun w' => run_equalInL16 K1 K2 HL1.out HL2.out w'
  rw [sameB_true HKO.out] at q1
  have q2 := fun w' => run_eqlL16 (keyE K1) (keyE K2) (keyE_len _) (keyE_len _) w'
  rw [show sameB (keyE K1) (keyE K2) = true by rw [HKO.out]; exact sameB_self _] at q2
  have q3 := fun w' => run_eqlL32 (keyM K1) (keyM K2) (keyM_len _) (keyM_len _) w'
  rw [show sameB (keyM K1) (keyM K2) = true by rw [HKO.out]; exact sameB_self _] at q3
  have q4 := fun w' => run_eqlL16 (keyE K2) (keyE K2) (keyE_len _) (keyE_len _) w'
  rw [sameB_self] at q4
  refine wp_region_flow 39 (fun w' => Below W5.heap.size W5 w') [fun v _ => v = .slice (some ⟨bk1, 0, none⟩) 16 16, fun v _ => v = .slice (some ⟨w.heap.size, 0, none⟩) 16 16, fun v w' => Own w' W5.heap.size v (keyE K1), fun v _ => v = .bool true, fun v _ => v = .bool true, fun v _ => v = .slice (some ⟨(bk1 + 1), 0, none⟩) 32 32, fun v _ => v = .slice (some ⟨w.heap.size, 0, none⟩) 16 16, fun v w' => Own w' W5.heap.size v (keyM K1), fun v _ => v = .bool true, fun v _ => v = .bool true, fun v _ => v = .bool true, fun v _ => v = .agg (bA 16 (ofL K1)), fun v _ => v = .agg (bA 16 (ofL K2)), fun v _ => v = .bool false, fun v _ => v = .bool false, fun v _ => v = .agg (bA 16 (ofL (keyE K1))), fun v _ => v = .agg (bA 16 (ofL (keyE K2))), fun v _ => v = .bool true, fun v _ => v = .bool true, fun v _ => v = .agg (bA 32 (ofL (keyM K1))), fun v _ => v = .agg (bA 32 (ofL (keyM K2))), fun v _ => v = .bool true, fun v _ => v = .bool true, fun v _ => v = .bool true, fun v _ => v = .bool true, fun v _ => v = .bool true, fun v _ => v = .agg (bA 16 (ofL (keyE K2))), fun v _ => v = .slice (some ⟨(w.heap.size + 1), 0, none⟩) 16 16, fun v w' => Own w' W5.heap.size v (keyE K2), fun v w' => ∃ qq, v = .pointer (some ⟨qq, 0, none⟩) ∧ w'.rangeAt qq 0 ((keyE K2).map bv) ∧ qq < w'.heap.size, fun v _ => v = .agg (bA 16 (ofL (keyE K2))), fun v _ => v = .bool true, fun v _ => v = .bool true, fun v _ => v = .bool true, fun v _ => v = .slice (some ⟨(bk2 + 1), 0, none⟩) 32 32, fun v _ => v = .slice (some ⟨(w.heap.size + 1), 0, none⟩) 16 16, fun v w' => Own w' W5.heap.size v (keyM K2), fun v _ => v = .bool true, fun v _ => v = .bool true] (by kernel_rfl) (by kernel_rfl) rfl (Below.refl _ W5).drew (fun _ _ h k => below_next h k) ?_ ?_ ?_
  · exact stable_cons (stable_eq _) (stable_cons (stable_eq _) (stable_cons (stable_own _ _) (stable_cons (stable_eq _) (stable_cons (stable_eq _) (stable_cons (stable_eq _) (stable_cons (stable_eq _) (stable_cons (stable_own _ _) (stable_cons (stable_eq _) (stable_cons (stable_eq _) (stable_cons (stable_eq _) (stable_cons (stable_eq _) (stable_cons (stable_eq _) (stable_cons (stable_eq _) (stable_cons (stable_eq _) (stable_cons (stable_eq _) (stable_cons (stable_eq _) (stable_cons (stable_eq _) (stable_cons (stable_eq _) (stable_cons (stable_eq _) (stable_cons (stable_eq _) (stable_cons (stable_eq _) (stable_cons (stable_eq _) (stable_cons (stable_eq _) (stable_cons (stable_eq _) (stable_cons (stable_eq _) (stable_cons (stable_eq _) (stable_cons (stable_eq _) (stable_cons (stable_own _ _) (stable_cons (fun v w1 w2 ⟨qq, h1, h2, h3⟩ k => ⟨qq, h1, range_below h2 h3 k, Nat.lt_of_lt_of_le h3 k.size⟩) (stable_cons (stable_eq _) (stable_cons (stable_eq _) (stable_cons (stable_eq _) (stable_cons (stable_eq _) (stable_cons (stable_eq _) (stable_cons (stable_eq _) (stable_cons (stable_own _ _) (stable_cons (stable_eq _) (stable_cons (stable_eq _) (stable_nil)))))))))))))))))))))))))))))))))))))))
  · simp only [List.take_succ_cons, List.take_zero]
    refine OweAll.cons ?_ (OweAll.cons ?_ (OweAll.cons ?_ (OweAll.cons ?_ (OweAll.cons ?_ (OweAll.cons ?_ (OweAll.cons ?_ (OweAll.cons ?_ (OweAll.cons ?_ (OweAll.cons ?_ (OweAll.cons ?_ (OweAll.cons ?_ (OweAll.cons ?_ (OweAll.cons ?_ (OweAll.cons ?_ (OweAll.cons ?_ (OweAll.cons ?_ (OweAll.cons ?_ (OweAll.cons ?_ (OweAll.cons ?_ (OweAll.cons ?_ (OweAll.cons ?_ (OweAll.cons ?_ (OweAll.cons ?_ (OweAll.cons ?_ (OweAll.cons ?_ (OweAll.cons ?_ (OweAll.cons ?_ (OweAll.cons ?_ (OweAll.cons ?_ (OweAll.cons ?_ (OweAll.cons ?_ (OweAll.cons ?_ (OweAll.cons ?_ (OweAll.cons ?_ (OweAll.cons ?_ (OweAll.cons ?_ (OweAll.cons ?_ (OweAll.cons ?_ OweAll.nil))))))))))))))))))))))))))))))))))))))
    · intro us w' A hA hC hd K hK
      have evp : A.tmps[5]?.getD undef = .pointer (some ⟨bk1, 0, none⟩) := by rw [hA]; kernel_rfl
      refine flow_value (.slice (some ⟨bk1, 0, none⟩) 16 16) (by rw [hA]; kernel_rfl) ?_ rfl hK
      clear hA hd hK
      go_simp
    · intro us w' A hA hC hd K hK
      have evp : A.tmps[2]?.getD undef = .pointer (some ⟨w.heap.size, 0, none⟩) := by rw [hA]; kernel_rfl
      refine flow_value (.slice (some ⟨w.heap.size, 0, none⟩) 16 16) (by rw [hA]; kernel_rfl) ?_ rfl hK
      clear hA hd hK
      go_simp
    · intro us w' A hA hC hd K hK
      have e1 : us 1 = .slice (some ⟨w.heap.size, 0, none⟩) 16 16 := hd 1 (by kernel_rfl)
      refine flow_call 16 #[us 1, .string ({ data := #[101, 110, 99, 114, 121, 112, 116] } : ByteArray), .int .i64 16] (by rw [hA]; kernel_rfl) (fun _ => by rw [hA]; kernel_rfl) ?_ hK
      rw [e1]
      exact (DE1.out w' hC).mono fun e w2 ⟨v, he, ho, hb⟩ => ⟨v, he, ho.mono hC.size, hb⟩
    · intro us w' A hA hC hd K hK
      have e0 : us 0 = .slice (some ⟨bk1, 0, none⟩) 16 16 := hd 0 (by kernel_rfl)
      have o2 : Own w' W5.heap.size (us 2) (keyE K1) := hd 2 (by kernel_rfl)
      obtain ⟨A2, q2, c2, e2, hc2, hm2, m2, x2⟩ := o2.form
      refine flow_call 10 #[us 0, us 2] (by rw [hA]; kernel_rfl) (fun _ => by rw [hA]; kernel_rfl) ?_ hK
      rw [e0, e2]
      exact calls_known (same_b w' bk1 q2 (some ⟨bk1, 0, none⟩) A2 _ _ 16 c2 (keyE K1) (keyE_len _).symm rfl (by rw [keyE_len]; omega) (ME1.out.below0 hC) m2)
    · intro us w' A hA hC hd K hK
      have e3 : us 3 = .bool true := hd 3 (by kernel_rfl)
      have ev24 : A.tmps[24]?.getD undef = us 3 := by rw [hA]; kernel_rfl
      rw [e3] at ev24
      refine flow_value (.bool true) (by rw [hA]; kernel_rfl) ?_ rfl hK
      clear hA hd hK
      go_simp
    · intro us w' A hA hC hd K hK
      have e4 : us 4 = .bool true := hd 4 (by kernel_rfl)
      have gv : A.tmps[25]? = some (us 4) := by rw [hA]; kernel_rfl
      rw [e4] at gv
      have evp : A.tmps[6]?.getD undef = .pointer (some ⟨(bk1 + 1), 0, none⟩) := by rw [hA]; kernel_rfl
      refine flow_value (.slice (some ⟨(bk1 + 1), 0, none⟩) 32 32) (by rw [guard_known 4 true true 25 rfl rfl gv]; rfl) ?_ rfl hK
      clear hA hd hK gv
      go_simp
    · intro us w' A hA hC hd K hK
      have e4 : us 4 = .bool true := hd 4 (by kernel_rfl)
      have gv : A.tmps[25]? = some (us 4) := by rw [hA]; kernel_rfl
      rw [e4] at gv
      have evp : A.tmps[2]?.getD undef = .pointer (some ⟨w.heap.size, 0, none⟩) := by rw [hA]; kernel_rfl
      refine flow_value (.slice (some ⟨w.heap.size, 0, none⟩) 16 16) (by rw [guard_known 4 true true 25 rfl rfl gv]; rfl) ?_ rfl hK
      clear hA hd hK gv
      go_simp
    · intro us w' A hA hC hd K hK
      have e6 : us 6 = .slice (some ⟨w.heap.size, 0, none⟩) 16 16 := hd 6 (by kernel_rfl)
      have e4 : us 4 = .bool true := hd 4 (by kernel_rfl)
      have gv : A.tmps[25]? = some (us 4) := by rw [hA]; kernel_rfl
      rw [e4] at gv
      refine flow_call 16 #[us 6, .string ({ data := #[112, 114, 111, 116, 101, 99, 116] } : ByteArray), .int .i64 32] (by rw [guard_known 4 true true 25 rfl rfl gv]; rfl) (fun _ => by rw [hA]; kernel_rfl) ?_ hK
      rw [e6]
      exact (DM1.out w' hC).mono fun e w2 ⟨v, he, ho, hb⟩ => ⟨v, he, ho.mono hC.size, hb⟩
    · intro us w' A hA hC hd K hK
      have e5 : us 5 = .slice (some ⟨(bk1 + 1), 0, none⟩) 32 32 := hd 5 (by kernel_rfl)
      have o7 : Own w' W5.heap.size (us 7) (keyM K1) := hd 7 (by kernel_rfl)
      obtain ⟨A7, q7, c7, e7, hc7, hm7, m7, x7⟩ := o7.form
      have e4 : us 4 = .bool true := hd 4 (by kernel_rfl)
      have gv : A.tmps[25]? = some (us 4) := by rw [hA]; kernel_rfl
      rw [e4] at gv
      refine flow_call 10 #[us 5, us 7] (by rw [guard_known 4 true true 25 rfl rfl gv]; rfl) (fun _ => by rw [hA]; kernel_rfl) ?_ hK
      rw [e5, e7]
      exact calls_known (same_b w' (bk1 + 1) q7 (some ⟨(bk1 + 1), 0, none⟩) A7 _ _ 32 c7 (keyM K1) (keyM_len _).symm rfl (by rw [keyM_len]; omega) (MM1.out.below0 hC) m7)
    · intro us w' A hA hC hd K hK
      have e4 : us 4 = .bool true := hd 4 (by kernel_rfl)
      have e8 : us 8 = .bool true := hd 8 (by kernel_rfl)
      have ev25 : A.tmps[25]?.getD undef = us 4 := by rw [hA]; kernel_rfl
      rw [e4] at ev25
      have ev29 : A.tmps[29]?.getD undef = us 8 := by rw [hA]; kernel_rfl
      rw [e8] at ev29
      refine flow_value (.bool true) (by rw [hA]; kernel_rfl) ?_ rfl hK
      clear hA hd hK
      go_simp
    · intro us w' A hA hC hd K hK
      have e9 : us 9 = .bool true := hd 9 (by kernel_rfl)
      have ev30 : A.tmps[30]?.getD undef = us 9 := by rw [hA]; kernel_rfl
      rw [e9] at ev30
      refine flow_value (.bool true) (by rw [hA]; kernel_rfl) ?_ rfl hK
      clear hA hd hK
      go_simp
    · intro us w' A hA hC hd K hK
      have e10 : us 10 = .bool true := hd 10 (by kernel_rfl)
      have gv : A.tmps[31]? = some (us 10) := by rw [hA]; kernel_rfl
      rw [e10] at gv
      exact flow_load (φ := fun v _ => v = .agg (bA 16 (ofL K1))) (by rw [guard_known 10 true true 31 rfl rfl gv]; rfl) 22 (.tmp 2) rfl w.heap.size 0 (by rw [hA]; kernel_rfl) (bA 16 (ofL K1)).toList _ (R0.out w' hC) Tryd.underlying22 rfl (s16_len _) rfl hK
    · intro us w' A hA hC hd K hK
      have e10 : us 10 = .bool true := hd 10 (by kernel_rfl)
      have gv : A.tmps[31]? = some (us 10) := by rw [hA]; kernel_rfl
      rw [e10] at gv
      exact flow_load (φ := fun v _ => v = .agg (bA 16 (ofL K2))) (by rw [guard_known 10 true true 31 rfl rfl gv]; rfl) 22 (.tmp 3) rfl (w.heap.size + 1) 0 (by rw [hA]; kernel_rfl) (bA 16 (ofL K2)).toList _ (R1.out w' hC) Tryd.underlying22 rfl (s16_len _) rfl hK
    · intro us w' A hA hC hd K hK
      have e11 : us 11 = .agg (bA 16 (ofL K1)) := hd 11 (by kernel_rfl)
      have e12 : us 12 = .agg (bA 16 (ofL K2)) := hd 12 (by kernel_rfl)
      have e10 : us 10 = .bool true := hd 10 (by kernel_rfl)
      have gv : A.tmps[31]? = some (us 10) := by rw [hA]; kernel_rfl
      rw [e10] at gv
      have ev32 : A.tmps[32]?.getD undef = us 11 := by rw [hA]; kernel_rfl
      rw [e11] at ev32
      have ev33 : A.tmps[33]?.getD undef = us 12 := by rw [hA]; kernel_rfl
      rw [e12] at ev33
      refine flow_value (.bool false) (by rw [guard_known 10 true true 31 rfl rfl gv]; rfl) ?_ rfl hK
      clear hA hd hK gv
      go_simp
    · intro us w' A hA hC hd K hK
      have e13 : us 13 = .bool false := hd 13 (by kernel_rfl)
      have e10 : us 10 = .bool true := hd 10 (by kernel_rfl)
      have gv : A.tmps[31]? = some (us 10) := by rw [hA]; kernel_rfl
      rw [e10] at gv
      have ev34 : A.tmps[34]?.getD undef = us 13 := by rw [hA]; kernel_rfl
      rw [e13] at ev34
      refine flow_value (.bool false) (by rw [guard_known 10 true true 31 rfl rfl gv]; rfl) ?_ rfl hK
      clear hA hd hK gv
      go_simp
    · intro us w' A hA hC hd K hK
      have e14 : us 14 = .bool false := hd 14 (by kernel_rfl)
      have gv : A.tmps[35]? = some (us 14) := by rw [hA]; kernel_rfl
      rw [e14] at gv
      exact flow_load (φ := fun v _ => v = .agg (bA 16 (ofL (keyE K1)))) (by rw [guard_known 14 false false 35 rfl rfl gv]; rfl) 22 (.tmp 5) rfl bk1 0 (by rw [hA]; kernel_rfl) (bA 16 (ofL (keyE K1))).toList _ (R2.out w' hC) Tryd.underlying22 rfl (s16_len _) rfl hK
    · intro us w' A hA hC hd K hK
      have e14 : us 14 = .bool false := hd 14 (by kernel_rfl)
      have gv : A.tmps[35]? = some (us 14) := by rw [hA]; kernel_rfl
      rw [e14] at gv
      exact flow_load (φ := fun v _ => v = .agg (bA 16 (ofL (keyE K2)))) (by rw [guard_known 14 false false 35 rfl rfl gv]; rfl) 22 (.tmp 7) rfl bk2 0 (by rw [hA]; kernel_rfl) (bA 16 (ofL (keyE K2))).toList _ (R4.out w' hC) Tryd.underlying22 rfl (s16_len _) rfl hK
    · intro us w' A hA hC hd K hK
      have e15 : us 15 = .agg (bA 16 (ofL (keyE K1))) := hd 15 (by kernel_rfl)
      have e16 : us 16 = .agg (bA 16 (ofL (keyE K2))) := hd 16 (by kernel_rfl)
      have e14 : us 14 = .bool false := hd 14 (by kernel_rfl)
      have gv : A.tmps[35]? = some (us 14) := by rw [hA]; kernel_rfl
      rw [e14] at gv
      have ev36 : A.tmps[36]?.getD undef = us 15 := by rw [hA]; kernel_rfl
      rw [e15] at ev36
      have ev37 : A.tmps[37]?.getD undef = us 16 := by rw [hA]; kernel_rfl
      rw [e16] at ev37
      refine flow_value (.bool true) (by rw [guard_known 14 false false 35 rfl rfl gv]; rfl) ?_ rfl hK
      clear hA hd hK gv
      go_simp
    · intro us w' A hA hC hd K hK
      have e17 : us 17 = .bool true := hd 17 (by kernel_rfl)
      have e14 : us 14 = .bool false := hd 14 (by kernel_rfl)
      have gv : A.tmps[35]? = some (us 14) := by rw [hA]; kernel_rfl
      rw [e14] at gv
      have ev38 : A.tmps[38]?.getD undef = us 17 := by rw [hA]; kernel_rfl
      rw [e17] at ev38
      refine flow_value (.bool true) (by rw [guard_known 14 false false 35 rfl rfl gv]; rfl) ?_ rfl hK
      clear hA hd hK gv
      go_simp
    · intro us w' A hA hC hd K hK
      have e18 : us 18 = .bool true := hd 18 (by kernel_rfl)
      have gv : A.tmps[39]? = some (us 18) := by rw [hA]; kernel_rfl
      rw [e18] at gv
      exact flow_load (φ := fun v _ => v = .agg (bA 32 (ofL (keyM K1)))) (by rw [guard_known 18 true true 39 rfl rfl gv]; rfl) 36 (.tmp 6) rfl (bk1 + 1) 0 (by rw [hA]; kernel_rfl) (bA 32 (ofL (keyM K1))).toList _ (R3.out w' hC) Tryd.underlying36 rfl (s32_len _) rfl hK
    · intro us w' A hA hC hd K hK
      have e18 : us 18 = .bool true := hd 18 (by kernel_rfl)
      have gv : A.tmps[39]? = some (us 18) := by rw [hA]; kernel_rfl
      rw [e18] at gv
      exact flow_load (φ := fun v _ => v = .agg (bA 32 (ofL (keyM K2)))) (by rw [guard_known 18 true true 39 rfl rfl gv]; rfl) 36 (.tmp 8) rfl (bk2 + 1) 0 (by rw [hA]; kernel_rfl) (bA 32 (ofL (keyM K2))).toList _ (R5.out w' hC) Tryd.underlying36 rfl (s32_len _) rfl hK
    · intro us w' A hA hC hd K hK
      have e19 : us 19 = .agg (bA 32 (ofL (keyM K1))) := hd 19 (by kernel_rfl)
      have e20 : us 20 = .agg (bA 32 (ofL (keyM K2))) := hd 20 (by kernel_rfl)
      have e18 : us 18 = .bool true := hd 18 (by kernel_rfl)
      have gv : A.tmps[39]? = some (us 18) := by rw [hA]; kernel_rfl
      rw [e18] at gv
      have ev40 : A.tmps[40]?.getD undef = us 19 := by rw [hA]; kernel_rfl
      rw [e19] at ev40
      have ev41 : A.tmps[41]?.getD undef = us 20 := by rw [hA]; kernel_rfl
      rw [e20] at ev41
      refine flow_value (.bool true) (by rw [guard_known 18 true true 39 rfl rfl gv]; rfl) ?_ rfl hK
      clear hA hd hK gv
      go_simp
    · intro us w' A hA hC hd K hK
      have e18 : us 18 = .bool true := hd 18 (by kernel_rfl)
      have e21 : us 21 = .bool true := hd 21 (by kernel_rfl)
      have e14 : us 14 = .bool false := hd 14 (by kernel_rfl)
      have gv : A.tmps[35]? = some (us 14) := by rw [hA]; kernel_rfl
      rw [e14] at gv
      have ev39 : A.tmps[39]?.getD undef = us 18 := by rw [hA]; kernel_rfl
      rw [e18] at ev39
      have ev42 : A.tmps[42]?.getD undef = us 21 := by rw [hA]; kernel_rfl
      rw [e21] at ev42
      refine flow_value (.bool true) (by rw [guard_known 14 false false 35 rfl rfl gv]; rfl) ?_ rfl hK
      clear hA hd hK gv
      go_simp
    · intro us w' A hA hC hd K hK
      have e14 : us 14 = .bool false := hd 14 (by kernel_rfl)
      have e22 : us 22 = .bool true := hd 22 (by kernel_rfl)
      have e10 : us 10 = .bool true := hd 10 (by kernel_rfl)
      have gv : A.tmps[31]? = some (us 10) := by rw [hA]; kernel_rfl
      rw [e10] at gv
      have ev35 : A.tmps[35]?.getD undef = us 14 := by rw [hA]; kernel_rfl
      rw [e14] at ev35
      have ev43 : A.tmps[43]?.getD undef = us 22 := by rw [hA]; kernel_rfl
      rw [e22] at ev43
      refine flow_value (.bool true) (by rw [guard_known 10 true true 31 rfl rfl gv]; rfl) ?_ rfl hK
      clear hA hd hK gv
      go_simp
    · intro us w' A hA hC hd K hK
      have e10 : us 10 = .bool true := hd 10 (by kernel_rfl)
      have e23 : us 23 = .bool true := hd 23 (by kernel_rfl)
      have ev31 : A.tmps[31]?.getD undef = us 10 := by rw [hA]; kernel_rfl
      rw [e10] at ev31
      have ev44 : A.tmps[44]?.getD undef = us 23 := by rw [hA]; kernel_rfl
      rw [e23] at ev44
      refine flow_value (.bool true) (by rw [hA]; kernel_rfl) ?_ rfl hK
      clear hA hd hK
      go_simp
    · intro us w' A hA hC hd K hK
      have e24 : us 24 = .bool true := hd 24 (by kernel_rfl)
      have ev45 : A.tmps[45]?.getD undef = us 24 := by rw [hA]; kernel_rfl
      rw [e24] at ev45
      refine flow_value (.bool true) (by rw [hA]; kernel_rfl) ?_ rfl hK
      clear hA hd hK
      go_simp
    · intro us w' A hA hC hd K hK
      have e25 : us 25 = .bool true := hd 25 (by kernel_rfl)
      have gv : A.tmps[46]? = some (us 25) := by rw [hA]; kernel_rfl
      rw [e25] at gv
      exact flow_load (φ := fun v _ => v = .agg (bA 16 (ofL (keyE K2)))) (by rw [guard_known 25 true true 46 rfl rfl gv]; rfl) 22 (.tmp 7) rfl bk2 0 (by rw [hA]; kernel_rfl) (bA 16 (ofL (keyE K2))).toList _ (R4.out w' hC) Tryd.underlying22 rfl (s16_len _) rfl hK
    · intro us w' A hA hC hd K hK
      have e25 : us 25 = .bool true := hd 25 (by kernel_rfl)
      have gv : A.tmps[46]? = some (us 25) := by rw [hA]; kernel_rfl
      rw [e25] at gv
      have evp : A.tmps[3]?.getD undef = .pointer (some ⟨(w.heap.size + 1), 0, none⟩) := by rw [hA]; kernel_rfl
      refine flow_value (.slice (some ⟨(w.heap.size + 1), 0, none⟩) 16 16) (by rw [guard_known 25 true true 46 rfl rfl gv]; rfl) ?_ rfl hK
      clear hA hd hK gv
      go_simp
    · intro us w' A hA hC hd K hK
      have e27 : us 27 = .slice (some ⟨(w.heap.size + 1), 0, none⟩) 16 16 := hd 27 (by kernel_rfl)
      have e25 : us 25 = .bool true := hd 25 (by kernel_rfl)
      have gv : A.tmps[46]? = some (us 25) := by rw [hA]; kernel_rfl
      rw [e25] at gv
      refine flow_call 16 #[us 27, .string ({ data := #[101, 110, 99, 114, 121, 112, 116] } : ByteArray), .int .i64 16] (by rw [guard_known 25 true true 46 rfl rfl gv]; rfl) (fun _ => by rw [hA]; kernel_rfl) ?_ hK
      rw [e27]
      exact (DE2.out w' hC).mono fun e w2 ⟨v, he, ho, hb⟩ => ⟨v, he, ho.mono hC.size, hb⟩
    · intro us w' A hA hC hd K hK
      have o28 : Own w' W5.heap.size (us 28) (keyE K2) := hd 28 (by kernel_rfl)
      obtain ⟨A28, q28, c28, e28, hc28, hm28, m28, x28⟩ := o28.form
      have e25 : us 25 = .bool true := hd 25 (by kernel_rfl)
      have gv : A.tmps[46]? = some (us 25) := by rw [hA]; kernel_rfl
      rw [e25] at gv
      have hkl := keyE_len K2
      obtain ⟨_, hA28, _⟩ := x28.1 (fun e => by rw [e] at hkl; cases hkl)
      rw [hkl] at e28
      subst hA28
      have ha := fun w' => arr16 w' (some ⟨q28, 0, none⟩) 16 c28 (Nat.le_refl _)
      have ev28 : A.tmps[49]?.getD undef = us 28 := by rw [hA]; kernel_rfl
      rw [e28] at ev28
      refine flow_make (w1 := w') (.pointer (some ⟨q28, 0, none⟩)) (by rw [guard_known 25 true true 46 rfl rfl gv]; rfl) ?_ (Below.refl _ _) ⟨q28, rfl, mem_range m28, m28.lt (fun e => by rw [e] at hkl; cases hkl)⟩ hK
      clear hA hd hK gv
      go_simp
    · intro us w' A hA hC hd K hK
      obtain ⟨qq29, e29, rr29, lt29⟩ := hd 29 (by kernel_rfl)
      have e25 : us 25 = .bool true := hd 25 (by kernel_rfl)
      have gv : A.tmps[46]? = some (us 25) := by rw [hA]; kernel_rfl
      rw [e25] at gv
      have ev29 : A.eval (.tmp 50) = us 29 := by rw [hA]; kernel_rfl
      rw [e29] at ev29
      exact flow_load (φ := fun v _ => v = .agg (bA 16 (ofL (keyE K2)))) (by rw [guard_known 25 true true 46 rfl rfl gv]; rfl) 22 (.tmp 50) rfl qq29 0 ev29 ((keyE K2).map bv) _ rr29 Tryd.underlying22 rfl (by rw [b16_size, List.length_map, keyE_len]) (by rw [bA_ofL _ (keyE_len K2)]) hK
    · intro us w' A hA hC hd K hK
      have e26 : us 26 = .agg (bA 16 (ofL (keyE K2))) := hd 26 (by kernel_rfl)
      have e30 : us 30 = .agg (bA 16 (ofL (keyE K2))) := hd 30 (by kernel_rfl)
      have e25 : us 25 = .bool true := hd 25 (by kernel_rfl)
      have gv : A.tmps[46]? = some (us 25) := by rw [hA]; kernel_rfl
      rw [e25] at gv
      have ev47 : A.tmps[47]?.getD undef = us 26 := by rw [hA]; kernel_rfl
      rw [e26] at ev47
      have ev51 : A.tmps[51]?.getD undef = us 30 := by rw [hA]; kernel_rfl
      rw [e30] at ev51
      refine flow_value (.bool true) (by rw [guard_known 25 true true 46 rfl rfl gv]; rfl) ?_ rfl hK
      clear hA hd hK gv
      go_simp
    · intro us w' A hA hC hd K hK
      have e25 : us 25 = .bool true := hd 25 (by kernel_rfl)
      have e31 : us 31 = .bool true := hd 31 (by kernel_rfl)
      have ev46 : A.tmps[46]?.getD undef = us 25 := by rw [hA]; kernel_rfl
      rw [e25] at ev46
      have ev52 : A.tmps[52]?.getD undef = us 31 := by rw [hA]; kernel_rfl
      rw [e31] at ev52
      refine flow_value (.bool true) (by rw [hA]; kernel_rfl) ?_ rfl hK
      clear hA hd hK
      go_simp
    · intro us w' A hA hC hd K hK
      have e32 : us 32 = .bool true := hd 32 (by kernel_rfl)
      have ev53 : A.tmps[53]?.getD undef = us 32 := by rw [hA]; kernel_rfl
      rw [e32] at ev53
      refine flow_value (.bool true) (by rw [hA]; kernel_rfl) ?_ rfl hK
      clear hA hd hK
      go_simp
    · intro us w' A hA hC hd K hK
      have e33 : us 33 = .bool true := hd 33 (by kernel_rfl)
      have gv : A.tmps[54]? = some (us 33) := by rw [hA]; kernel_rfl
      rw [e33] at gv
      have evp : A.tmps[8]?.getD undef = .pointer (some ⟨(bk2 + 1), 0, none⟩) := by rw [hA]; kernel_rfl
      refine flow_value (.slice (some ⟨(bk2 + 1), 0, none⟩) 32 32) (by rw [guard_known 33 true true 54 rfl rfl gv]; rfl) ?_ rfl hK
      clear hA hd hK gv
      go_simp
    · intro us w' A hA hC hd K hK
      have e33 : us 33 = .bool true := hd 33 (by kernel_rfl)
      have gv : A.tmps[54]? = some (us 33) := by rw [hA]; kernel_rfl
      rw [e33] at gv
      have evp : A.tmps[3]?.getD undef = .pointer (some ⟨(w.heap.size + 1), 0, none⟩) := by rw [hA]; kernel_rfl
      refine flow_value (.slice (some ⟨(w.heap.size + 1), 0, none⟩) 16 16) (by rw [guard_known 33 true true 54 rfl rfl gv]; rfl) ?_ rfl hK
      clear hA hd hK gv
      go_simp
    · intro us w' A hA hC hd K hK
      have e35 : us 35 = .slice (some ⟨(w.heap.size + 1), 0, none⟩) 16 16 := hd 35 (by kernel_rfl)
      have e33 : us 33 = .bool true := hd 33 (by kernel_rfl)
      have gv : A.tmps[54]? = some (us 33) := by rw [hA]; kernel_rfl
      rw [e33] at gv
      refine flow_call 16 #[us 35, .string ({ data := #[112, 114, 111, 116, 101, 99, 116] } : ByteArray), .int .i64 32] (by rw [guard_known 33 true true 54 rfl rfl gv]; rfl) (fun _ => by rw [hA]; kernel_rfl) ?_ hK
      rw [e35]
      exact (DM2.out w' hC).mono fun e w2 ⟨v, he, ho, hb⟩ => ⟨v, he, ho.mono hC.size, hb⟩
    · intro us w' A hA hC hd K hK
      have e34 : us 34 = .slice (some ⟨(bk2 + 1), 0, none⟩) 32 32 := hd 34 (by kernel_rfl)
      have o36 : Own w' W5.heap.size (us 36) (keyM K2) := hd 36 (by kernel_rfl)
      obtain ⟨A36, q36, c36, e36, hc36, hm36, m36, x36⟩ := o36.form
      have e33 : us 33 = .bool true := hd 33 (by kernel_rfl)
      have gv : A.tmps[54]? = some (us 33) := by rw [hA]; kernel_rfl
      rw [e33] at gv
      refine flow_call 10 #[us 34, us 36] (by rw [guard_known 33 true true 54 rfl rfl gv]; rfl) (fun _ => by rw [hA]; kernel_rfl) ?_ hK
      rw [e34, e36]
      exact calls_known (same_b w' (bk2 + 1) q36 (some ⟨(bk2 + 1), 0, none⟩) A36 _ _ 32 c36 (keyM K2) (keyM_len _).symm rfl (by rw [keyM_len]; omega) (MM2.out.below0 hC) m36)
    · intro us w' A hA hC hd K hK
      have e33 : us 33 = .bool true := hd 33 (by kernel_rfl)
      have e37 : us 37 = .bool true := hd 37 (by kernel_rfl)
      have ev54 : A.tmps[54]?.getD undef = us 33 := by rw [hA]; kernel_rfl
      rw [e33] at ev54
      have ev58 : A.tmps[58]?.getD undef = us 37 := by rw [hA]; kernel_rfl
      rw [e37] at ev58
      refine flow_value (.bool true) (by rw [hA]; kernel_rfl) ?_ rfl hK
      clear hA hd hK
      go_simp
  · intro us w' A hA hC hd
    subst hA
    have e0 : us 0 = .slice (some ⟨bk1, 0, none⟩) 16 16 := hd 0 (by omega)
    have e1 : us 1 = .slice (some ⟨w.heap.size, 0, none⟩) 16 16 := hd 1 (by omega)
    have o2 : Own w' W5.heap.size (us 2) (keyE K1) := hd 2 (by omega)
    obtain ⟨A2, q2, c2, e2, hc2, hm2, m2, x2⟩ := o2.form
    have e3 : us 3 = .bool true := hd 3 (by omega)
    have e4 : us 4 = .bool true := hd 4 (by omega)
    have e5 : us 5 = .slice (some ⟨(bk1 + 1), 0, none⟩) 32 32 := hd 5 (by omega)
    have e6 : us 6 = .slice (some ⟨w.heap.size, 0, none⟩) 16 16 := hd 6 (by omega)
    have o7 : Own w' W5.heap.size (us 7) (keyM K1) := hd 7 (by omega)
    obtain ⟨A7, q7, c7, e7, hc7, hm7, m7, x7⟩ := o7.form
    have e8 : us 8 = .bool true := hd 8 (by omega)
    have e9 : us 9 = .bool true := hd 9 (by omega)
    have e10 : us 10 = .bool true := hd 10 (by omega)
    have e11 : us 11 = .agg (bA 16 (ofL K1)) := hd 11 (by omega)
    have e12 : us 12 = .agg (bA 16 (ofL K2)) := hd 12 (by omega)
    have e13 : us 13 = .bool false := hd 13 (by omega)
    have e14 : us 14 = .bool false := hd 14 (by omega)
    have e15 : us 15 = .agg (bA 16 (ofL (keyE K1))) := hd 15 (by omega)
    have e16 : us 16 = .agg (bA 16 (ofL (keyE K2))) := hd 16 (by omega)
    have e17 : us 17 = .bool true := hd 17 (by omega)
    have e18 : us 18 = .bool true := hd 18 (by omega)
    have e19 : us 19 = .agg (bA 32 (ofL (keyM K1))) := hd 19 (by omega)
    have e20 : us 20 = .agg (bA 32 (ofL (keyM K2))) := hd 20 (by omega)
    have e21 : us 21 = .bool true := hd 21 (by omega)
    have e22 : us 22 = .bool true := hd 22 (by omega)
    have e23 : us 23 = .bool true := hd 23 (by omega)
    have e24 : us 24 = .bool true := hd 24 (by omega)
    have e25 : us 25 = .bool true := hd 25 (by omega)
    have e26 : us 26 = .agg (bA 16 (ofL (keyE K2))) := hd 26 (by omega)
    have e27 : us 27 = .slice (some ⟨(w.heap.size + 1), 0, none⟩) 16 16 := hd 27 (by omega)
    have o28 : Own w' W5.heap.size (us 28) (keyE K2) := hd 28 (by omega)
    obtain ⟨A28, q28, c28, e28, hc28, hm28, m28, x28⟩ := o28.form
    obtain ⟨qq29, e29, rr29, lt29⟩ := hd 29 (by omega)
    have e30 : us 30 = .agg (bA 16 (ofL (keyE K2))) := hd 30 (by omega)
    have e31 : us 31 = .bool true := hd 31 (by omega)
    have e32 : us 32 = .bool true := hd 32 (by omega)
    have e33 : us 33 = .bool true := hd 33 (by omega)
    have e34 : us 34 = .slice (some ⟨(bk2 + 1), 0, none⟩) 32 32 := hd 34 (by omega)
    have e35 : us 35 = .slice (some ⟨(w.heap.size + 1), 0, none⟩) 16 16 := hd 35 (by omega)
    have o36 : Own w' W5.heap.size (us 36) (keyM K2) := hd 36 (by omega)
    obtain ⟨A36, q36, c36, e36, hc36, hm36, m36, x36⟩ := o36.form
    have e37 : us 37 = .bool true := hd 37 (by omega)
    have e38 : us 38 = .bool true := hd 38 (by omega)
    simp only [List.take_succ_cons, List.take_zero, List.drop_succ_cons, List.drop_zero, fillAct, Act.put, Nat.zero_add, Nat.reduceAdd, List.setIfInBounds_toArray, List.set_cons_zero, List.set_cons_succ, e0, e1, e2, e3, e4, e5, e6, e7, e8, e9, e10, e11, e12, e13, e14, e15, e16, e17, e18, e19, e20, e21, e22, e23, e24, e25, e26, e27, e28, e29, e30, e31, e32, e33, e34, e35, e36, e37, e38]
    clear hd 
    have hW := HW.out.trans (hC.mono HW.out.size)
    go_wp2
    go_ret
    exact ⟨rfl, hW⟩
set_option maxHeartbeats 4000000 in
set_option maxRecDepth 100000 in
theorem walk_not (w : World) (K1 K2 : List UInt8) (hKA : KAt w) (h1 : K1.length = 16) (h2 : K2.length = 16) (hKO : K1 ≠ K2) :
    Calls Tryd.prog 6 #[.agg (bA 16 (ofL K1)), .agg (bA 16 (ofL K2))] w fun e w' => e = .returned (.bool true) ∧ Below w.heap.size w w' := by
  have HKO := kept hKO
  have KA := kept hKA
  have HL1 := kept h1
  have HL2 := kept h2
  clear hKA h1 h2 hKO
  go_enter Tryd.func6, Tryd.ntmps6
  go_upto_region 1 with (fail)
  go_name_world W0 hW0
  have H0 := kept (show Blk W0 w.heap.size 22 (bA 16 (ofL K1)) by rw [← hW0]; exact (Blk.new w _ _).alloc _)
  have H1 := kept (show Blk W0 (w.heap.size + 1) 22 (bA 16 (ofL K2)) by
    rw [← hW0]
    have n1 := Blk.new (w.alloc (.cells (bA 16 (ofL K1)) 22)) 22 (bA 16 (ofL K2))
    simpa only [World.size_alloc] using n1)
  have HW := kept (show Below w.heap.size w W0 by rw [← hW0]; exact ((Below.refl _ w).alloc (Nat.le_refl _) _).alloc (by simp) _)
  clear hW0
  replace KA := kept (KA.out.below0 HW.out)
  go_wp2_with fail
  refine (sawake_any W0 KA.out).mono ?_
  rintro e W1 ⟨rfl, k⟩
  replace H0 := kept (H0.out.below k H0.out.lt)
  replace H1 := kept (H1.out.below k H1.out.lt)
  replace KA := kept (KA.out.below0 k)
  replace HW := kept (below_next HW.out k)
  clear k
  go_wp2_with (first | (refine wpList_load_row rfl 22 (.tmp 2) rfl w.heap.size rfl 22 (bA 16 (ofL K1)) (0, 0) _ H0.out Tryd.underlying22 rfl (by rw [b16_size, bA_size]) ?_))
  refine (keys_any W1 K1 KA.out HL1.out).mono ?_
  rintro e W2 ⟨rfl, k⟩
  replace H0 := kept (H0.out.below k H0.out.lt)
  replace H1 := kept (H1.out.below k H1.out.lt)
  replace KA := kept (KA.out.below0 k)
  replace HW := kept (below_next HW.out k)
  clear k
  have hlt1 : w.heap.size + 1 < W2.heap.size := H1.out.lt
  go_upto_region 4 with (first | (refine wpList_store_row rfl 22 (.tmp 5) (.tmp 14) rfl W2.heap.size (bA 16 (ofL (keyE K1))) rfl rfl 22 (bA 16 (fun _ => 0)) ((Blk.new W2 _ _).alloc _) (by rw [b16_size, bA_size]) (by rw [bA_size, bA_size]) (bA_one _ _) ?_) | (refine wpList_store_row rfl 36 (.tmp 6) (.tmp 15) rfl (W2.heap.size + 1) (bA 32 (ofL (keyM K1))) rfl rfl 36 (bA 32 (fun _ => 0)) ((blk_second W2 _ _ _).row_far (by omega)) (by rw [b32_size, bA_size]) (by rw [bA_size, bA_size]) (bA_one _ _) ?_))
  go_name_world W3 hW3
  have k : Below W2.heap.size W2 W3 := by
    rw [← hW3]
    exact below_setRow (below_setRow (((Below.refl _ W2).alloc (Nat.le_refl _) _).alloc (by simp) _) (Nat.le_refl _) _) (by omega) _
  have HE1 := kept (show Blk W3 W2.heap.size 22 (bA 16 (ofL (keyE K1))) by
    rw [← hW3]
    exact Blk.row_far (setRow_heap _ _ _ _ _ _ ((Blk.new W2 _ _).alloc _)) (by omega))
  have HM1 := kept (show Blk W3 (W2.heap.size + 1) 36 (bA 32 (ofL (keyM K1))) by
    rw [← hW3]
    exact setRow_heap _ _ _ _ _ _ ((blk_second W2 _ _ _).row_far (by omega)))
  replace H0 := kept (H0.out.below k H0.out.lt)
  replace H1 := kept (H1.out.below k H1.out.lt)
  replace KA := kept (KA.out.below0 k)
  replace HW := kept (below_next HW.out k)
  clear k hW3
  generalize W2.heap.size = bk1 at hlt1 HE1 HM1 ⊢
  go_wp2_with (first | (refine wpList_load_row rfl 22 (.tmp 3) rfl (w.heap.size + 1) rfl 22 (bA 16 (ofL K2)) (0, 0) _ H1.out Tryd.underlying22 rfl (by rw [b16_size, bA_size]) ?_))
  refine (keys_any W3 K2 KA.out HL2.out).mono ?_
  rintro e W4 ⟨rfl, k⟩
  replace H0 := kept (H0.out.below k H0.out.lt)
  replace H1 := kept (H1.out.below k H1.out.lt)
  replace HE1 := kept (HE1.out.below k HE1.out.lt)
  replace HM1 := kept (HM1.out.below k HM1.out.lt)
  replace KA := kept (KA.out.below0 k)
  replace HW := kept (below_next HW.out k)
  clear k
  have hlt2 : w.heap.size + 1 < W4.heap.size := H1.out.lt
  go_upto_region 5 with (first | (refine wpList_store_row rfl 22 (.tmp 7) (.tmp 19) rfl W4.heap.size (bA 16 (ofL (keyE K2))) rfl rfl 22 (bA 16 (fun _ => 0)) ((Blk.new W4 _ _).alloc _) (by rw [b16_size, bA_size]) (by rw [bA_size, bA_size]) (bA_one _ _) ?_) | (refine wpList_store_row rfl 36 (.tmp 8) (.tmp 20) rfl (W4.heap.size + 1) (bA 32 (ofL (keyM K2))) rfl rfl 36 (bA 32 (fun _ => 0)) ((blk_second W4 _ _ _).row_far (by omega)) (by rw [b32_size, bA_size]) (by rw [bA_size, bA_size]) (bA_one _ _) ?_))
  go_name_world W5 hW5
  have k : Below W4.heap.size W4 W5 := by
    rw [← hW5]
    exact below_setRow (below_setRow (((Below.refl _ W4).alloc (Nat.le_refl _) _).alloc (by simp) _) (Nat.le_refl _) _) (by omega) _
  have HE2 := kept (show Blk W5 W4.heap.size 22 (bA 16 (ofL (keyE K2))) by
    rw [← hW5]
    exact Blk.row_far (setRow_heap _ _ _ _ _ _ ((Blk.new W4 _ _).alloc _)) (by omega))
  have HM2 := kept (show Blk W5 (W4.heap.size + 1) 36 (bA 32 (ofL (keyM K2))) by
    rw [← hW5]
    exact setRow_heap _ _ _ _ _ _ ((blk_second W4 _ _ _).row_far (by omega)))
  replace H0 := kept (H0.out.below k H0.out.lt)
  replace H1 := kept (H1.out.below k H1.out.lt)
  replace HE1 := kept (HE1.out.below k HE1.out.lt)
  replace HM1 := kept (HM1.out.below k HM1.out.lt)
  replace KA := kept (KA.out.below0 k)
  replace HW := kept (below_next HW.out k)
  clear k hW5
  generalize W4.heap.size = bk2 at hlt2 HE2 HM2 ⊢
  have MK1 := kept (mem_arr H0.out HL1.out)
  have MK2 := kept (mem_arr H1.out HL2.out)
  have ME1 := kept (mem_arr HE1.out (keyE_len K1))
  have MM1 := kept (mem_arr HM1.out (keyM_len K1))
  have MM2 := kept (mem_arr HM2.out (keyM_len K2))
  have s1 := fun w' => slice16_all w' bk1
  have s2 := fun w' => slice16_all w' w.heap.size
  have s3 := fun w' => slice32_all w' (bk1 + 1)
  have s4 := fun w' => slice16_all w' (w.heap.size + 1)
  have s5 := fun w' => slice32_all w' (bk2 + 1)
  have DE1 := kept (show ∀ w' : World, Below W5.heap.size W5 w' → Calls Tryd.prog 16 #[.slice (some ⟨w.heap.size, 0, none⟩) 16 16, .string ({ data := #[101, 110, 99, 114, 121, 112, 116] } : ByteArray), .int .i64 16] w' fun e w2 => ∃ v, e = .returned v ∧ Own w2 w'.heap.size v (keyE K1) ∧ Below w'.heap.size w' w2 from fun w' h => rder_yes w' _ _ 16 16 K1 ({ data := #[101, 110, 99, 114, 121, 112, 116] } : ByteArray) 16 HL1.out.symm (MK1.out.below0 h) (by rw [HL1.out]; omega) (by decide) (by omega))
  have DM1 := kept (show ∀ w' : World, Below W5.heap.size W5 w' → Calls Tryd.prog 16 #[.slice (some ⟨w.heap.size, 0, none⟩) 16 16, .string ({ data := #[112, 114, 111, 116, 101, 99, 116] } : ByteArray), .int .i64 32] w' fun e w2 => ∃ v, e = .returned v ∧ Own w2 w'.heap.size v (keyM K1) ∧ Below w'.heap.size w' w2 from fun w' h => rder_yes w' _ _ 16 16 K1 ({ data := #[112, 114, 111, 116, 101, 99, 116] } : ByteArray) 32 HL1.out.symm (MK1.out.below0 h) (by rw [HL1.out]; omega) (by decide) (by omega))
  have DE2 := kept (show ∀ w' : World, Below W5.heap.size W5 w' → Calls Tryd.prog 16 #[.slice (some ⟨w.heap.size + 1, 0, none⟩) 16 16, .string ({ data := #[101, 110, 99, 114, 121, 112, 116] } : ByteArray), .int .i64 16] w' fun e w2 => ∃ v, e = .returned v ∧ Own w2 w'.heap.size v (keyE K2) ∧ Below w'.heap.size w' w2 from fun w' h => rder_yes w' _ _ 16 16 K2 ({ data := #[101, 110, 99, 114, 121, 112, 116] } : ByteArray) 16 HL2.out.symm (MK2.out.below0 h) (by rw [HL2.out]; omega) (by decide) (by omega))
  have DM2 := kept (show ∀ w' : World, Below W5.heap.size W5 w' → Calls Tryd.prog 16 #[.slice (some ⟨w.heap.size + 1, 0, none⟩) 16 16, .string ({ data := #[112, 114, 111, 116, 101, 99, 116] } : ByteArray), .int .i64 32] w' fun e w2 => ∃ v, e = .returned v ∧ Own w2 w'.heap.size v (keyM K2) ∧ Below w'.heap.size w' w2 from fun w' h => rder_yes w' _ _ 16 16 K2 ({ data := #[112, 114, 111, 116, 101, 99, 116] } : ByteArray) 32 HL2.out.symm (MK2.out.below0 h) (by rw [HL2.out]; omega) (by decide) (by omega))
  have R0 := kept (show ∀ w', Below W5.heap.size W5 w' → w'.rangeAt w.heap.size 0 (bA 16 (ofL K1)).toList from fun w' h => (H0.out.below h H0.out.lt).range)
  have R1 := kept (show ∀ w', Below W5.heap.size W5 w' → w'.rangeAt (w.heap.size + 1) 0 (bA 16 (ofL K2)).toList from fun w' h => (H1.out.below h H1.out.lt).range)
  have R2 := kept (show ∀ w', Below W5.heap.size W5 w' → w'.rangeAt bk1 0 (bA 16 (ofL (keyE K1))).toList from fun w' h => (HE1.out.below h HE1.out.lt).range)
  have R3 := kept (show ∀ w', Below W5.heap.size W5 w' → w'.rangeAt (bk1 + 1) 0 (bA 32 (ofL (keyM K1))).toList from fun w' h => (HM1.out.below h HM1.out.lt).range)
  have R4 := kept (show ∀ w', Below W5.heap.size W5 w' → w'.rangeAt bk2 0 (bA 16 (ofL (keyE K2))).toList from fun w' h => (HE2.out.below h HE2.out.lt).range)
  have R5 := kept (show ∀ w', Below W5.heap.size W5 w' → w'.rangeAt (bk2 + 1) 0 (bA 32 (ofL (keyM K2))).toList from fun w' h => (HM2.out.below h HM2.out.lt).range)
  have q1 := fun w' => run_equalInL16 K1 K2 HL1.out HL2.out w'
  rw [sameB_false HKO.out] at q1
  have q4 := fun w' => run_eqlL16 (keyE K2) (keyE K2) (keyE_len _) (keyE_len _) w'
  rw [sameB_self] at q4
  refine wp_region_flow 39 (fun w' => Below W5.heap.size W5 w') [fun v _ => v = .slice (some ⟨bk1, 0, none⟩) 16 16, fun v _ => v = .slice (some ⟨w.heap.size, 0, none⟩) 16 16, fun v w' => Own w' W5.heap.size v (keyE K1), fun v _ => v = .bool true, fun v _ => v = .bool true, fun v _ => v = .slice (some ⟨(bk1 + 1), 0, none⟩) 32 32, fun v _ => v = .slice (some ⟨w.heap.size, 0, none⟩) 16 16, fun v w' => Own w' W5.heap.size v (keyM K1), fun v _ => v = .bool true, fun v _ => v = .bool true, fun v _ => v = .bool true, fun v _ => v = .agg (bA 16 (ofL K1)), fun v _ => v = .agg (bA 16 (ofL K2)), fun v _ => v = .bool true, fun v _ => v = .bool true, fun v _ => v = undef, fun v _ => v = undef, fun v _ => v = undef, fun v _ => v = undef, fun v _ => v = undef, fun v _ => v = undef, fun v _ => v = undef, fun v _ => v = undef, fun v _ => v = .bool true, fun v _ => v = .bool true, fun v _ => v = .bool true, fun v _ => v = .agg (bA 16 (ofL (keyE K2))), fun v _ => v = .slice (some ⟨(w.heap.size + 1), 0, none⟩) 16 16, fun v w' => Own w' W5.heap.size v (keyE K2), fun v w' => ∃ qq, v = .pointer (some ⟨qq, 0, none⟩) ∧ w'.rangeAt qq 0 ((keyE K2).map bv) ∧ qq < w'.heap.size, fun v _ => v = .agg (bA 16 (ofL (keyE K2))), fun v _ => v = .bool true, fun v _ => v = .bool true, fun v _ => v = .bool true, fun v _ => v = .slice (some ⟨(bk2 + 1), 0, none⟩) 32 32, fun v _ => v = .slice (some ⟨(w.heap.size + 1), 0, none⟩) 16 16, fun v w' => Own w' W5.heap.size v (keyM K2), fun v _ => v = .bool true, fun v _ => v = .bool true] (by kernel_rfl) (by kernel_rfl) rfl (Below.refl _ W5).drew (fun _ _ h k => below_next h k) ?_ ?_ ?_
  · exact stable_cons (stable_eq _) (stable_cons (stable_eq _) (stable_cons (stable_own _ _) (stable_cons (stable_eq _) (stable_cons (stable_eq _) (stable_cons (stable_eq _) (stable_cons (stable_eq _) (stable_cons (stable_own _ _) (stable_cons (stable_eq _) (stable_cons (stable_eq _) (stable_cons (stable_eq _) (stable_cons (stable_eq _) (stable_cons (stable_eq _) (stable_cons (stable_eq _) (stable_cons (stable_eq _) (stable_cons (stable_eq _) (stable_cons (stable_eq _) (stable_cons (stable_eq _) (stable_cons (stable_eq _) (stable_cons (stable_eq _) (stable_cons (stable_eq _) (stable_cons (stable_eq _) (stable_cons (stable_eq _) (stable_cons (stable_eq _) (stable_cons (stable_eq _) (stable_cons (stable_eq _) (stable_cons (stable_eq _) (stable_cons (stable_eq _) (stable_cons (stable_own _ _) (stable_cons (fun v w1 w2 ⟨qq, h1, h2, h3⟩ k => ⟨qq, h1, range_below h2 h3 k, Nat.lt_of_lt_of_le h3 k.size⟩) (stable_cons (stable_eq _) (stable_cons (stable_eq _) (stable_cons (stable_eq _) (stable_cons (stable_eq _) (stable_cons (stable_eq _) (stable_cons (stable_eq _) (stable_cons (stable_own _ _) (stable_cons (stable_eq _) (stable_cons (stable_eq _) (stable_nil)))))))))))))))))))))))))))))))))))))))
  · simp only [List.take_succ_cons, List.take_zero]
    refine OweAll.cons ?_ (OweAll.cons ?_ (OweAll.cons ?_ (OweAll.cons ?_ (OweAll.cons ?_ (OweAll.cons ?_ (OweAll.cons ?_ (OweAll.cons ?_ (OweAll.cons ?_ (OweAll.cons ?_ (OweAll.cons ?_ (OweAll.cons ?_ (OweAll.cons ?_ (OweAll.cons ?_ (OweAll.cons ?_ (OweAll.cons ?_ (OweAll.cons ?_ (OweAll.cons ?_ (OweAll.cons ?_ (OweAll.cons ?_ (OweAll.cons ?_ (OweAll.cons ?_ (OweAll.cons ?_ (OweAll.cons ?_ (OweAll.cons ?_ (OweAll.cons ?_ (OweAll.cons ?_ (OweAll.cons ?_ (OweAll.cons ?_ (OweAll.cons ?_ (OweAll.cons ?_ (OweAll.cons ?_ (OweAll.cons ?_ (OweAll.cons ?_ (OweAll.cons ?_ (OweAll.cons ?_ (OweAll.cons ?_ (OweAll.cons ?_ (OweAll.cons ?_ OweAll.nil))))))))))))))))))))))))))))))))))))))
    · intro us w' A hA hC hd K hK
      have evp : A.tmps[5]?.getD undef = .pointer (some ⟨bk1, 0, none⟩) := by rw [hA]; kernel_rfl
      refine flow_value (.slice (some ⟨bk1, 0, none⟩) 16 16) (by rw [hA]; kernel_rfl) ?_ rfl hK
      clear hA hd hK
      go_simp
    · intro us w' A hA hC hd K hK
      have evp : A.tmps[2]?.getD undef = .pointer (some ⟨w.heap.size, 0, none⟩) := by rw [hA]; kernel_rfl
      refine flow_value (.slice (some ⟨w.heap.size, 0, none⟩) 16 16) (by rw [hA]; kernel_rfl) ?_ rfl hK
      clear hA hd hK
      go_simp
    · intro us w' A hA hC hd K hK
      have e1 : us 1 = .slice (some ⟨w.heap.size, 0, none⟩) 16 16 := hd 1 (by kernel_rfl)
      refine flow_call 16 #[us 1, .string ({ data := #[101, 110, 99, 114, 121, 112, 116] } : ByteArray), .int .i64 16] (by rw [hA]; kernel_rfl) (fun _ => by rw [hA]; kernel_rfl) ?_ hK
      rw [e1]
      exact (DE1.out w' hC).mono fun e w2 ⟨v, he, ho, hb⟩ => ⟨v, he, ho.mono hC.size, hb⟩
    · intro us w' A hA hC hd K hK
      have e0 : us 0 = .slice (some ⟨bk1, 0, none⟩) 16 16 := hd 0 (by kernel_rfl)
      have o2 : Own w' W5.heap.size (us 2) (keyE K1) := hd 2 (by kernel_rfl)
      obtain ⟨A2, q2, c2, e2, hc2, hm2, m2, x2⟩ := o2.form
      refine flow_call 10 #[us 0, us 2] (by rw [hA]; kernel_rfl) (fun _ => by rw [hA]; kernel_rfl) ?_ hK
      rw [e0, e2]
      exact calls_known (same_b w' bk1 q2 (some ⟨bk1, 0, none⟩) A2 _ _ 16 c2 (keyE K1) (keyE_len _).symm rfl (by rw [keyE_len]; omega) (ME1.out.below0 hC) m2)
    · intro us w' A hA hC hd K hK
      have e3 : us 3 = .bool true := hd 3 (by kernel_rfl)
      have ev24 : A.tmps[24]?.getD undef = us 3 := by rw [hA]; kernel_rfl
      rw [e3] at ev24
      refine flow_value (.bool true) (by rw [hA]; kernel_rfl) ?_ rfl hK
      clear hA hd hK
      go_simp
    · intro us w' A hA hC hd K hK
      have e4 : us 4 = .bool true := hd 4 (by kernel_rfl)
      have gv : A.tmps[25]? = some (us 4) := by rw [hA]; kernel_rfl
      rw [e4] at gv
      have evp : A.tmps[6]?.getD undef = .pointer (some ⟨(bk1 + 1), 0, none⟩) := by rw [hA]; kernel_rfl
      refine flow_value (.slice (some ⟨(bk1 + 1), 0, none⟩) 32 32) (by rw [guard_known 4 true true 25 rfl rfl gv]; rfl) ?_ rfl hK
      clear hA hd hK gv
      go_simp
    · intro us w' A hA hC hd K hK
      have e4 : us 4 = .bool true := hd 4 (by kernel_rfl)
      have gv : A.tmps[25]? = some (us 4) := by rw [hA]; kernel_rfl
      rw [e4] at gv
      have evp : A.tmps[2]?.getD undef = .pointer (some ⟨w.heap.size, 0, none⟩) := by rw [hA]; kernel_rfl
      refine flow_value (.slice (some ⟨w.heap.size, 0, none⟩) 16 16) (by rw [guard_known 4 true true 25 rfl rfl gv]; rfl) ?_ rfl hK
      clear hA hd hK gv
      go_simp
    · intro us w' A hA hC hd K hK
      have e6 : us 6 = .slice (some ⟨w.heap.size, 0, none⟩) 16 16 := hd 6 (by kernel_rfl)
      have e4 : us 4 = .bool true := hd 4 (by kernel_rfl)
      have gv : A.tmps[25]? = some (us 4) := by rw [hA]; kernel_rfl
      rw [e4] at gv
      refine flow_call 16 #[us 6, .string ({ data := #[112, 114, 111, 116, 101, 99, 116] } : ByteArray), .int .i64 32] (by rw [guard_known 4 true true 25 rfl rfl gv]; rfl) (fun _ => by rw [hA]; kernel_rfl) ?_ hK
      rw [e6]
      exact (DM1.out w' hC).mono fun e w2 ⟨v, he, ho, hb⟩ => ⟨v, he, ho.mono hC.size, hb⟩
    · intro us w' A hA hC hd K hK
      have e5 : us 5 = .slice (some ⟨(bk1 + 1), 0, none⟩) 32 32 := hd 5 (by kernel_rfl)
      have o7 : Own w' W5.heap.size (us 7) (keyM K1) := hd 7 (by kernel_rfl)
      obtain ⟨A7, q7, c7, e7, hc7, hm7, m7, x7⟩ := o7.form
      have e4 : us 4 = .bool true := hd 4 (by kernel_rfl)
      have gv : A.tmps[25]? = some (us 4) := by rw [hA]; kernel_rfl
      rw [e4] at gv
      refine flow_call 10 #[us 5, us 7] (by rw [guard_known 4 true true 25 rfl rfl gv]; rfl) (fun _ => by rw [hA]; kernel_rfl) ?_ hK
      rw [e5, e7]
      exact calls_known (same_b w' (bk1 + 1) q7 (some ⟨(bk1 + 1), 0, none⟩) A7 _ _ 32 c7 (keyM K1) (keyM_len _).symm rfl (by rw [keyM_len]; omega) (MM1.out.below0 hC) m7)
    · intro us w' A hA hC hd K hK
      have e4 : us 4 = .bool true := hd 4 (by kernel_rfl)
      have e8 : us 8 = .bool true := hd 8 (by kernel_rfl)
      have ev25 : A.tmps[25]?.getD undef = us 4 := by rw [hA]; kernel_rfl
      rw [e4] at ev25
      have ev29 : A.tmps[29]?.getD undef = us 8 := by rw [hA]; kernel_rfl
      rw [e8] at ev29
      refine flow_value (.bool true) (by rw [hA]; kernel_rfl) ?_ rfl hK
      clear hA hd hK
      go_simp
    · intro us w' A hA hC hd K hK
      have e9 : us 9 = .bool true := hd 9 (by kernel_rfl)
      have ev30 : A.tmps[30]?.getD undef = us 9 := by rw [hA]; kernel_rfl
      rw [e9] at ev30
      refine flow_value (.bool true) (by rw [hA]; kernel_rfl) ?_ rfl hK
      clear hA hd hK
      go_simp
    · intro us w' A hA hC hd K hK
      have e10 : us 10 = .bool true := hd 10 (by kernel_rfl)
      have gv : A.tmps[31]? = some (us 10) := by rw [hA]; kernel_rfl
      rw [e10] at gv
      exact flow_load (φ := fun v _ => v = .agg (bA 16 (ofL K1))) (by rw [guard_known 10 true true 31 rfl rfl gv]; rfl) 22 (.tmp 2) rfl w.heap.size 0 (by rw [hA]; kernel_rfl) (bA 16 (ofL K1)).toList _ (R0.out w' hC) Tryd.underlying22 rfl (s16_len _) rfl hK
    · intro us w' A hA hC hd K hK
      have e10 : us 10 = .bool true := hd 10 (by kernel_rfl)
      have gv : A.tmps[31]? = some (us 10) := by rw [hA]; kernel_rfl
      rw [e10] at gv
      exact flow_load (φ := fun v _ => v = .agg (bA 16 (ofL K2))) (by rw [guard_known 10 true true 31 rfl rfl gv]; rfl) 22 (.tmp 3) rfl (w.heap.size + 1) 0 (by rw [hA]; kernel_rfl) (bA 16 (ofL K2)).toList _ (R1.out w' hC) Tryd.underlying22 rfl (s16_len _) rfl hK
    · intro us w' A hA hC hd K hK
      have e11 : us 11 = .agg (bA 16 (ofL K1)) := hd 11 (by kernel_rfl)
      have e12 : us 12 = .agg (bA 16 (ofL K2)) := hd 12 (by kernel_rfl)
      have e10 : us 10 = .bool true := hd 10 (by kernel_rfl)
      have gv : A.tmps[31]? = some (us 10) := by rw [hA]; kernel_rfl
      rw [e10] at gv
      have ev32 : A.tmps[32]?.getD undef = us 11 := by rw [hA]; kernel_rfl
      rw [e11] at ev32
      have ev33 : A.tmps[33]?.getD undef = us 12 := by rw [hA]; kernel_rfl
      rw [e12] at ev33
      refine flow_value (.bool true) (by rw [guard_known 10 true true 31 rfl rfl gv]; rfl) ?_ rfl hK
      clear hA hd hK gv
      go_simp
    · intro us w' A hA hC hd K hK
      have e13 : us 13 = .bool true := hd 13 (by kernel_rfl)
      have e10 : us 10 = .bool true := hd 10 (by kernel_rfl)
      have gv : A.tmps[31]? = some (us 10) := by rw [hA]; kernel_rfl
      rw [e10] at gv
      have ev34 : A.tmps[34]?.getD undef = us 13 := by rw [hA]; kernel_rfl
      rw [e13] at ev34
      refine flow_value (.bool true) (by rw [guard_known 10 true true 31 rfl rfl gv]; rfl) ?_ rfl hK
      clear hA hd hK gv
      go_simp
    · intro us w' A hA hC hd K hK
      have e14 : us 14 = .bool true := hd 14 (by kernel_rfl)
      have gv : A.tmps[35]? = some (us 14) := by rw [hA]; kernel_rfl
      rw [e14] at gv
      exact flow_unwanted (by rw [guard_known 14 false true 35 rfl rfl gv]; rfl) rfl hK
    · intro us w' A hA hC hd K hK
      have e14 : us 14 = .bool true := hd 14 (by kernel_rfl)
      have gv : A.tmps[35]? = some (us 14) := by rw [hA]; kernel_rfl
      rw [e14] at gv
      exact flow_unwanted (by rw [guard_known 14 false true 35 rfl rfl gv]; rfl) rfl hK
    · intro us w' A hA hC hd K hK
      have e14 : us 14 = .bool true := hd 14 (by kernel_rfl)
      have gv : A.tmps[35]? = some (us 14) := by rw [hA]; kernel_rfl
      rw [e14] at gv
      exact flow_unwanted (by rw [guard_known 14 false true 35 rfl rfl gv]; rfl) rfl hK
    · intro us w' A hA hC hd K hK
      have e14 : us 14 = .bool true := hd 14 (by kernel_rfl)
      have gv : A.tmps[35]? = some (us 14) := by rw [hA]; kernel_rfl
      rw [e14] at gv
      exact flow_unwanted (by rw [guard_known 14 false true 35 rfl rfl gv]; rfl) rfl hK
    · intro us w' A hA hC hd K hK
      have e18 : us 18 = undef := hd 18 (by kernel_rfl)
      have gv : A.tmps[39]? = some (us 18) := by rw [hA]; kernel_rfl
      rw [e18] at gv
      exact flow_unwanted (by rw [guard_undef 18 true 39 rfl rfl gv]) rfl hK
    · intro us w' A hA hC hd K hK
      have e18 : us 18 = undef := hd 18 (by kernel_rfl)
      have gv : A.tmps[39]? = some (us 18) := by rw [hA]; kernel_rfl
      rw [e18] at gv
      exact flow_unwanted (by rw [guard_undef 18 true 39 rfl rfl gv]) rfl hK
    · intro us w' A hA hC hd K hK
      have e18 : us 18 = undef := hd 18 (by kernel_rfl)
      have gv : A.tmps[39]? = some (us 18) := by rw [hA]; kernel_rfl
      rw [e18] at gv
      exact flow_unwanted (by rw [guard_undef 18 true 39 rfl rfl gv]) rfl hK
    · intro us w' A hA hC hd K hK
      have e14 : us 14 = .bool true := hd 14 (by kernel_rfl)
      have gv : A.tmps[35]? = some (us 14) := by rw [hA]; kernel_rfl
      rw [e14] at gv
      exact flow_unwanted (by rw [guard_known 14 false true 35 rfl rfl gv]; rfl) rfl hK
    · intro us w' A hA hC hd K hK
      have e14 : us 14 = .bool true := hd 14 (by kernel_rfl)
      have e22 : us 22 = undef := hd 22 (by kernel_rfl)
      have e10 : us 10 = .bool true := hd 10 (by kernel_rfl)
      have gv : A.tmps[31]? = some (us 10) := by rw [hA]; kernel_rfl
      rw [e10] at gv
      have ev35 : A.tmps[35]?.getD undef = us 14 := by rw [hA]; kernel_rfl
      rw [e14] at ev35
      have ev43 : A.tmps[43]?.getD undef = us 22 := by rw [hA]; kernel_rfl
      rw [e22] at ev43
      refine flow_value (.bool true) (by rw [guard_known 10 true true 31 rfl rfl gv]; rfl) ?_ rfl hK
      clear hA hd hK gv
      go_simp
    · intro us w' A hA hC hd K hK
      have e10 : us 10 = .bool true := hd 10 (by kernel_rfl)
      have e23 : us 23 = .bool true := hd 23 (by kernel_rfl)
      have ev31 : A.tmps[31]?.getD undef = us 10 := by rw [hA]; kernel_rfl
      rw [e10] at ev31
      have ev44 : A.tmps[44]?.getD undef = us 23 := by rw [hA]; kernel_rfl
      rw [e23] at ev44
      refine flow_value (.bool true) (by rw [hA]; kernel_rfl) ?_ rfl hK
      clear hA hd hK
      go_simp
    · intro us w' A hA hC hd K hK
      have e24 : us 24 = .bool true := hd 24 (by kernel_rfl)
      have ev45 : A.tmps[45]?.getD undef = us 24 := by rw [hA]; kernel_rfl
      rw [e24] at ev45
      refine flow_value (.bool true) (by rw [hA]; kernel_rfl) ?_ rfl hK
      clear hA hd hK
      go_simp
    · intro us w' A hA hC hd K hK
      have e25 : us 25 = .bool true := hd 25 (by kernel_rfl)
      have gv : A.tmps[46]? = some (us 25) := by rw [hA]; kernel_rfl
      rw [e25] at gv
      exact flow_load (φ := fun v _ => v = .agg (bA 16 (ofL (keyE K2)))) (by rw [guard_known 25 true true 46 rfl rfl gv]; rfl) 22 (.tmp 7) rfl bk2 0 (by rw [hA]; kernel_rfl) (bA 16 (ofL (keyE K2))).toList _ (R4.out w' hC) Tryd.underlying22 rfl (s16_len _) rfl hK
    · intro us w' A hA hC hd K hK
      have e25 : us 25 = .bool true := hd 25 (by kernel_rfl)
      have gv : A.tmps[46]? = some (us 25) := by rw [hA]; kernel_rfl
      rw [e25] at gv
      have evp : A.tmps[3]?.getD undef = .pointer (some ⟨(w.heap.size + 1), 0, none⟩) := by rw [hA]; kernel_rfl
      refine flow_value (.slice (some ⟨(w.heap.size + 1), 0, none⟩) 16 16) (by rw [guard_known 25 true true 46 rfl rfl gv]; rfl) ?_ rfl hK
      clear hA hd hK gv
      go_simp
    · intro us w' A hA hC hd K hK
      have e27 : us 27 = .slice (some ⟨(w.heap.size + 1), 0, none⟩) 16 16 := hd 27 (by kernel_rfl)
      have e25 : us 25 = .bool true := hd 25 (by kernel_rfl)
      have gv : A.tmps[46]? = some (us 25) := by rw [hA]; kernel_rfl
      rw [e25] at gv
      refine flow_call 16 #[us 27, .string ({ data := #[101, 110, 99, 114, 121, 112, 116] } : ByteArray), .int .i64 16] (by rw [guard_known 25 true true 46 rfl rfl gv]; rfl) (fun _ => by rw [hA]; kernel_rfl) ?_ hK
      rw [e27]
      exact (DE2.out w' hC).mono fun e w2 ⟨v, he, ho, hb⟩ => ⟨v, he, ho.mono hC.size, hb⟩
    · intro us w' A hA hC hd K hK
      have o28 : Own w' W5.heap.size (us 28) (keyE K2) := hd 28 (by kernel_rfl)
      obtain ⟨A28, q28, c28, e28, hc28, hm28, m28, x28⟩ := o28.form
      have e25 : us 25 = .bool true := hd 25 (by kernel_rfl)
      have gv : A.tmps[46]? = some (us 25) := by rw [hA]; kernel_rfl
      rw [e25] at gv
      have hkl := keyE_len K2
      obtain ⟨_, hA28, _⟩ := x28.1 (fun e => by rw [e] at hkl; cases hkl)
      rw [hkl] at e28
      subst hA28
      have ha := fun w' => arr16 w' (some ⟨q28, 0, none⟩) 16 c28 (Nat.le_refl _)
      have ev28 : A.tmps[49]?.getD undef = us 28 := by rw [hA]; kernel_rfl
      rw [e28] at ev28
      refine flow_make (w1 := w') (.pointer (some ⟨q28, 0, none⟩)) (by rw [guard_known 25 true true 46 rfl rfl gv]; rfl) ?_ (Below.refl _ _) ⟨q28, rfl, mem_range m28, m28.lt (fun e => by rw [e] at hkl; cases hkl)⟩ hK
      clear hA hd hK gv
      go_simp
    · intro us w' A hA hC hd K hK
      obtain ⟨qq29, e29, rr29, lt29⟩ := hd 29 (by kernel_rfl)
      have e25 : us 25 = .bool true := hd 25 (by kernel_rfl)
      have gv : A.tmps[46]? = some (us 25) := by rw [hA]; kernel_rfl
      rw [e25] at gv
      have ev29 : A.eval (.tmp 50) = us 29 := by rw [hA]; kernel_rfl
      rw [e29] at ev29
      exact flow_load (φ := fun v _ => v = .agg (bA 16 (ofL (keyE K2)))) (by rw [guard_known 25 true true 46 rfl rfl gv]; rfl) 22 (.tmp 50) rfl qq29 0 ev29 ((keyE K2).map bv) _ rr29 Tryd.underlying22 rfl (by rw [b16_size, List.length_map, keyE_len]) (by rw [bA_ofL _ (keyE_len K2)]) hK
    · intro us w' A hA hC hd K hK
      have e26 : us 26 = .agg (bA 16 (ofL (keyE K2))) := hd 26 (by kernel_rfl)
      have e30 : us 30 = .agg (bA 16 (ofL (keyE K2))) := hd 30 (by kernel_rfl)
      have e25 : us 25 = .bool true := hd 25 (by kernel_rfl)
      have gv : A.tmps[46]? = some (us 25) := by rw [hA]; kernel_rfl
      rw [e25] at gv
      have ev47 : A.tmps[47]?.getD undef = us 26 := by rw [hA]; kernel_rfl
      rw [e26] at ev47
      have ev51 : A.tmps[51]?.getD undef = us 30 := by rw [hA]; kernel_rfl
      rw [e30] at ev51
      refine flow_value (.bool true) (by rw [guard_known 25 true true 46 rfl rfl gv]; rfl) ?_ rfl hK
      clear hA hd hK gv
      go_simp
    · intro us w' A hA hC hd K hK
      have e25 : us 25 = .bool true := hd 25 (by kernel_rfl)
      have e31 : us 31 = .bool true := hd 31 (by kernel_rfl)
      have ev46 : A.tmps[46]?.getD undef = us 25 := by rw [hA]; kernel_rfl
      rw [e25] at ev46
      have ev52 : A.tmps[52]?.getD undef = us 31 := by rw [hA]; kernel_rfl
      rw [e31] at ev52
      refine flow_value (.bool true) (by rw [hA]; kernel_rfl) ?_ rfl hK
      clear hA hd hK
      go_simp
    · intro us w' A hA hC hd K hK
      have e32 : us 32 = .bool true := hd 32 (by kernel_rfl)
      have ev53 : A.tmps[53]?.getD undef = us 32 := by rw [hA]; kernel_rfl
      rw [e32] at ev53
      refine flow_value (.bool true) (by rw [hA]; kernel_rfl) ?_ rfl hK
      clear hA hd hK
      go_simp
    · intro us w' A hA hC hd K hK
      have e33 : us 33 = .bool true := hd 33 (by kernel_rfl)
      have gv : A.tmps[54]? = some (us 33) := by rw [hA]; kernel_rfl
      rw [e33] at gv
      have evp : A.tmps[8]?.getD undef = .pointer (some ⟨(bk2 + 1), 0, none⟩) := by rw [hA]; kernel_rfl
      refine flow_value (.slice (some ⟨(bk2 + 1), 0, none⟩) 32 32) (by rw [guard_known 33 true true 54 rfl rfl gv]; rfl) ?_ rfl hK
      clear hA hd hK gv
      go_simp
    · intro us w' A hA hC hd K hK
      have e33 : us 33 = .bool true := hd 33 (by kernel_rfl)
      have gv : A.tmps[54]? = some (us 33) := by rw [hA]; kernel_rfl
      rw [e33] at gv
      have evp : A.tmps[3]?.getD undef = .pointer (some ⟨(w.heap.size + 1), 0, none⟩) := by rw [hA]; kernel_rfl
      refine flow_value (.slice (some ⟨(w.heap.size + 1), 0, none⟩) 16 16) (by rw [guard_known 33 true true 54 rfl rfl gv]; rfl) ?_ rfl hK
      clear hA hd hK gv
      go_simp
    · intro us w' A hA hC hd K hK
      have e35 : us 35 = .slice (some ⟨(w.heap.size + 1), 0, none⟩) 16 16 := hd 35 (by kernel_rfl)
      have e33 : us 33 = .bool true := hd 33 (by kernel_rfl)
      have gv : A.tmps[54]? = some (us 33) := by rw [hA]; kernel_rfl
      rw [e33] at gv
      refine flow_call 16 #[us 35, .string ({ data := #[112, 114, 111, 116, 101, 99, 116] } : ByteArray), .int .i64 32] (by rw [guard_known 33 true true 54 rfl rfl gv]; rfl) (fun _ => by rw [hA]; kernel_rfl) ?_ hK
      rw [e35]
      exact (DM2.out w' hC).mono fun e w2 ⟨v, he, ho, hb⟩ => ⟨v, he, ho.mono hC.size, hb⟩
    · intro us w' A hA hC hd K hK
      have e34 : us 34 = .slice (some ⟨(bk2 + 1), 0, none⟩) 32 32 := hd 34 (by kernel_rfl)
      have o36 : Own w' W5.heap.size (us 36) (keyM K2) := hd 36 (by kernel_rfl)
      obtain ⟨A36, q36, c36, e36, hc36, hm36, m36, x36⟩ := o36.form
      have e33 : us 33 = .bool true := hd 33 (by kernel_rfl)
      have gv : A.tmps[54]? = some (us 33) := by rw [hA]; kernel_rfl
      rw [e33] at gv
      refine flow_call 10 #[us 34, us 36] (by rw [guard_known 33 true true 54 rfl rfl gv]; rfl) (fun _ => by rw [hA]; kernel_rfl) ?_ hK
      rw [e34, e36]
      exact calls_known (same_b w' (bk2 + 1) q36 (some ⟨(bk2 + 1), 0, none⟩) A36 _ _ 32 c36 (keyM K2) (keyM_len _).symm rfl (by rw [keyM_len]; omega) (MM2.out.below0 hC) m36)
    · intro us w' A hA hC hd K hK
      have e33 : us 33 = .bool true := hd 33 (by kernel_rfl)
      have e37 : us 37 = .bool true := hd 37 (by kernel_rfl)
      have ev54 : A.tmps[54]?.getD undef = us 33 := by rw [hA]; kernel_rfl
      rw [e33] at ev54
      have ev58 : A.tmps[58]?.getD undef = us 37 := by rw [hA]; kernel_rfl
      rw [e37] at ev58
      refine flow_value (.bool true) (by rw [hA]; kernel_rfl) ?_ rfl hK
      clear hA hd hK
      go_simp
  · intro us w' A hA hC hd
    subst hA
    have e0 : us 0 = .slice (some ⟨bk1, 0, none⟩) 16 16 := hd 0 (by omega)
    have e1 : us 1 = .slice (some ⟨w.heap.size, 0, none⟩) 16 16 := hd 1 (by omega)
    have o2 : Own w' W5.heap.size (us 2) (keyE K1) := hd 2 (by omega)
    obtain ⟨A2, q2, c2, e2, hc2, hm2, m2, x2⟩ := o2.form
    have e3 : us 3 = .bool true := hd 3 (by omega)
    have e4 : us 4 = .bool true := hd 4 (by omega)
    have e5 : us 5 = .slice (some ⟨(bk1 + 1), 0, none⟩) 32 32 := hd 5 (by omega)
    have e6 : us 6 = .slice (some ⟨w.heap.size, 0, none⟩) 16 16 := hd 6 (by omega)
    have o7 : Own w' W5.heap.size (us 7) (keyM K1) := hd 7 (by omega)
    obtain ⟨A7, q7, c7, e7, hc7, hm7, m7, x7⟩ := o7.form
    have e8 : us 8 = .bool true := hd 8 (by omega)
    have e9 : us 9 = .bool true := hd 9 (by omega)
    have e10 : us 10 = .bool true := hd 10 (by omega)
    have e11 : us 11 = .agg (bA 16 (ofL K1)) := hd 11 (by omega)
    have e12 : us 12 = .agg (bA 16 (ofL K2)) := hd 12 (by omega)
    have e13 : us 13 = .bool true := hd 13 (by omega)
    have e14 : us 14 = .bool true := hd 14 (by omega)
    have e15 : us 15 = undef := hd 15 (by omega)
    have e16 : us 16 = undef := hd 16 (by omega)
    have e17 : us 17 = undef := hd 17 (by omega)
    have e18 : us 18 = undef := hd 18 (by omega)
    have e19 : us 19 = undef := hd 19 (by omega)
    have e20 : us 20 = undef := hd 20 (by omega)
    have e21 : us 21 = undef := hd 21 (by omega)
    have e22 : us 22 = undef := hd 22 (by omega)
    have e23 : us 23 = .bool true := hd 23 (by omega)
    have e24 : us 24 = .bool true := hd 24 (by omega)
    have e25 : us 25 = .bool true := hd 25 (by omega)
    have e26 : us 26 = .agg (bA 16 (ofL (keyE K2))) := hd 26 (by omega)
    have e27 : us 27 = .slice (some ⟨(w.heap.size + 1), 0, none⟩) 16 16 := hd 27 (by omega)
    have o28 : Own w' W5.heap.size (us 28) (keyE K2) := hd 28 (by omega)
    obtain ⟨A28, q28, c28, e28, hc28, hm28, m28, x28⟩ := o28.form
    obtain ⟨qq29, e29, rr29, lt29⟩ := hd 29 (by omega)
    have e30 : us 30 = .agg (bA 16 (ofL (keyE K2))) := hd 30 (by omega)
    have e31 : us 31 = .bool true := hd 31 (by omega)
    have e32 : us 32 = .bool true := hd 32 (by omega)
    have e33 : us 33 = .bool true := hd 33 (by omega)
    have e34 : us 34 = .slice (some ⟨(bk2 + 1), 0, none⟩) 32 32 := hd 34 (by omega)
    have e35 : us 35 = .slice (some ⟨(w.heap.size + 1), 0, none⟩) 16 16 := hd 35 (by omega)
    have o36 : Own w' W5.heap.size (us 36) (keyM K2) := hd 36 (by omega)
    obtain ⟨A36, q36, c36, e36, hc36, hm36, m36, x36⟩ := o36.form
    have e37 : us 37 = .bool true := hd 37 (by omega)
    have e38 : us 38 = .bool true := hd 38 (by omega)
    simp only [List.take_succ_cons, List.take_zero, List.drop_succ_cons, List.drop_zero, fillAct, Act.put, Nat.zero_add, Nat.reduceAdd, List.setIfInBounds_toArray, List.set_cons_zero, List.set_cons_succ, e0, e1, e2, e3, e4, e5, e6, e7, e8, e9, e10, e11, e12, e13, e14, e15, e16, e17, e18, e19, e20, e21, e22, e23, e24, e25, e26, e27, e28, e29, e30, e31, e32, e33, e34, e35, e36, e37, e38]
    clear hd 
    have hW := HW.out.trans (hC.mono HW.out.size)
    go_wp2
    go_ret
    exact ⟨rfl, hW⟩
theorem walk_any (w : World) (K1 K2 : List UInt8) (hKA : KAt w) (h1 : K1.length = 16) (h2 : K2.length = 16) : Calls Tryd.prog 6 #[.agg (bA 16 (ofL K1)), .agg (bA 16 (ofL K2))] w fun e w' => e = .returned (.bool true) ∧ Below w.heap.size w w' := by
  by_cases h : K1 = K2
  · exact walk_same w K1 K2 hKA h1 h2 h
  · exact walk_not w K1 K2 hKA h1 h2 h
set_option maxRecDepth 100000 in
theorem lifted (os : Os) (started : os.Started) (H : Type) (enc : TypeId × Value → H) :
    ReturnsInHanded {} Tryd.checked os 6 .any (fun w args => (Rows.sealKeysSpec.pre enc Tryd.prog Tryd.f6 [] false w args ∧ laidMetH Tryd.prog laidL w) ∧ sizedMet enc Tryd.prog Tryd.f6 (OpenSpec.ofChange Rows.sealKeysSpec) false w args)
      (Rows.sealKeysSpec.post enc Tryd.prog Tryd.f6 false true false false) := by
  refine returnsInHanded_of_change_and (C := Tryd.checked) (X := fun w _ => laidMetH Tryd.prog laidL w) (fun _ _ _ hh h => h.of_heap hh) own_knob started (by kernel_rfl) Tryd.func6
    (ChangeSpec.witness_at (enc := enc) (C := Tryd.checked) (os := os) (X := fun w _ => laidMetH Tryd.prog laidL w) false (laidWorld os) #[.agg #[.int .u8 0, .int .u8 0, .int .u8 0, .int .u8 0, .int .u8 0, .int .u8 0, .int .u8 0, .int .u8 0, .int .u8 0, .int .u8 0, .int .u8 0, .int .u8 0, .int .u8 0, .int .u8 0, .int .u8 0, .int .u8 0], .agg #[.int .u8 0, .int .u8 0, .int .u8 0, .int .u8 0, .int .u8 0, .int .u8 0, .int .u8 0, .int .u8 0, .int .u8 0, .int .u8 0, .int .u8 0, .int .u8 0, .int .u8 0, .int .u8 0, .int .u8 0, .int .u8 0]] 8 rfl (by kernel_rfl) (by kernel_rfl) (by kernel_rfl) (by kernel_rfl) (by kernel_rfl) (laidWorld_met os _)) ?_
  intro W base args ds gs before hval0 hW _ _ hL _
  have hval : ∀ (j : Nat) t v, Tryd.f6.params[j]? = some t → args[j]? = some v → Value.okWide Tryd.prog W .any base t v := hval0
  have hW' := hW
  obtain ⟨p, q, hA0, hV, rfl, hfz, hnd⟩ := hW
  have hA : DataW.TrodAll enc Tryd.prog W 0 (fun _ => true) true Tryd.f6.params.toList args.toList ds p := hA0
  rw [Tryd.params6] at hA hval
  obtain ⟨v0, v1, d0, d1, p0, p1, rfl, rfl, rfl, h0, h1⟩ := trodAll_two hA
  obtain ⟨rfl, rfl⟩ := trodVars_none hV
  have hvl0 := hval 0 22 v0 rfl rfl
  have hvl1 := hval 1 22 v1 rfl rfl
  obtain ⟨f0, hv0, hw0⟩ := open_arrInt _ _ 16 Tryd.underlying22 .u8 Tryd.underlying5 (by kernel_rfl) (by kernel_rfl) hvl0 h0
  obtain ⟨key, hb0⟩ := bytes_of_arr 16 f0 hw0
  rw [hb0, bA_lst] at hv0
  subst hv0
  obtain ⟨f1, hv1, hw1⟩ := open_arrInt _ _ 16 Tryd.underlying22 .u8 Tryd.underlying5 (by kernel_rfl) (by kernel_rfl) hvl1 h1
  obtain ⟨other, hb1⟩ := bytes_of_arr 16 f1 hw1
  rw [hb1, bA_lst] at hv1
  subst hv1
  clear hA0 hval0
  refine (walk_any W (lst 16 key) (lst 16 other) (ka_of_laid hL) (lst_len _ _) (lst_len _ _)).mono fun e W' ⟨he, bel⟩ => ?_
  subst he
  exact ⟨_, rfl, _, _, _, [], _, [], hW', trodAll_mk1 (shut_bool Tryd.underlying4 _), trodAll_mk2 (keep_arg (by kernel_rfl) (of_decide_eq_true (by kernel_rfl)) h0 bel) (keep_arg (by kernel_rfl) (of_decide_eq_true (by kernel_rfl)) h1 bel), rfl, bel.frame _, fun h => by cases h⟩

theorem over : Rows.sealKeysRow.holds Tryd.pinned (OpenSpec.ofChange Rows.sealKeysSpec) :=
  OpenClaim.holds_of_wide 6 Tryd.f6 rfl rfl rfl rfl rfl rfl rfl ⟨rfl, rfl, rfl, rfl, rfl⟩ rfl rfl rfl rfl rfl (by kernel_rfl) Tryd.func6 (by kernel_rfl)
    (of_decide_eq_true (by kernel_rfl)) (by unfold Func.isWrapper; first | (rw [if_pos (by decide +kernel)]; kernel_rfl) | (rw [if_neg (by decide +kernel)]; exact ⟨rfl, rfl⟩))
    (fun os started H enc _ => lifted os started H enc)

/-- The statement: the tied card. -/
theorem proved : Rows.SealKeysCardSaid :=
  Claim7.holds_tied_plain_at .later [] _ true _ _ over (fun _ h => by cases h) (by kernel_rfl) (fun _ h => by cases h) sealKeys_row_tie rfl ⟨rfl, rfl⟩ (by kernel_rfl) rfl
    (fun f fn hf hfn => by
      obtain rfl : f = 6 := Option.some.inj ((show Tryd.prog.funcNamed "toll/tolllaw09.SealKeys" = some 6 by kernel_rfl).symm.trans hf) |>.symm
      obtain rfl : fn = Tryd.f6 := (Option.some.inj (Tryd.func6.symm.trans hfn)).symm
      exact ⟨by kernel_rfl, fun j t ht => by
        rw [Tryd.params6] at ht
        have hm : t ∈ [22, 22] := by simpa using Array.mem_of_getElem? ht
        have hall : ([22, 22].all fun u => !Tryd.prog.wantsStandIn u) = true := by kernel_rfl
        exact (show Tryd.prog.wantsStandIn t = false by simpa using List.all_eq_true.1 hall t hm)⟩)
    (by kernel_rfl)
#print axioms proved
end Go.Proofs.YtcjbplgjjhenkaaDoor.sealKeys
