/-
  Any part of a stream is that of the reference: the law CtrMatchesReference returns true for every input. No condition.
-/
import Derived.Test.YtnfgmgkdkfeekaaCtrLaw
namespace Go.Proofs.Ytnfgmgkdkfeekaa.ctrMatch
open Go.ChangeShapes Go.WideShapes Go.ChangeAt Go.RowKit
set_option linter.unusedVariables false
set_option linter.unusedSimpArgs false

set_option maxHeartbeats 4000000 in
set_option maxRecDepth 100000 in
theorem walk (w : World) (key nonce : Nat → UInt8) (a m : Int) (ha : -9223372036854775808 ≤ a ∧ a ≤ 9223372036854775807) (hm : -32768 ≤ m ∧ m ≤ 32767) :
    Calls Try.prog 3 #[.agg (bA 16 key), .agg (bA 8 nonce), .int .i64 a, .int .i16 m] w fun e w' => e = .returned (.bool true) ∧ Below w.heap.size w w' := by
  obtain ⟨hm1, hm2⟩ := hm
  have hw : IntKind.i64.wrap m = m := IntWalk.i64_in _ (by omega)
  obtain ⟨k, hk⟩ : ∃ k, m.tmod 500 = k := ⟨_, rfl⟩
  have hk1 : -500 < k ∧ k < 500 := by
    rw [← hk]
    have h1 := Int.tmod_lt_of_pos m (show (0 : Int) < 500 by omega)
    have h2 := Int.lt_tmod_of_pos m (show (0 : Int) < 500 by omega)
    omega
  go_enter Try.func3, Try.ntmps3
  go_upto_region 1 with (fail)
  go_name_world W0 hW0
  have n0 := Blk.new w 22 (bA 16 key)
  have n1 := Blk.new (w.alloc (.cells (bA 16 key) 22)) 23 (bA 8 nonce)
  simp only [World.size_alloc] at n1
  have H0 := kept (show Blk W0 w.heap.size 22 (bA 16 key) by rw [← hW0]; exact (n0.alloc _))
  have H1 := kept (show Blk W0 (w.heap.size + 1) 23 (bA 8 nonce) by rw [← hW0]; exact n1)
  have HW := kept (show Below w.heap.size w W0 by rw [← hW0]; exact ((Below.refl w.heap.size w).alloc (Nat.le_refl _) (.cells (bA 16 key) 22)).alloc (by simp) (.cells (bA 8 nonce) 23))
  clear hW0 n0 n1
  go_wp2_with fail
  refine (cawake_any W0).mono ?_
  rintro e W1 ⟨rfl, k⟩
  replace H0 := kept (H0.out.below k H0.out.lt)
  replace H1 := kept (H1.out.below k H1.out.lt)
  replace HW := kept (below_next HW.out k)
  clear k
  go_upto_region 4 with (fail)
  obtain ⟨L, hL⟩ : ∃ L, sStream (cStr key nonce) a k = L := ⟨_, rfl⟩
  have HSA := kept (fun w' => cstream_any w' key nonce a k ha (by omega))
  have HSB := kept (fun w' => rcstream_any w' key nonce a k)
  have hlen := sStream_len (cStr key nonce) a k
  rw [hL] at HSA HSB hlen
  have HLN := kept hlen
  clear hL hlen hk hk1
  have R0 := kept (show ∀ w', Below W1.heap.size W1 w' → w'.rangeAt w.heap.size 0 (bA 16 key).toList from fun w' h => (H0.out.below h H0.out.lt).range)
  have R1 := kept (show ∀ w', Below W1.heap.size W1 w' → w'.rangeAt (w.heap.size + 1) 0 (bA 8 nonce).toList from fun w' h => (H1.out.below h H1.out.lt).range)
  refine wp_region_flow 11 (fun w' => Below W1.heap.size W1 w') [fun v _ => v = .agg (bA 16 key), fun v _ => v = .agg (bA 8 nonce), fun v _ => v = .int .i64 a, fun v _ => v = .int .i64 k, fun v w' => Own w' W1.heap.size v L, fun v _ => v = .agg (bA 16 key), fun v _ => v = .agg (bA 8 nonce), fun v _ => v = .int .i64 a, fun v _ => v = .int .i64 k, fun v w' => Own w' W1.heap.size v L, fun v _ => v = .bool true] (by kernel_rfl) (by kernel_rfl) rfl (Below.refl _ W1).drew (fun _ _ h k => below_next h k) ?_ ?_ ?_
  · exact stable_cons (stable_eq _) (stable_cons (stable_eq _) (stable_cons (stable_eq _) (stable_cons (stable_eq _) (stable_cons (stable_own _ _) (stable_cons (stable_eq _) (stable_cons (stable_eq _) (stable_cons (stable_eq _) (stable_cons (stable_eq _) (stable_cons (stable_own _ _) (stable_cons (stable_eq _) (stable_nil)))))))))))
  · simp only [List.take_succ_cons, List.take_zero]
    refine OweAll.cons ?_ (OweAll.cons ?_ (OweAll.cons ?_ (OweAll.cons ?_ (OweAll.cons ?_ (OweAll.cons ?_ (OweAll.cons ?_ (OweAll.cons ?_ (OweAll.cons ?_ (OweAll.cons ?_ (OweAll.cons ?_ OweAll.nil))))))))))
    · intro us w' A hA hC hd K hK
      exact flow_load (φ := fun v _ => v = .agg (bA 16 key)) (by rw [hA]; kernel_rfl) 22 (.tmp 4) rfl w.heap.size 0 (by rw [hA]; kernel_rfl) (bA 16 key).toList _ (R0.out w' hC) Try.underlying22 rfl (s16_len _) rfl hK
    · intro us w' A hA hC hd K hK
      exact flow_load (φ := fun v _ => v = .agg (bA 8 nonce)) (by rw [hA]; kernel_rfl) 23 (.tmp 5) rfl (w.heap.size + 1) 0 (by rw [hA]; kernel_rfl) (bA 8 nonce).toList _ (R1.out w' hC) Try.underlying23 rfl (s8_len _) rfl hK
    · intro us w' A hA hC hd K hK
      exact flow_value (.int .i64 a) (by rw [hA]; kernel_rfl) (by rw [hA]; kernel_rfl) rfl hK
    · intro us w' A hA hC hd K hK
      exact flow_value (.int .i64 k) (by rw [hA]; kernel_rfl) (by rw [hA]; kernel_rfl) rfl hK
    · intro us w' A hA hC hd K hK
      have e0 : us 0 = .agg (bA 16 key) := hd 0 (by kernel_rfl)
      have e1 : us 1 = .agg (bA 8 nonce) := hd 1 (by kernel_rfl)
      have e2 : us 2 = .int .i64 a := hd 2 (by kernel_rfl)
      have e3 : us 3 = .int .i64 k := hd 3 (by kernel_rfl)
      refine flow_call 10 #[us 0, us 1, us 2, us 3] (by rw [hA]; kernel_rfl) (fun _ => by rw [hA]; kernel_rfl) ?_ hK
      rw [e0, e1, e2, e3]
      exact (HSA.out w').mono fun e w2 ⟨v, he, ho, hb⟩ => ⟨v, he, ho.mono hC.size, hb⟩
    · intro us w' A hA hC hd K hK
      exact flow_load (φ := fun v _ => v = .agg (bA 16 key)) (by rw [hA]; kernel_rfl) 22 (.tmp 4) rfl w.heap.size 0 (by rw [hA]; kernel_rfl) (bA 16 key).toList _ (R0.out w' hC) Try.underlying22 rfl (s16_len _) rfl hK
    · intro us w' A hA hC hd K hK
      exact flow_load (φ := fun v _ => v = .agg (bA 8 nonce)) (by rw [hA]; kernel_rfl) 23 (.tmp 5) rfl (w.heap.size + 1) 0 (by rw [hA]; kernel_rfl) (bA 8 nonce).toList _ (R1.out w' hC) Try.underlying23 rfl (s8_len _) rfl hK
    · intro us w' A hA hC hd K hK
      exact flow_value (.int .i64 a) (by rw [hA]; kernel_rfl) (by rw [hA]; kernel_rfl) rfl hK
    · intro us w' A hA hC hd K hK
      exact flow_value (.int .i64 k) (by rw [hA]; kernel_rfl) (by rw [hA]; kernel_rfl) rfl hK
    · intro us w' A hA hC hd K hK
      have e5 : us 5 = .agg (bA 16 key) := hd 5 (by kernel_rfl)
      have e6 : us 6 = .agg (bA 8 nonce) := hd 6 (by kernel_rfl)
      have e7 : us 7 = .int .i64 a := hd 7 (by kernel_rfl)
      have e8 : us 8 = .int .i64 k := hd 8 (by kernel_rfl)
      refine flow_call 11 #[us 5, us 6, us 7, us 8] (by rw [hA]; kernel_rfl) (fun _ => by rw [hA]; kernel_rfl) ?_ hK
      rw [e5, e6, e7, e8]
      exact (HSB.out w').mono fun e w2 ⟨v, he, ho, hb⟩ => ⟨v, he, ho.mono hC.size, hb⟩
    · intro us w' A hA hC hd K hK
      have o4 : Own w' W1.heap.size (us 4) L := hd 4 (by kernel_rfl)
      obtain ⟨A4, q4, c4, e4, hc4, hm4, m4, x4⟩ := o4.form
      have o9 : Own w' W1.heap.size (us 9) L := hd 9 (by kernel_rfl)
      obtain ⟨A9, q9, c9, e9, hc9, hm9, m9, x9⟩ := o9.form
      refine flow_call 9 #[us 4, us 9] (by rw [hA]; kernel_rfl) (fun _ => by rw [hA]; kernel_rfl) ?_ hK
      rw [e4, e9]
      exact calls_known (same_b w' q4 q9 A4 A9 _ _ c4 c9 L rfl rfl (by have := HLN.out; omega) m4 m9)
  · intro us w' A hA hC hd
    subst hA
    have e0 : us 0 = .agg (bA 16 key) := hd 0 (by omega)
    have e1 : us 1 = .agg (bA 8 nonce) := hd 1 (by omega)
    have e2 : us 2 = .int .i64 a := hd 2 (by omega)
    have e3 : us 3 = .int .i64 k := hd 3 (by omega)
    have o4 : Own w' W1.heap.size (us 4) L := hd 4 (by omega)
    obtain ⟨A4, q4, c4, e4, hc4, hm4, m4, x4⟩ := o4.form
    have e5 : us 5 = .agg (bA 16 key) := hd 5 (by omega)
    have e6 : us 6 = .agg (bA 8 nonce) := hd 6 (by omega)
    have e7 : us 7 = .int .i64 a := hd 7 (by omega)
    have e8 : us 8 = .int .i64 k := hd 8 (by omega)
    have o9 : Own w' W1.heap.size (us 9) L := hd 9 (by omega)
    obtain ⟨A9, q9, c9, e9, hc9, hm9, m9, x9⟩ := o9.form
    have e10 : us 10 = .bool true := hd 10 (by omega)
    simp only [List.take_succ_cons, List.take_zero, List.drop_succ_cons, List.drop_zero, fillAct, Act.put, Nat.zero_add, Nat.reduceAdd, List.setIfInBounds_toArray, List.set_cons_zero, List.set_cons_succ, e0, e1, e2, e3, e4, e5, e6, e7, e8, e9, e10]
    clear hd R0 R1 HSA HSB
    have hW := HW.out.trans (hC.mono HW.out.size)
    go_wp2
    go_ret
    exact ⟨rfl, hW⟩

set_option maxRecDepth 100000 in
theorem lifted (os : Os) (started : os.Started) (H : Type) (enc : TypeId × Value → H) :
    ReturnsInHanded {} Try.checked os 3 .any (Rows.ctrMatchesReferenceSpec.pre6 enc Try.prog Try.f3 Rows.ctrMatchesReferenceRow.domain false) (Rows.ctrMatchesReferenceSpec.post enc Try.prog Try.f3 false true false false) := by
  refine returnsInHanded_of_change (C := Try.checked) own_knob started (by kernel_rfl) Try.func3
    (ChangeSpec.witness6 (enc := enc) (C := Try.checked) false ⟨#[], #[.agg #[.int .u8 0, .int .u8 0, .int .u8 0, .int .u8 0, .int .u8 0, .int .u8 0, .int .u8 0, .int .u8 0, .int .u8 0, .int .u8 0, .int .u8 0, .int .u8 0, .int .u8 0, .int .u8 0, .int .u8 0, .int .u8 0], .agg #[.int .u8 0, .int .u8 0, .int .u8 0, .int .u8 0, .int .u8 0, .int .u8 0, .int .u8 0, .int .u8 0], .int .i64 0, .int .i16 0], []⟩ 8 (by kernel_rfl) (by kernel_rfl) (by kernel_rfl) (by kernel_rfl)) ?_
  intro W base args ds gs before hval0 hW hcnd _
  have hval : ∀ (j : Nat) t v, Try.f3.params[j]? = some t → args[j]? = some v → Value.okWide Try.prog W .any base t v := hval0
  have hW' := hW
  obtain ⟨p, q, hA0, hV, rfl, hfz, hnd⟩ := hW
  have hA : DataW.TrodAll enc Try.prog W 0 (fun _ => true) true Try.f3.params.toList args.toList ds p := hA0
  rw [Try.params3] at hA hval
  obtain ⟨v0, v1, v2, v3, d0, d1, d2, d3, p0, p1, p2, p3, rfl, rfl, rfl, h0, h1, h2, h3⟩ := trodAll_four hA
  obtain ⟨rfl, rfl⟩ := trodVars_none hV
  have hvl0 := hval 0 22 v0 rfl rfl
  have hvl1 := hval 1 23 v1 rfl rfl
  have hvl2 := hval 2 3 v2 rfl rfl
  have hvl3 := hval 3 24 v3 rfl rfl
  obtain ⟨f0, hv0, hw0⟩ := open_arrInt _ _ 16 Try.underlying22 .u8 Try.underlying5 (by kernel_rfl) (by kernel_rfl) hvl0 h0
  obtain ⟨key, hb0⟩ := bytes_of_arr 16 f0 hw0
  rw [hb0] at hv0
  subst hv0
  obtain ⟨f1, hv1, hw1⟩ := open_arrInt _ _ 8 Try.underlying23 .u8 Try.underlying5 (by kernel_rfl) (by kernel_rfl) hvl1 h1
  obtain ⟨nonce, hb1⟩ := bytes_of_arr 8 f1 hw1
  rw [hb1] at hv1
  subst hv1
  obtain ⟨a, rfl, rfl, rfl, w2⟩ := open_int Try.underlying3 hvl2 h2
  obtain ⟨m, rfl, rfl, rfl, w3⟩ := open_int Try.underlying24 hvl3 h3
  have fa := bounds_i64 w2
  have fm := bounds_i16 w3
  clear hA0 hval0
  refine (walk W key nonce a m (by omega) fm).mono fun e W' ⟨he, bel⟩ => ?_
  subst he
  exact ⟨_, rfl, _, _, _, [], _, [], hW', trodAll_mk1 (shut_bool Try.underlying4 _), trodAll_mk4 (keep_arg (by kernel_rfl) (of_decide_eq_true (by kernel_rfl)) h0 bel) (keep_arg (by kernel_rfl) (of_decide_eq_true (by kernel_rfl)) h1 bel) (shut_int Try.underlying3 w2) (shut_int Try.underlying24 w3), rfl, bel.frame _, fun h => by cases h⟩

theorem over : Rows.ctrMatchesReferenceRow.holds Try.pinned (OpenSpec.ofChange Rows.ctrMatchesReferenceSpec) :=
  OpenClaim.holds_of_wide 3 Try.f3 rfl rfl rfl rfl rfl rfl rfl ⟨rfl, rfl, rfl, rfl, rfl⟩ rfl rfl rfl rfl rfl (by kernel_rfl) Try.func3 (by kernel_rfl)
    (of_decide_eq_true (by kernel_rfl)) (by unfold Func.isWrapper; first | (rw [if_pos (by decide +kernel)]; kernel_rfl) | (rw [if_neg (by decide +kernel)]; exact ⟨rfl, rfl⟩))
    (fun os started H enc _ => lifted os started H enc)

/-- The statement. -/
theorem proved : Rows.CtrMatchesReferenceSaid := over
#print axioms proved
end Go.Proofs.Ytnfgmgkdkfeekaa.ctrMatch
