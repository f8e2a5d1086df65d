/-
  The result does not depend on how the bytes are divided among calls of Next: the second form of the law CtrParts (arguments of at most 1048576 values together). No other condition.
-/
import Derived.Test.YtnfgmgkdkfeekaaPm36
import Derived.Test.YtnfgmgkdkfeekaaPm38
import Derived.Test.YtnfgmgkdkfeekaaPm39
import Derived.JoinedCond
namespace Go.Proofs.Ytnfgmgkdkfeekaa.ctrParts
open Go.ChangeShapes Go.WideShapes Go.ChangeAt Go.RowKit
set_option linter.unusedVariables false
set_option linter.unusedSimpArgs false

set_option maxHeartbeats 4000000 in
set_option maxRecDepth 100000 in
theorem walk_long (w : World) (key nonce : Nat → UInt8) (c : Nat) (A : Option Addr) (L : List (List UInt8)) (h : 20 < L.length) :
    Calls Try.prog 5 #[.agg (bA 16 key), .agg (bA 8 nonce), .slice A L.length c] w fun e w' => e = .returned (.bool true) ∧ Below w.heap.size w w' := by
  have hd : decide ((20 : Int) < (L.length : Int)) = true := by rw [decide_eq_true_eq]; omega
  go_enter Try.func5, Try.ntmps5
  go_upto_region 1 with (fail)
  go_name_world W0 hW0
  have n0 := Blk.new w 22 (bA 16 key)
  have n1 := Blk.new (w.alloc (.cells (bA 16 key) 22)) 23 (bA 8 nonce)
  simp only [World.size_alloc] at n1
  have H0 := kept (show Blk W0 w.heap.size 22 (bA 16 key) by rw [← hW0]; exact (n0.alloc _))
  have H1 := kept (show Blk W0 (w.heap.size + 1) 23 (bA 8 nonce) by rw [← hW0]; exact n1)
  have HW := kept (show Below w.heap.size w W0 by rw [← hW0]; exact ((Below.refl w.heap.size w).alloc (Nat.le_refl _) (.cells (bA 16 key) 22)).alloc (by simp) (.cells (bA 8 nonce) 23))
  clear hW0 n0 n1
  go_wp2_with fail
  refine (cawake_any W0).mono ?_
  rintro e W1 ⟨rfl, k⟩
  replace H0 := kept (H0.out.below k H0.out.lt)
  replace H1 := kept (H1.out.below k H1.out.lt)
  replace HW := kept (below_next HW.out k)
  clear k
  go_wp2_with fail
  refine (cawake_any W1).mono ?_
  rintro e W2 ⟨rfl, k⟩
  replace H0 := kept (H0.out.below k H0.out.lt)
  replace H1 := kept (H1.out.below k H1.out.lt)
  replace HW := kept (below_next HW.out k)
  clear k
  go_wp2_with fail
  go_ret
  exact ⟨rfl, HW.out⟩
set_option maxHeartbeats 4000000 in
set_option maxRecDepth 100000 in
theorem walk_big (w : World) (key nonce : Nat → UInt8) (q c : Nat) (A : Option Addr) (L : List (List UInt8)) (hm : MemM w q A L) (h20 : L.length ≤ 20) (hs : 1000 < (L.map List.length).sum) (hs2 : (L.map List.length).sum ≤ 1048576) :
    Calls Try.prog 5 #[.agg (bA 16 key), .agg (bA 8 nonce), .slice A L.length c] w fun e w' => e = .returned (.bool true) ∧ Below w.heap.size w w' := by
  have hd : decide ((20 : Int) < (L.length : Int)) = false := by rw [decide_eq_false_iff_not]; omega
  have MM0 := kept hm
  clear hm
  go_enter Try.func5, Try.ntmps5
  go_upto_region 1 with (fail)
  go_name_world W0 hW0
  have n0 := Blk.new w 22 (bA 16 key)
  have n1 := Blk.new (w.alloc (.cells (bA 16 key) 22)) 23 (bA 8 nonce)
  simp only [World.size_alloc] at n1
  have H0 := kept (show Blk W0 w.heap.size 22 (bA 16 key) by rw [← hW0]; exact (n0.alloc _))
  have H1 := kept (show Blk W0 (w.heap.size + 1) 23 (bA 8 nonce) by rw [← hW0]; exact n1)
  have HW := kept (show Below w.heap.size w W0 by rw [← hW0]; exact ((Below.refl w.heap.size w).alloc (Nat.le_refl _) (.cells (bA 16 key) 22)).alloc (by simp) (.cells (bA 8 nonce) 23))
  clear hW0 n0 n1
  go_wp2_with fail
  refine (cawake_any W0).mono ?_
  rintro e W1 ⟨rfl, k⟩
  replace H0 := kept (H0.out.below k H0.out.lt)
  replace H1 := kept (H1.out.below k H1.out.lt)
  replace HW := kept (below_next HW.out k)
  clear k
  go_wp2_with fail
  refine (rejoin_any W1 q A L.length c L rfl (MM0.out.below0 HW.out) (by omega) (by omega)).mono ?_
  rintro e W2 ⟨v2, rfl, o2, k⟩
  replace HW := kept (below_next HW.out k)
  clear k H0 H1
  obtain ⟨A2, q2, c2, hv2, hc2, hcm2, mo2, x2, y2⟩ := o2.form
  subst hv2
  have hN := flatten_len L
  generalize L.flatten.length = N at *
  have hd2 : decide ((1000 : Int) < (N : Int)) = true := by rw [decide_eq_true_eq]; omega
  clear o2 mo2 x2 y2 hc2 hcm2 hN
  go_wp2_with fail
  go_ret
  exact ⟨rfl, HW.out⟩
theorem walk (w : World) (key nonce : Nat → UInt8) (q c : Nat) (A : Option Addr) (L : List (List UInt8)) (hm : MemM w q A L) (hs2 : (L.map List.length).sum ≤ 1048576) :
    Calls Try.prog 5 #[.agg (bA 16 key), .agg (bA 8 nonce), .slice A L.length c] w fun e w' => e = .returned (.bool true) ∧ Below w.heap.size w w' := by
  by_cases h : 20 < L.length
  · exact walk_long w key nonce c A L h
  · by_cases h2 : 1000 < (L.map List.length).sum
    · exact walk_big w key nonce q c A L hm (by omega) h2 hs2
    · exact walk_in w key nonce q c A L hm (by omega) (by omega)

set_option maxRecDepth 100000 in
theorem lifted (os : Os) (started : os.Started) (H : Type) (enc : TypeId × Value → H) (F : Stop.Interp) :
    ReturnsInHanded {} Try.checked os 5 .any ((Rows.OpenSpec.upto Rows.ctrPartsSpec).pre6 enc Try.prog Try.f5 Rows.ctrPartsUptoRow.domain false) (((Rows.OpenSpec.upto Rows.ctrPartsSpec).at F).post enc Try.prog Try.f5 false true false false) := by
  refine returnsInHanded_of_cond (C := Try.checked) (s := Rows.OpenSpec.upto Rows.ctrPartsSpec) (k := Rows.uptoSmall) rfl own_knob started (by kernel_rfl) Try.func5
    (OpenSpec.witness (enc := enc) (C := Try.checked) (s := Rows.OpenSpec.upto Rows.ctrPartsSpec) (k := Rows.uptoSmall) rfl false ⟨#[], #[.agg #[.int .u8 0, .int .u8 0, .int .u8 0, .int .u8 0, .int .u8 0, .int .u8 0, .int .u8 0, .int .u8 0, .int .u8 0, .int .u8 0, .int .u8 0, .int .u8 0, .int .u8 0, .int .u8 0, .int .u8 0, .int .u8 0], .agg #[.int .u8 0, .int .u8 0, .int .u8 0, .int .u8 0, .int .u8 0, .int .u8 0, .int .u8 0, .int .u8 0], .slice none 0 0], []⟩ 8 (by kernel_rfl) (by kernel_rfl) (by kernel_rfl)
      (x := ([.agg [.lit (.int .u8 0), .lit (.int .u8 0), .lit (.int .u8 0), .lit (.int .u8 0), .lit (.int .u8 0), .lit (.int .u8 0), .lit (.int .u8 0), .lit (.int .u8 0), .lit (.int .u8 0), .lit (.int .u8 0), .lit (.int .u8 0), .lit (.int .u8 0), .lit (.int .u8 0), .lit (.int .u8 0), .lit (.int .u8 0), .lit (.int .u8 0)], .agg [.lit (.int .u8 0), .lit (.int .u8 0), .lit (.int .u8 0), .lit (.int .u8 0), .lit (.int .u8 0), .lit (.int .u8 0), .lit (.int .u8 0), .lit (.int .u8 0)], .nil], [], [])) (by kernel_rfl) rfl (by kernel_rfl)) ?_
  intro W base args ds gs before hval0 hW _ hk _
  have hval : ∀ (j : Nat) t v, Try.f5.params[j]? = some t → args[j]? = some v → Value.okWide Try.prog W .any base t v := hval0
  have hb : Rows.uptoBulkAll (ds ++ gs) ≤ 1048576 := of_decide_eq_true hk
  have hW' := hW
  obtain ⟨p, q, hA0, hV, rfl, hfz, hnd⟩ := hW
  have hA : DataW.TrodAll enc Try.prog W 0 (fun _ => true) true Try.f5.params.toList args.toList ds p := hA0
  rw [Try.params5] at hA hval
  obtain ⟨v0, v1, v2, d0, d1, d2, p0, p1, p2, rfl, rfl, rfl, h0, h1, h2⟩ := trodAll_three hA
  obtain ⟨rfl, rfl⟩ := trodVars_none hV
  have hvl0 := hval 0 22 v0 rfl rfl
  have hvl1 := hval 1 23 v1 rfl rfl
  have hvl2 := hval 2 32 v2 rfl rfl
  obtain ⟨f0, hv0, hw0⟩ := open_arrInt _ _ 16 Try.underlying22 .u8 Try.underlying5 (by kernel_rfl) (by kernel_rfl) hvl0 h0
  obtain ⟨key, hb0⟩ := bytes_of_arr 16 f0 hw0
  rw [hb0] at hv0
  subst hv0
  obtain ⟨f1, hv1, hw1⟩ := open_arrInt _ _ 8 Try.underlying23 .u8 Try.underlying5 (by kernel_rfl) (by kernel_rfl) hvl1 h1
  obtain ⟨nonce, hb1⟩ := bytes_of_arr 8 f1 hw1
  rw [hb1] at hv1
  subst hv1
  obtain ⟨A, q, c, L, rfl, hc, hm, hs⟩ := open_rows hvl2 h2
  have hsum : (L.map List.length).sum ≤ 1048576 := by
    simp only [List.append_nil, Rows.uptoBulkAll] at hb
    omega
  clear hA0 hval0
  refine (walk W key nonce q c A L hm hsum).mono fun e W' ⟨he, bel⟩ => ?_
  subst he
  exact ⟨_, rfl, _, _, _, [], _, [], hW', trodAll_mk1 (shut_bool Try.underlying4 _), trodAll_mk3 (keep_arg (by kernel_rfl) (of_decide_eq_true (by kernel_rfl)) h0 bel) (keep_arg (by kernel_rfl) (of_decide_eq_true (by kernel_rfl)) h1 bel) (keep_arg (by kernel_rfl) (of_decide_eq_true (by kernel_rfl)) h2 bel), rfl, bel.frame _, fun h => by cases h⟩

theorem over : Rows.ctrPartsUptoRow.holds Try.pinned (Rows.OpenSpec.upto Rows.ctrPartsSpec) :=
  OpenClaim.holds_of_cond 5 Try.f5 rfl rfl rfl rfl rfl rfl rfl ⟨rfl, rfl, rfl, rfl, rfl⟩ rfl rfl rfl rfl rfl (by kernel_rfl) Try.func5 (by kernel_rfl)
    (of_decide_eq_true (by kernel_rfl)) (by unfold Func.isWrapper; first | (rw [if_pos (by decide +kernel)]; kernel_rfl) | (rw [if_neg (by decide +kernel)]; exact ⟨rfl, rfl⟩))
    (fun os started H enc _ F => lifted os started H enc F)

/-- The statement's second form. -/
theorem proved : Rows.CtrPartsUptoSaid := over
#print axioms proved
end Go.Proofs.Ytnfgmgkdkfeekaa.ctrParts
