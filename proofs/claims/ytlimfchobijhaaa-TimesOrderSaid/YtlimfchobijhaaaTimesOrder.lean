/-
  Sums keep the order of numbers, and distances are not negative and do not depend on the order: the law TimesOrder returns true for every input. No condition.
-/
import Derived.Test.YtlimfchobijhaaaTOpen
namespace Go.Proofs.Ytlimfchobijhaaa.timesOrder
open Go.ChangeShapes Go.WideShapes Go.ChangeAt Go.RowKit
set_option linter.unusedVariables false

theorem sAdd_mono {a b : Int} (c : Int) (h : a ≤ b) : sAdd a c ≤ sAdd b c := by unfold sAdd clamp; omega
theorem sSub_mono {a b : Int} (c : Int) (h : a ≤ b) : sSub a c ≤ sSub b c := by unfold sSub clamp; omega
theorem sAdd_up {a c : Int} (ha : Fits a) (h : 0 ≤ c) : a ≤ sAdd a c := by unfold Fits at ha; unfold sAdd clamp; omega
theorem sSub_down {a c : Int} (ha : Fits a) (h : 0 ≤ c) : sSub a c ≤ a := by unfold Fits at ha; unfold sSub clamp; omega
theorem sApart_pos (a b : Int) : 0 ≤ sApart a b := by unfold sApart sSub clamp; omega
theorem sApart_comm (a b : Int) : sApart b a = sApart a b := by
  unfold sApart
  by_cases h : a < b
  · rw [if_pos h, if_neg (by omega)]
  · by_cases h' : b < a
    · rw [if_pos h', if_neg h]
    · obtain rfl : a = b := by omega
      rfl
theorem sApart_zero (a b : Int) : sApart a b = 0 ↔ a = b := by unfold sApart sSub clamp; omega
theorem order_zero (a b : Int) : ((sApart a b == 0) == (a == b)) = true := by
  have h := sApart_zero a b
  have e : (sApart a b == 0) = (a == b) := by rw [Bool.eq_iff_iff, beq_iff_eq, beq_iff_eq]; exact h
  rw [e]
  exact beq_self_eq_true _
theorem ret_bool {a b : Bool} (h : a = b) : Ending.returned (.bool a) = .returned (.bool b) := by rw [h]

set_option maxHeartbeats 2000000 in
theorem walk (w : World) (a b c : Int) (ha : Fits a) (hb : Fits b) (hc : Fits c) :
    Calls Try.prog 5 #[.int .i64 a, .int .i64 b, .int .i64 c] w fun e w' => e = .returned (.bool true) ∧ Below w.heap.size w w' := by
  have p1 := sApart_pos a b
  have P2 := Lib.hid (order_zero a b)
  have C := Lib.hid (sApart_comm a b)
  by_cases hab : a ≤ b
  · have m1 := sAdd_mono c hab
    have m2 := sSub_mono c hab
    by_cases hc0 : 0 ≤ c
    · have u1 := sAdd_up ha hc0
      have u2 := sSub_down ha hc0
      go_enter Try.func5, Try.ntmps5
      go_wp2_with fail
      refine (awake_any _).mono ?_
      rintro e w1 ⟨rfl, b1⟩
      go_wp2_with fail
      have b2 := b1.alloc b1.size (.cells #[.int .i64 c] 2)
      refine (add_one a c _ _ _ (mem_new _ _ _ (by simp)) ha hc).mono ?_
      rintro e w2 ⟨rfl, rfl⟩
      go_wp2_with fail
      have b3 := b2.alloc b2.size (.cells #[.int .i64 c] 2)
      refine (add_one b c _ _ _ (mem_new _ _ _ (by simp)) hb hc).mono ?_
      rintro e w2 ⟨rfl, rfl⟩
      go_wp2_with fail
      refine (sub_any a c _ ha hc).mono ?_
      rintro e w2 ⟨rfl, rfl⟩
      go_wp2_with fail
      refine (sub_any b c _ hb hc).mono ?_
      rintro e w2 ⟨rfl, rfl⟩
      go_wp2_with fail
      have b4 := b3.alloc b3.size (.cells #[.int .i64 c] 2)
      refine (add_one a c _ _ _ (mem_new _ _ _ (by simp)) ha hc).mono ?_
      rintro e w2 ⟨rfl, rfl⟩
      go_wp2_with fail
      refine (sub_any a c _ ha hc).mono ?_
      rintro e w2 ⟨rfl, rfl⟩
      go_wp2_with fail
      refine (apart_any a b _ ha hb).mono ?_
      rintro e w3 ⟨rfl, rfl⟩
      go_wp2_with fail
      refine (apart_any b a _ hb ha).mono ?_
      rw [C.out]
      rintro e w3 ⟨rfl, rfl⟩
      go_wp2_with fail
      go_ret
      exact ⟨ret_bool P2.out, b4⟩
    · have hc0' : c < 0 := by omega
      clear hc0
      go_enter Try.func5, Try.ntmps5
      go_wp2_with fail
      refine (awake_any _).mono ?_
      rintro e w1 ⟨rfl, b1⟩
      go_wp2_with fail
      have b2 := b1.alloc b1.size (.cells #[.int .i64 c] 2)
      refine (add_one a c _ _ _ (mem_new _ _ _ (by simp)) ha hc).mono ?_
      rintro e w2 ⟨rfl, rfl⟩
      go_wp2_with fail
      have b3 := b2.alloc b2.size (.cells #[.int .i64 c] 2)
      refine (add_one b c _ _ _ (mem_new _ _ _ (by simp)) hb hc).mono ?_
      rintro e w2 ⟨rfl, rfl⟩
      go_wp2_with fail
      refine (sub_any a c _ ha hc).mono ?_
      rintro e w2 ⟨rfl, rfl⟩
      go_wp2_with fail
      refine (sub_any b c _ hb hc).mono ?_
      rintro e w2 ⟨rfl, rfl⟩
      go_wp2_with fail
      refine (apart_any a b _ ha hb).mono ?_
      rintro e w3 ⟨rfl, rfl⟩
      go_wp2_with fail
      refine (apart_any b a _ hb ha).mono ?_
      rw [C.out]
      rintro e w3 ⟨rfl, rfl⟩
      go_wp2_with fail
      go_ret
      exact ⟨ret_bool P2.out, b3⟩
  · have hab' : b < a := by omega
    clear hab
    by_cases hc0 : 0 ≤ c
    · have u1 := sAdd_up ha hc0
      have u2 := sSub_down ha hc0
      go_enter Try.func5, Try.ntmps5
      go_wp2_with fail
      refine (awake_any _).mono ?_
      rintro e w1 ⟨rfl, b1⟩
      go_wp2_with fail
      have b4 := b1.alloc b1.size (.cells #[.int .i64 c] 2)
      refine (add_one a c _ _ _ (mem_new _ _ _ (by simp)) ha hc).mono ?_
      rintro e w2 ⟨rfl, rfl⟩
      go_wp2_with fail
      refine (sub_any a c _ ha hc).mono ?_
      rintro e w2 ⟨rfl, rfl⟩
      go_wp2_with fail
      refine (apart_any a b _ ha hb).mono ?_
      rintro e w3 ⟨rfl, rfl⟩
      go_wp2_with fail
      refine (apart_any b a _ hb ha).mono ?_
      rw [C.out]
      rintro e w3 ⟨rfl, rfl⟩
      go_wp2_with fail
      go_ret
      exact ⟨ret_bool P2.out, b4⟩
    · have hc0' : c < 0 := by omega
      clear hc0
      go_enter Try.func5, Try.ntmps5
      go_wp2_with fail
      refine (awake_any _).mono ?_
      rintro e w1 ⟨rfl, b1⟩
      go_wp2_with fail
      refine (apart_any a b _ ha hb).mono ?_
      rintro e w3 ⟨rfl, rfl⟩
      go_wp2_with fail
      refine (apart_any b a _ hb ha).mono ?_
      rw [C.out]
      rintro e w3 ⟨rfl, rfl⟩
      go_wp2_with fail
      go_ret
      exact ⟨ret_bool P2.out, b1⟩

set_option maxRecDepth 100000 in
theorem lifted (os : Os) (started : os.Started) (H : Type) (enc : TypeId × Value → H) :
    ReturnsInHanded {} Try.checked os 5 .any (Rows.timesOrderSpec.pre6 enc Try.prog Try.f5 Rows.timesOrderRow.domain false) (Rows.timesOrderSpec.post enc Try.prog Try.f5 false true false false) := by
  refine returnsInHanded_of_change (C := Try.checked) own_knob started (by kernel_rfl) Try.func5
    (ChangeSpec.witness6 (enc := enc) (C := Try.checked) false ⟨#[], #[.int .i64 0, .int .i64 0, .int .i64 0], []⟩ 8 (by kernel_rfl) (by kernel_rfl) (by kernel_rfl) (by kernel_rfl)) ?_
  intro W base args ds gs before hval0 hW hcnd _
  have hval : ∀ (j : Nat) t v, Try.f5.params[j]? = some t → args[j]? = some v → Value.okWide Try.prog W .any base t v := hval0
  have hW' := hW
  obtain ⟨p, q, hA0, hV, rfl, hfz, hnd⟩ := hW
  have hA : DataW.TrodAll enc Try.prog W 0 (fun _ => true) true Try.f5.params.toList args.toList ds p := hA0
  rw [Try.params5] at hA hval
  obtain ⟨v0, v1, v2, d0, d1, d2, p0, p1, p2, rfl, rfl, rfl, h0, h1, h2⟩ := trodAll_three hA
  obtain ⟨rfl, rfl⟩ := trodVars_none hV
  have hvl0 := hval 0 2 v0 rfl rfl
  have hvl1 := hval 1 2 v1 rfl rfl
  have hvl2 := hval 2 2 v2 rfl rfl
  obtain ⟨a, rfl, rfl, rfl, w0⟩ := open_int Try.underlying2 (hval 0 2 v0 rfl rfl) h0
  have f0 := fits_lit w0
  obtain ⟨b, rfl, rfl, rfl, w1⟩ := open_int Try.underlying2 (hval 1 2 v1 rfl rfl) h1
  have f1 := fits_lit w1
  obtain ⟨c, rfl, rfl, rfl, w2⟩ := open_int Try.underlying2 (hval 2 2 v2 rfl rfl) h2
  have f2 := fits_lit w2
  clear hA0 hval0
  refine (walk W a b c f0 f1 f2).mono fun e W' ⟨he, bel⟩ => ?_
  subst he
  exact ⟨_, rfl, _, _, _, [], _, [], hW', trodAll_mk1 (shut_bool Try.underlying4 _), trodAll_mk3 (shut_int Try.underlying2 w0) (shut_int Try.underlying2 w1) (shut_int Try.underlying2 w2), rfl, bel.frame _, fun h => by cases h⟩

theorem over : Rows.timesOrderRow.holds Try.pinned (OpenSpec.ofChange Rows.timesOrderSpec) :=
  OpenClaim.holds_of_wide 5 Try.f5 rfl rfl rfl rfl rfl rfl rfl ⟨rfl, rfl, rfl, rfl, rfl⟩ rfl rfl rfl rfl rfl (by kernel_rfl) Try.func5 (by kernel_rfl)
    (of_decide_eq_true (by kernel_rfl)) (by unfold Func.isWrapper; first | (rw [if_pos (by decide +kernel)]; kernel_rfl) | (rw [if_neg (by decide +kernel)]; exact ⟨rfl, rfl⟩))
    (fun os started H enc _ => lifted os started H enc)

/-- The statement. -/
theorem proved : Rows.TimesOrderSaid := over
#print axioms proved
end Go.Proofs.Ytlimfchobijhaaa.timesOrder
