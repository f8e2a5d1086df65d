/-
  A time in a window is in every window with a greater skew, an earlier start or a later end: the law TimesWide returns true for every input. No condition.
-/
import Derived.Test.YtlimfchobijhaaaTOpen
namespace Go.Proofs.Ytlimfchobijhaaa.timesWide
open Go.ChangeShapes Go.WideShapes Go.ChangeAt Go.RowKit
set_option linter.unusedVariables false

theorem side_zero {t s e k : Int} : sSide t s e k = 0 ↔ sSub s k ≤ t ∧ t ≤ sAdd e k := by unfold sSide; omega
theorem wide_a {t s e k m : Int} (hs : Fits s) (he : Fits e) (hk0 : 0 ≤ k) (hm0 : 0 ≤ m) (hk : Fits k) (h : sSide t s e k = 0) : sSide t s e (sAdd k m) = 0 := by
  rw [side_zero] at h ⊢
  unfold Fits at hs he hk
  unfold sSub sAdd clamp at *
  omega
theorem wide_b {t s e k m : Int} (hs : Fits s) (hk0 : 0 ≤ k) (hm0 : 0 ≤ m) (h : sSide t s e k = 0) : sSide t (sSub s m) e k = 0 := by
  rw [side_zero] at h ⊢
  unfold Fits at hs
  unfold sSub sAdd clamp at *
  omega
theorem wide_c {t s e k m : Int} (he : Fits e) (hk0 : 0 ≤ k) (hm0 : 0 ≤ m) (h : sSide t s e k = 0) : sSide t s (sAdd e m) k = 0 := by
  rw [side_zero] at h ⊢
  unfold Fits at he
  unfold sSub sAdd clamp at *
  omega
theorem walk_out (w : World) (t s e k m : Int) (ht : Fits t) (hs : Fits s) (he : Fits e) (hk : Fits k) (hm : Fits m) (h : k < 0 ∨ m < 0) :
    Calls Try.prog 6 #[.int .i64 t, .int .i64 s, .int .i64 e, .int .i64 k, .int .i64 m] w fun en w' => en = .returned (.bool true) ∧ Below w.heap.size w w' := by
  by_cases c1 : k < 0
  · skip
    go_enter Try.func6, Try.ntmps6
    go_wp2_with fail
    refine (awake_any _).mono ?_
    rintro en w1 ⟨rfl, b1⟩
    go_wp2_with fail
    refine (awake_any _).mono ?_
    rintro en w2 ⟨rfl, b2⟩
    go_wp2_with fail
    go_ret
    exact ⟨rfl, b1.trans (b2.mono b1.size)⟩
  · have d1 : decide (k < 0) = false := by simpa using c1
    have c2 : m < 0 := by omega
    clear c1 h
    go_enter Try.func6, Try.ntmps6
    go_wp2_with fail
    refine (awake_any _).mono ?_
    rintro en w1 ⟨rfl, b1⟩
    go_wp2_with fail
    refine (awake_any _).mono ?_
    rintro en w2 ⟨rfl, b2⟩
    go_wp2_with fail
    go_ret
    exact ⟨rfl, b1.trans (b2.mono b1.size)⟩
set_option maxHeartbeats 1000000 in
theorem walk_no (w : World) (t s e k m : Int) (ht : Fits t) (hs : Fits s) (he : Fits e) (hk : Fits k) (hm : Fits m) (hk0 : 0 ≤ k) (hm0 : 0 ≤ m) (h : sSide t s e k ≠ 0) :
    Calls Try.prog 6 #[.int .i64 t, .int .i64 s, .int .i64 e, .int .i64 k, .int .i64 m] w fun en w' => en = .returned (.bool true) ∧ Below w.heap.size w w' := by
  have h' : decide (sSide t s e k = 0) = false := by simpa using h
  have h2 : (sSide t s e k != 0) = true := by simpa using h
  have H := Lib.hid h
  clear h
  go_enter Try.func6, Try.ntmps6
  go_wp2_with fail
  refine (awake_any _).mono ?_
  rintro en w1 ⟨rfl, b1⟩
  go_wp2_with fail
  refine (side_any t s e k _ hs he hk).mono ?_
  rintro en w2 ⟨rfl, b2⟩
  replace b2 := b1.trans (b2.mono b1.size)
  clear b1
  go_wp2_with fail
  refine (rside_any t s e k _ hs he hk).mono ?_
  rintro en w3 ⟨rfl, rfl⟩
  go_wp2_with fail
  go_ret
  exact ⟨rfl, b2⟩
set_option maxHeartbeats 1000000 in
theorem walk_yes (w : World) (t s e k m : Int) (ht : Fits t) (hs : Fits s) (he : Fits e) (hk : Fits k) (hm : Fits m) (hk0 : 0 ≤ k) (hm0 : 0 ≤ m) (h : sSide t s e k = 0) :
    Calls Try.prog 6 #[.int .i64 t, .int .i64 s, .int .i64 e, .int .i64 k, .int .i64 m] w fun en w' => en = .returned (.bool true) ∧ Below w.heap.size w w' := by
  have H := Lib.hid h
  have Ha := Lib.hid (wide_a hs he hk0 hm0 hk h)
  have Hb := Lib.hid (wide_b (e := e) hs hk0 hm0 h)
  have Hc := Lib.hid (wide_c (s := s) he hk0 hm0 h)
  clear h
  go_enter Try.func6, Try.ntmps6
  go_wp2_with fail
  refine (awake_any _).mono ?_
  rintro en w1 ⟨rfl, b1⟩
  go_wp2_with fail
  refine (side_any t s e k _ hs he hk).mono ?_
  rw [H.out]
  rintro en w2 ⟨rfl, b2⟩
  replace b2 := b1.trans (b2.mono b1.size)
  clear b1
  go_wp2_with fail
  refine (radd_any k m _ hk hm).mono ?_
  rintro en w3 ⟨rfl, rfl⟩
  go_wp2_with fail
  refine (side_any t s e _ _ hs he (sAdd_fits _ _)).mono ?_
  rw [Ha.out]
  rintro en w3 ⟨rfl, b3⟩
  replace b3 := b2.trans (b3.mono b2.size)
  clear b2
  go_wp2_with fail
  refine (rsub_any s m _ hs hm).mono ?_
  rintro en w4 ⟨rfl, rfl⟩
  go_wp2_with fail
  refine (side_any t _ e k _ (sSub_fits _ _) he hk).mono ?_
  rw [Hb.out]
  rintro en w4 ⟨rfl, b4⟩
  replace b4 := b3.trans (b4.mono b3.size)
  clear b3
  go_wp2_with fail
  refine (radd_any e m _ he hm).mono ?_
  rintro en w5 ⟨rfl, rfl⟩
  go_wp2_with fail
  refine (side_any t s _ k _ hs (sAdd_fits _ _) hk).mono ?_
  rw [Hc.out]
  rintro en w5 ⟨rfl, b5⟩
  replace b5 := b4.trans (b5.mono b4.size)
  clear b4
  go_wp2_with fail
  go_ret
  exact ⟨rfl, b5⟩
theorem walk (w : World) (t s e k m : Int) (ht : Fits t) (hs : Fits s) (he : Fits e) (hk : Fits k) (hm : Fits m) :
    Calls Try.prog 6 #[.int .i64 t, .int .i64 s, .int .i64 e, .int .i64 k, .int .i64 m] w fun en w' => en = .returned (.bool true) ∧ Below w.heap.size w w' := by
  by_cases h : k < 0 ∨ m < 0
  · exact walk_out w t s e k m ht hs he hk hm h
  · by_cases h2 : sSide t s e k = 0
    · exact walk_yes w t s e k m ht hs he hk hm (by omega) (by omega) h2
    · exact walk_no w t s e k m ht hs he hk hm (by omega) (by omega) h2

set_option maxRecDepth 100000 in
theorem lifted (os : Os) (started : os.Started) (H : Type) (enc : TypeId × Value → H) :
    ReturnsInHanded {} Try.checked os 6 .any (Rows.timesWideSpec.pre6 enc Try.prog Try.f6 Rows.timesWideRow.domain false) (Rows.timesWideSpec.post enc Try.prog Try.f6 false true false false) := by
  refine returnsInHanded_of_change (C := Try.checked) own_knob started (by kernel_rfl) Try.func6
    (ChangeSpec.witness6 (enc := enc) (C := Try.checked) false ⟨#[], #[.int .i64 0, .int .i64 0, .int .i64 0, .int .i64 0, .int .i64 0], []⟩ 8 (by kernel_rfl) (by kernel_rfl) (by kernel_rfl) (by kernel_rfl)) ?_
  intro W base args ds gs before hval0 hW hcnd _
  have hval : ∀ (j : Nat) t v, Try.f6.params[j]? = some t → args[j]? = some v → Value.okWide Try.prog W .any base t v := hval0
  have hW' := hW
  obtain ⟨p, q, hA0, hV, rfl, hfz, hnd⟩ := hW
  have hA : DataW.TrodAll enc Try.prog W 0 (fun _ => true) true Try.f6.params.toList args.toList ds p := hA0
  rw [Try.params6] at hA hval
  obtain ⟨v0, v1, v2, v3, v4, d0, d1, d2, d3, d4, p0, p1, p2, p3, p4, rfl, rfl, rfl, h0, h1, h2, h3, h4⟩ := trodAll_five hA
  obtain ⟨rfl, rfl⟩ := trodVars_none hV
  have hvl0 := hval 0 2 v0 rfl rfl
  have hvl1 := hval 1 2 v1 rfl rfl
  have hvl2 := hval 2 2 v2 rfl rfl
  have hvl3 := hval 3 2 v3 rfl rfl
  have hvl4 := hval 4 2 v4 rfl rfl
  obtain ⟨t, rfl, rfl, rfl, w0⟩ := open_int Try.underlying2 (hval 0 2 v0 rfl rfl) h0
  have f0 := fits_lit w0
  obtain ⟨s, rfl, rfl, rfl, w1⟩ := open_int Try.underlying2 (hval 1 2 v1 rfl rfl) h1
  have f1 := fits_lit w1
  obtain ⟨e, rfl, rfl, rfl, w2⟩ := open_int Try.underlying2 (hval 2 2 v2 rfl rfl) h2
  have f2 := fits_lit w2
  obtain ⟨k, rfl, rfl, rfl, w3⟩ := open_int Try.underlying2 (hval 3 2 v3 rfl rfl) h3
  have f3 := fits_lit w3
  obtain ⟨m, rfl, rfl, rfl, w4⟩ := open_int Try.underlying2 (hval 4 2 v4 rfl rfl) h4
  have f4 := fits_lit w4
  clear hA0 hval0
  refine (walk W t s e k m f0 f1 f2 f3 f4).mono fun e W' ⟨he, bel⟩ => ?_
  subst he
  exact ⟨_, rfl, _, _, _, [], _, [], hW', trodAll_mk1 (shut_bool Try.underlying4 _), trodAll_mk5 (shut_int Try.underlying2 w0) (shut_int Try.underlying2 w1) (shut_int Try.underlying2 w2) (shut_int Try.underlying2 w3) (shut_int Try.underlying2 w4), rfl, bel.frame _, fun h => by cases h⟩

theorem over : Rows.timesWideRow.holds Try.pinned (OpenSpec.ofChange Rows.timesWideSpec) :=
  OpenClaim.holds_of_wide 6 Try.f6 rfl rfl rfl rfl rfl rfl rfl ⟨rfl, rfl, rfl, rfl, rfl⟩ rfl rfl rfl rfl rfl (by kernel_rfl) Try.func6 (by kernel_rfl)
    (of_decide_eq_true (by kernel_rfl)) (by unfold Func.isWrapper; first | (rw [if_pos (by decide +kernel)]; kernel_rfl) | (rw [if_neg (by decide +kernel)]; exact ⟨rfl, rfl⟩))
    (fun os started H enc _ => lifted os started H enc)

/-- The statement. -/
theorem proved : Rows.TimesWideSaid := over
#print axioms proved
end Go.Proofs.Ytlimfchobijhaaa.timesWide
