/-
  NameParses: for any string, Parse returns the name that the reference returns, or none, and the text of the name is the string.
-/
import Derived.Test.YtnejidaplbonoaaNameAwk
import Derived.Test.YtnejidaplbonoaaNameF
import Derived.Test.YtnejidaplbonoaaOpenN
import Derived.Test.YtnejidaplbonoaaSame
namespace Go.Proofs.Ytnejidaplbonoaa.nameParses
open Go.ChangeShapes Go.WideShapes Go.ChangeAt Go.RowKit
set_option linter.unusedVariables false
set_option linter.unusedSimpArgs false
set_option maxHeartbeats 4000000 in
set_option maxRecDepth 100000 in
theorem walk_long (w : World) (s : ByteArray) (hl : 500 < s.size) :
    Calls Try.prog 4 #[.string s] w fun e w' => e = .returned (.bool true) ∧ Below w.heap.size w w' := by
  have hd : decide ((500 : Int) < (s.size : Int)) = true := by rw [decide_eq_true_eq]; omega
  clear hl
  go_enter Try.func4, Try.ntmps4
  have HW := kept (Below.refl w.heap.size w)
  go_wp2_with fail
  refine (nawake_any w).mono ?_
  rintro e W1 ⟨rfl, k⟩
  replace HW := kept (below_next HW.out k)
  clear k
  go_wp2_with fail
  refine (nawake_any W1).mono ?_
  rintro e W2 ⟨rfl, k⟩
  replace HW := kept (below_next HW.out k)
  clear k
  go_wp2_with fail
  go_ret
  exact ⟨rfl, HW.out⟩
set_option maxHeartbeats 4000000 in
set_option maxRecDepth 100000 in
theorem walk_any (w : World) (s : ByteArray) :
    Calls Try.prog 4 #[.string s] w fun e w' => e = .returned (.bool true) ∧ Below w.heap.size w w' := by
  by_cases hl : 500 < s.size
  · exact walk_long w s hl
  have hd : decide ((500 : Int) < (s.size : Int)) = false := by rw [decide_eq_false_iff_not]; omega
  have HPN := kept (fun (w' : World) => nparse_any s w' (by omega))
  have HPR := kept (fun (w' : World) => reparse_any s w' (by omega))
  have hiff := fun n => (parseL_iff s.data.toList n).1
  obtain ⟨P, hP⟩ : ∃ P, parseL s.data.toList = P := ⟨_, rfl⟩
  rw [hP] at HPN HPR hiff
  clear hP hl
  cases P with
  | none =>
    simp only [Option.getD_none, Option.isSome_none] at HPN HPR
    have HLN := kept (show ([] : List ByteArray).length = 0 from rfl)
    have HNL := kept (show 0 ≤ 8 from Nat.zero_le _)
    clear hiff
    go_enter Try.func4, Try.ntmps4
    have HW := kept (Below.refl w.heap.size w)
    go_wp2_with fail
    refine (nawake_any w).mono ?_
    rintro e W1 ⟨rfl, k⟩
    replace HW := kept (below_next HW.out k)
    clear k
    go_upto_region 3 with (fail)
    go_wp2_with fail
    refine (HPN.out W1).mono ?_
    rintro e W2 ⟨v2, rfl, ho2, k⟩
    replace HW := kept (below_next HW.out k)
    clear k
    obtain ⟨A2, q2, c2, hv2, _, _, hm2⟩ := ho2.form
    rw [HLN.out] at hv2
    subst hv2
    have M2 := kept hm2
    clear ho2 hm2
    go_upto_region 4 with (refine wpList_store_row rfl 24 (.tmp 3) (.tmp 18) rfl W2.heap.size #[.string ⟨#[]⟩, .slice A2 0 c2] rfl rfl 24 #[.string ⟨#[]⟩, .slice none 0 0] (Blk.new W2 _ _) (by rw [nm_size]; rfl) rfl (nm_one _ _ _ _) ?_)
    go_name_world W3 hW3
    have H2 := kept (show Blk W3 W2.heap.size 24 #[.string ⟨#[]⟩, .slice A2 0 c2] by rw [← hW3]; exact setRow_heap _ _ _ _ _ _ (Blk.new W2 _ _))
    have k : Below W2.heap.size W2 W3 := by rw [← hW3]; exact below_setRow ((Below.refl _ W2).alloc (Nat.le_refl _) _) (Nat.le_refl _) _
    clear hW3
    replace M2 := kept (M2.out.below0 k)
    replace HW := kept (below_next HW.out k)
    clear k
    generalize W2.heap.size = g2 at H2 ⊢
    go_wp2_with fail
    refine (HPR.out W3).mono ?_
    rintro e W4 ⟨v4, rfl, ho4, k⟩
    replace H2 := kept (H2.out.below k H2.out.lt)
    replace M2 := kept (M2.out.below0 k)
    replace HW := kept (below_next HW.out k)
    clear k
    obtain ⟨A4, q4, c4, hv4, _, _, hm4⟩ := ho4.form
    rw [HLN.out] at hv4
    subst hv4
    have M4 := kept hm4
    clear ho4 hm4
    go_upto_region 5 with (refine wpList_store_row rfl 24 (.tmp 5) (.tmp 23) rfl W4.heap.size #[.string ⟨#[]⟩, .slice A4 0 c4] rfl rfl 24 #[.string ⟨#[]⟩, .slice none 0 0] (Blk.new W4 _ _) (by rw [nm_size]; rfl) rfl (nm_one _ _ _ _) ?_)
    go_name_world W5 hW5
    have H4 := kept (show Blk W5 W4.heap.size 24 #[.string ⟨#[]⟩, .slice A4 0 c4] by rw [← hW5]; exact setRow_heap _ _ _ _ _ _ (Blk.new W4 _ _))
    have k : Below W4.heap.size W4 W5 := by rw [← hW5]; exact below_setRow ((Below.refl _ W4).alloc (Nat.le_refl _) _) (Nat.le_refl _) _
    clear hW5
    replace H2 := kept (H2.out.below k H2.out.lt)
    replace M2 := kept (M2.out.below0 k)
    replace M4 := kept (M4.out.below0 k)
    replace HW := kept (below_next HW.out k)
    clear k
    generalize W4.heap.size = g4 at H4 ⊢
    have HSM := kept (show Calls Try.prog 19 #[.agg #[.string ⟨#[]⟩, .slice A2 0 c2], .agg #[.string ⟨#[]⟩, .slice A4 0 c4]] W5 fun e w' => e = .returned (.bool true) ∧ Below W5.heap.size W5 w' by
      have := resame_any W5 ⟨#[]⟩ ⟨#[]⟩ [] [] q2 q4 A2 A4 c2 c4 (by rw [HLN.out]; have := HNL.out; omega) (by rw [HLN.out]; have := HNL.out; omega) M2.out M4.out
      rw [decide_eq_true rfl, HLN.out] at this
      exact this)
    go_wp2_with (first | (refine wpList_load_row_w (by rfl) 24 (.tmp 3) rfl g2 rfl 24 #[.string ⟨#[]⟩, .slice A2 0 c2] (0, 0) _ H2.out Try.underlying24 rfl (by rw [nm_size]; rfl) ?_) | (refine wpList_load_row_w (by rfl) 24 (.tmp 5) rfl g4 rfl 24 #[.string ⟨#[]⟩, .slice A4 0 c4] (0, 0) _ H4.out Try.underlying24 rfl (by rw [nm_size]; rfl) ?_))
    refine (HSM.out).mono ?_
    rintro e W6 ⟨rfl, k⟩
    clear HSM
    replace H2 := kept (H2.out.below k H2.out.lt)
    replace H4 := kept (H4.out.below k H4.out.lt)
    replace M2 := kept (M2.out.below0 k)
    replace M4 := kept (M4.out.below0 k)
    replace HW := kept (below_next HW.out k)
    clear k
    go_wp2_with fail
    go_ret
    exact ⟨rfl, HW.out⟩
  | some n =>
    obtain ⟨R, L⟩ := n
    obtain ⟨h1, h2⟩ := hiff _ rfl
    obtain ⟨h3, h4, h5, h6⟩ := isN_parts h1
    simp only [Option.getD_some, Option.isSome_some] at HPN HPR
    have HTS := kept (show strOf (textL (R, L)) = s by rw [h2, strOf_of])
    have HRS := kept (show R.size ≤ maxLen by have := (isW_size h4).2; unfold maxLen; omega)
    have HLS := kept (show ∀ s ∈ L, s.size ≤ maxLen from fun s hs => by have := (isW_size (h3 s hs)).2; unfold maxLen; omega)
    obtain ⟨nl, hnl⟩ : ∃ nl, L.length = nl := ⟨_, rfl⟩
    have HNL := kept (show nl ≤ 8 by omega)
    have HLN := kept hnl
    clear hiff h1 h2 h3 h4 h5 h6 hnl
    go_enter Try.func4, Try.ntmps4
    have HW := kept (Below.refl w.heap.size w)
    go_wp2_with fail
    refine (nawake_any w).mono ?_
    rintro e W1 ⟨rfl, k⟩
    replace HW := kept (below_next HW.out k)
    clear k
    go_upto_region 3 with (fail)
    go_wp2_with fail
    refine (HPN.out W1).mono ?_
    rintro e W2 ⟨v2, rfl, ho2, k⟩
    replace HW := kept (below_next HW.out k)
    clear k
    obtain ⟨A2, q2, c2, hv2, _, _, hm2⟩ := ho2.form
    rw [HLN.out] at hv2
    subst hv2
    have M2 := kept hm2
    clear ho2 hm2
    go_upto_region 4 with (refine wpList_store_row rfl 24 (.tmp 3) (.tmp 18) rfl W2.heap.size #[.string R, .slice A2 nl c2] rfl rfl 24 #[.string ⟨#[]⟩, .slice none 0 0] (Blk.new W2 _ _) (by rw [nm_size]; rfl) rfl (nm_one _ _ _ _) ?_)
    go_name_world W3 hW3
    have H2 := kept (show Blk W3 W2.heap.size 24 #[.string R, .slice A2 nl c2] by rw [← hW3]; exact setRow_heap _ _ _ _ _ _ (Blk.new W2 _ _))
    have k : Below W2.heap.size W2 W3 := by rw [← hW3]; exact below_setRow ((Below.refl _ W2).alloc (Nat.le_refl _) _) (Nat.le_refl _) _
    clear hW3
    replace M2 := kept (M2.out.below0 k)
    replace HW := kept (below_next HW.out k)
    clear k
    generalize W2.heap.size = g2 at H2 ⊢
    go_wp2_with fail
    refine (HPR.out W3).mono ?_
    rintro e W4 ⟨v4, rfl, ho4, k⟩
    replace H2 := kept (H2.out.below k H2.out.lt)
    replace M2 := kept (M2.out.below0 k)
    replace HW := kept (below_next HW.out k)
    clear k
    obtain ⟨A4, q4, c4, hv4, _, _, hm4⟩ := ho4.form
    rw [HLN.out] at hv4
    subst hv4
    have M4 := kept hm4
    clear ho4 hm4
    go_upto_region 5 with (refine wpList_store_row rfl 24 (.tmp 5) (.tmp 23) rfl W4.heap.size #[.string R, .slice A4 nl c4] rfl rfl 24 #[.string ⟨#[]⟩, .slice none 0 0] (Blk.new W4 _ _) (by rw [nm_size]; rfl) rfl (nm_one _ _ _ _) ?_)
    go_name_world W5 hW5
    have H4 := kept (show Blk W5 W4.heap.size 24 #[.string R, .slice A4 nl c4] by rw [← hW5]; exact setRow_heap _ _ _ _ _ _ (Blk.new W4 _ _))
    have k : Below W4.heap.size W4 W5 := by rw [← hW5]; exact below_setRow ((Below.refl _ W4).alloc (Nat.le_refl _) _) (Nat.le_refl _) _
    clear hW5
    replace H2 := kept (H2.out.below k H2.out.lt)
    replace M2 := kept (M2.out.below0 k)
    replace M4 := kept (M4.out.below0 k)
    replace HW := kept (below_next HW.out k)
    clear k
    generalize W4.heap.size = g4 at H4 ⊢
    have HSM := kept (show Calls Try.prog 19 #[.agg #[.string R, .slice A2 nl c2], .agg #[.string R, .slice A4 nl c4]] W5 fun e w' => e = .returned (.bool true) ∧ Below W5.heap.size W5 w' by
      have := resame_any W5 R R L L q2 q4 A2 A4 c2 c4 (by rw [HLN.out]; have := HNL.out; omega) (by rw [HLN.out]; have := HNL.out; omega) M2.out M4.out
      rw [decide_eq_true rfl, HLN.out] at this
      exact this)
    go_wp2_with (first | (refine wpList_load_row_w (by rfl) 24 (.tmp 3) rfl g2 rfl 24 #[.string R, .slice A2 nl c2] (0, 0) _ H2.out Try.underlying24 rfl (by rw [nm_size]; rfl) ?_) | (refine wpList_load_row_w (by rfl) 24 (.tmp 5) rfl g4 rfl 24 #[.string R, .slice A4 nl c4] (0, 0) _ H4.out Try.underlying24 rfl (by rw [nm_size]; rfl) ?_))
    refine (HSM.out).mono ?_
    rintro e W6 ⟨rfl, k⟩
    clear HSM
    replace H2 := kept (H2.out.below k H2.out.lt)
    replace H4 := kept (H4.out.below k H4.out.lt)
    replace M2 := kept (M2.out.below0 k)
    replace M4 := kept (M4.out.below0 k)
    replace HW := kept (below_next HW.out k)
    clear k
    have HTX := kept (show Calls Try.prog 9 #[.agg #[.string R, .slice A2 nl c2]] W6 fun e w' => e = .returned (.string s) ∧ Below W6.heap.size W6 w' by
      have := ntext_any W6 R L q2 A2 c2 HRS.out HLS.out (by rw [HLN.out]; have := HNL.out; unfold maxLen; omega) M2.out
      rw [HTS.out, HLN.out] at this
      exact this)
    go_wp2_with (refine wpList_load_row_w (by rfl) 24 (.tmp 3) rfl g2 rfl 24 #[.string R, .slice A2 nl c2] (0, 0) _ H2.out Try.underlying24 rfl (by rw [nm_size]; rfl) ?_)
    refine (HTX.out).mono ?_
    rintro e W7 ⟨rfl, k⟩
    clear HTX
    replace H2 := kept (H2.out.below k H2.out.lt)
    replace H4 := kept (H4.out.below k H4.out.lt)
    replace M2 := kept (M2.out.below0 k)
    replace M4 := kept (M4.out.below0 k)
    replace HW := kept (below_next HW.out k)
    clear k
    go_wp2_with fail
    go_ret
    exact ⟨rfl, HW.out⟩
set_option maxRecDepth 100000 in
theorem lifted (os : Os) (started : os.Started) (H : Type) (enc : TypeId × Value → H) :
    ReturnsInHanded {} Try.checked os 4 .any (Rows.nameParsesSpec.pre6 enc Try.prog Try.f4 Rows.nameParsesRow.domain false) (Rows.nameParsesSpec.post enc Try.prog Try.f4 false true false false) := by
  refine returnsInHanded_of_change (C := Try.checked) own_knob started (by kernel_rfl) Try.func4
    (ChangeSpec.witness6 (enc := enc) (C := Try.checked) false ⟨#[], #[.string ⟨#[]⟩], []⟩ 8 (by kernel_rfl) (by kernel_rfl) (by kernel_rfl) (by kernel_rfl)) ?_
  intro W base args ds gs before hval0 hW hcnd _
  have hval : ∀ (j : Nat) t v, Try.f4.params[j]? = some t → args[j]? = some v → Value.okWide Try.prog W .any base t v := hval0
  have hW' := hW
  obtain ⟨p, q, hA0, hV, rfl, hfz, hnd⟩ := hW
  have hA : DataW.TrodAll enc Try.prog W 0 (fun _ => true) true Try.f4.params.toList args.toList ds p := hA0
  rw [Try.params4] at hA hval
  obtain ⟨v0, d0, rfl, rfl, h0⟩ := trodAll_one hA
  obtain ⟨rfl, rfl⟩ := trodVars_none hV
  have hvl0 := hval 0 9 v0 rfl rfl
  obtain ⟨s, rfl, rfl, rfl, ws⟩ := Go.ChangeMaps.open_string Try.underlying9 hvl0 h0
  clear hA0 hval0
  refine (walk_any W s).mono fun e W' ⟨he, bel⟩ => ?_
  subst he
  exact ⟨_, rfl, _, _, _, [], _, [], hW', trodAll_mk1 (shut_bool Try.underlying4 _), trodAll_mk1 (Go.ChangeMaps.shut_string Try.underlying9 ws), rfl, bel.frame _, fun h => by cases h⟩

theorem over : Rows.nameParsesRow.holds Try.pinned (OpenSpec.ofChange Rows.nameParsesSpec) :=
  OpenClaim.holds_of_wide 4 Try.f4 rfl rfl rfl rfl rfl rfl rfl ⟨rfl, rfl, rfl, rfl, rfl⟩ rfl rfl rfl rfl rfl (by kernel_rfl) Try.func4 (by kernel_rfl)
    (of_decide_eq_true (by kernel_rfl)) (by unfold Func.isWrapper; first | (rw [if_pos (by decide +kernel)]; kernel_rfl) | (rw [if_neg (by decide +kernel)]; exact ⟨rfl, rfl⟩))
    (fun os started H enc _ => lifted os started H enc)

/-- The statement. -/
theorem proved : Rows.NameParsesSaid := over
#print axioms proved
end Go.Proofs.Ytnejidaplbonoaa.nameParses
