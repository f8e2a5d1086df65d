/-
  NameReads: for any bytes, Read returns the name that the reference reads, or none; the reader is behind its bytes then.
-/
import Derived.Test.YtnejidaplbonoaaNameAwk
import Derived.Test.YtnejidaplbonoaaNameF
import Derived.Test.YtnejidaplbonoaaOpenN
import Derived.Test.YtnejidaplbonoaaSame
namespace Go.Proofs.Ytnejidaplbonoaa.nameReads
open Go.ChangeShapes Go.WideShapes Go.ChangeAt Go.RowKit
set_option linter.unusedVariables false
set_option linter.unusedSimpArgs false
set_option maxHeartbeats 4000000 in
set_option maxRecDepth 100000 in
theorem walk_long (w : World) (q c : Nat) (A : Option Addr) (l : List UInt8) (hl : 500 < l.length) :
    Calls Try.prog 5 #[.slice A l.length c] w fun e w' => e = .returned (.bool true) ∧ Below w.heap.size w w' := by
  have hd : decide ((500 : Int) < (l.length : Int)) = true := by rw [decide_eq_true_eq]; omega
  clear hl
  go_enter Try.func5, Try.ntmps5
  have HW := kept (Below.refl w.heap.size w)
  go_wp2_with fail
  refine (nawake_any w).mono ?_
  rintro e W1 ⟨rfl, k⟩
  replace HW := kept (below_next HW.out k)
  clear k
  go_wp2_with fail
  refine (nawake_any W1).mono ?_
  rintro e W2 ⟨rfl, k⟩
  replace HW := kept (below_next HW.out k)
  clear k
  go_wp2_with fail
  go_ret
  exact ⟨rfl, HW.out⟩
set_option maxHeartbeats 4000000 in
set_option maxRecDepth 100000 in
theorem walk_any (w : World) (q c : Nat) (A : Option Addr) (l : List UInt8) (hm : Mem w q A l) (hc : l.length ≤ c) :
    Calls Try.prog 5 #[.slice A l.length c] w fun e w' => e = .returned (.bool true) ∧ Below w.heap.size w w' := by
  by_cases hl : 500 < l.length
  · exact walk_long w q c A l hl
  have hd : decide ((500 : Int) < (l.length : Int)) = false := by rw [decide_eq_false_iff_not]; omega
  have HM := kept hm
  have hlq := rParts_rest (min (rNum (rStr (false, l) 1).1 1).2 9) (rNum (rStr (false, l) 1).1 1).1
  have HNL := kept (show (rNameO (false, l)).2.length ≤ 9 by
    unfold rNameO
    split
    · unfold rName
      rw [List.length_map, rParts_len]
      omega
    · simp)
  obtain ⟨⟨⟨bq, lq⟩, nq⟩, hQ⟩ : ∃ Q, rName (false, l) = Q := ⟨_, rfl⟩
  obtain ⟨Z, hZ⟩ : ∃ Z, rNameB (false, l) = Z := ⟨_, rfl⟩
  obtain ⟨NO, hO⟩ : ∃ NO, rNameO (false, l) = NO := ⟨_, rfl⟩
  have HQ := kept hQ
  have HO := kept hO
  rw [hO] at HNL
  clear hm hQ hO hlq
  cases Z with
  | false =>
    have HZ := kept hZ
    clear hZ
    go_enter Try.func5, Try.ntmps5
    have HW := kept (Below.refl w.heap.size w)
    go_wp2_with fail
    refine (nawake_any w).mono ?_
    rintro e W1 ⟨rfl, k⟩
    replace HW := kept (below_next HW.out k)
    clear k
    go_upto_region 3 with (fail)
    go_wp2_with fail
    refine (new_any W1 q A l.length c l rfl (HM.out.below0 HW.out) (by omega)).mono ?_
    rintro e W2 ⟨g, qr, rfl, hrd, hlo, hhi, _, k⟩
    have HRD := kept hrd
    have HG := kept (Nat.le_trans HW.out.size hlo)
    clear hrd hlo hhi
    replace HW := kept (below_next HW.out k)
    clear k
    go_upto_region 6 with (fail)
    go_wp2_with fail
    refine (nread_any W2 g qr l HRD.out (by omega)).mono ?_
    rw [HO.out, HZ.out]
    rintro e W3 ⟨v3, b3, l3, rfl, ho3, hrd3, heq, k⟩
    have HEQ := kept heq
    replace HRD := kept hrd3
    replace HW := kept (HW.out.grown k HW.out.size (fun j hj => by injection hj with hj; have := HG.out; omega))
    obtain ⟨A3, q3, c3, hv3, _, _, hm3⟩ := ho3.form
    obtain ⟨nl, hnl⟩ : ∃ nl, NO.2.length = nl := ⟨_, rfl⟩
    rw [hnl] at hv3
    subst hv3
    have HLN := kept hnl
    have M3 := kept hm3
    clear ho3 hm3 hrd3 heq k hnl
    go_upto_region 7 with (refine wpList_store_row rfl 24 (.tmp 4) (.tmp 24) rfl W3.heap.size #[.string NO.1, .slice A3 nl c3] rfl rfl 24 #[.string ⟨#[]⟩, .slice none 0 0] (Blk.new W3 _ _) (by rw [nm_size]; rfl) rfl (nm_one _ _ _ _) ?_)
    go_name_world W4 hW4
    have H4 := kept (show Blk W4 W3.heap.size 24 #[.string NO.1, .slice A3 nl c3] by rw [← hW4]; exact setRow_heap _ _ _ _ _ _ (Blk.new W3 _ _))
    have k : Below W3.heap.size W3 W4 := by rw [← hW4]; exact below_setRow ((Below.refl _ W3).alloc (Nat.le_refl _) _) (Nat.le_refl _) _
    clear hW4
    replace HRD := kept (HRD.out.below k)
    replace M3 := kept (M3.out.below0 k)
    replace HW := kept (below_next HW.out k)
    clear k
    generalize W3.heap.size = g4 at H4 ⊢
    go_wp2_with fail
    refine (reread_any W4 q A l.length c false l rfl hc (by omega) (HM.out.below0 HW.out)).mono ?_
    rw [HO.out, HZ.out, HQ.out]
    rintro e W5 ⟨A5, c5, v5, rfl, ho5, k⟩
    obtain ⟨A6, q6, c6, hv6, _, _, hm6⟩ := ho5.form
    rw [HLN.out] at hv6
    subst hv6
    have M6 := kept hm6
    clear ho5 hm6
    replace HRD := kept (HRD.out.below k)
    replace H4 := kept (H4.out.below k H4.out.lt)
    replace M3 := kept (M3.out.below0 k)
    replace HW := kept (below_next HW.out k)
    clear k
    have n6 := kept (show Blk ((W5.alloc (.cells #[.slice none 0 0, .bool false] 41)).alloc (.cells #[.string ⟨#[]⟩, .slice none 0 0] 24)) W5.heap.size 41 #[.slice none 0 0, .bool false] from (Blk.new W5 _ _).alloc _)
    have n7 := kept (show Blk (((W5.alloc (.cells #[.slice none 0 0, .bool false] 41)).alloc (.cells #[.string ⟨#[]⟩, .slice none 0 0] 24)).setRow W5.heap.size #[.slice A5 lq.length c5, .bool bq]) (W5.heap.size + 1) 24 #[.string ⟨#[]⟩, .slice none 0 0] by
      have n1 := Blk.new (W5.alloc (.cells #[.slice none 0 0, .bool false] 41)) 24 #[.string ⟨#[]⟩, .slice none 0 0]
      rw [World.size_alloc] at n1
      exact n1.off_row (by omega))
    go_upto_region 8 with (first | (refine wpList_store_row rfl 41 (.tmp 6) (.tmp 30) rfl W5.heap.size #[.slice A5 lq.length c5, .bool bq] rfl rfl 41 #[.slice none 0 0, .bool false] n6.out (by rw [rd_size]; rfl) rfl (rd_one _ _ _ _) ?_) | (refine wpList_store_row rfl 24 (.tmp 7) (.tmp 31) rfl (W5.heap.size + 1) #[.string NO.1, .slice A6 nl c6] rfl rfl 24 #[.string ⟨#[]⟩, .slice none 0 0] n7.out (by rw [nm_size]; rfl) rfl (nm_one _ _ _ _) ?_))
    go_name_world W6 hW6
    have H6 := kept (show Blk W6 W5.heap.size 41 #[.slice A5 lq.length c5, .bool bq] by rw [← hW6]; exact Blk.off_row (setRow_heap _ _ _ _ _ _ n6.out) (by omega))
    have H7 := kept (show Blk W6 (W5.heap.size + 1) 24 #[.string NO.1, .slice A6 nl c6] by rw [← hW6]; exact setRow_heap _ _ _ _ _ _ n7.out)
    have k : Below W5.heap.size W5 W6 := by rw [← hW6]; exact below_setRow (below_setRow (((Below.refl _ W5).alloc (Nat.le_refl _) _).alloc (by simp) _) (Nat.le_refl _) _) (by omega) _
    clear hW6 n6 n7
    replace HRD := kept (HRD.out.below k)
    replace H4 := kept (H4.out.below k H4.out.lt)
    replace M3 := kept (M3.out.below0 k)
    replace M6 := kept (M6.out.below0 k)
    replace HW := kept (below_next HW.out k)
    clear k
    generalize W5.heap.size + 1 = g7 at H7 ⊢
    generalize W5.heap.size = g6 at H6 ⊢
    have HSM := kept (show Calls Try.prog 19 #[.agg #[.string NO.1, .slice A3 nl c3], .agg #[.string NO.1, .slice A6 nl c6]] W6 fun e w' => e = .returned (.bool true) ∧ Below W6.heap.size W6 w' by
      have := resame_any W6 NO.1 NO.1 NO.2 NO.2 q3 q6 A3 A6 c3 c6 (by have := HNL.out; omega) (by have := HNL.out; omega) M3.out M6.out
      rw [decide_eq_true rfl, HLN.out] at this
      exact this)
    go_wp2_with (first | (refine wpList_load_row_w (by rfl) 24 (.tmp 4) rfl g4 rfl 24 #[.string NO.1, .slice A3 nl c3] (0, 0) _ H4.out Try.underlying24 rfl (by rw [nm_size]; rfl) ?_) | (refine wpList_load_row_w (by rfl) 24 (.tmp 7) rfl g7 rfl 24 #[.string NO.1, .slice A6 nl c6] (0, 0) _ H7.out Try.underlying24 rfl (by rw [nm_size]; rfl) ?_))
    refine (HSM.out).mono ?_
    rintro e W7 ⟨rfl, k⟩
    replace HRD := kept (HRD.out.below k)
    clear HSM
    replace H4 := kept (H4.out.below k H4.out.lt)
    replace H6 := kept (H6.out.below k H6.out.lt)
    replace H7 := kept (H7.out.below k H7.out.lt)
    replace M3 := kept (M3.out.below0 k)
    replace M6 := kept (M6.out.below0 k)
    replace HW := kept (below_next HW.out k)
    clear k
    go_upto_region 10 with (fail)
    go_quiet (fail)
    go_wp2_with fail
    go_ret
    exact ⟨rfl, below_drewN HW.out _⟩
  | true =>
    have HZ := kept hZ
    clear hZ
    go_enter Try.func5, Try.ntmps5
    have HW := kept (Below.refl w.heap.size w)
    go_wp2_with fail
    refine (nawake_any w).mono ?_
    rintro e W1 ⟨rfl, k⟩
    replace HW := kept (below_next HW.out k)
    clear k
    go_upto_region 3 with (fail)
    go_wp2_with fail
    refine (new_any W1 q A l.length c l rfl (HM.out.below0 HW.out) (by omega)).mono ?_
    rintro e W2 ⟨g, qr, rfl, hrd, hlo, hhi, _, k⟩
    have HRD := kept hrd
    have HG := kept (Nat.le_trans HW.out.size hlo)
    clear hrd hlo hhi
    replace HW := kept (below_next HW.out k)
    clear k
    go_upto_region 6 with (fail)
    go_wp2_with fail
    refine (nread_any W2 g qr l HRD.out (by omega)).mono ?_
    rw [HO.out, HZ.out]
    rintro e W3 ⟨v3, b3, l3, rfl, ho3, hrd3, heq, k⟩
    have HEQ := kept heq
    replace HRD := kept hrd3
    replace HW := kept (HW.out.grown k HW.out.size (fun j hj => by injection hj with hj; have := HG.out; omega))
    obtain ⟨A3, q3, c3, hv3, _, _, hm3⟩ := ho3.form
    obtain ⟨nl, hnl⟩ : ∃ nl, NO.2.length = nl := ⟨_, rfl⟩
    rw [hnl] at hv3
    subst hv3
    have HLN := kept hnl
    have M3 := kept hm3
    clear ho3 hm3 hrd3 heq k hnl
    go_upto_region 7 with (refine wpList_store_row rfl 24 (.tmp 4) (.tmp 24) rfl W3.heap.size #[.string NO.1, .slice A3 nl c3] rfl rfl 24 #[.string ⟨#[]⟩, .slice none 0 0] (Blk.new W3 _ _) (by rw [nm_size]; rfl) rfl (nm_one _ _ _ _) ?_)
    go_name_world W4 hW4
    have H4 := kept (show Blk W4 W3.heap.size 24 #[.string NO.1, .slice A3 nl c3] by rw [← hW4]; exact setRow_heap _ _ _ _ _ _ (Blk.new W3 _ _))
    have k : Below W3.heap.size W3 W4 := by rw [← hW4]; exact below_setRow ((Below.refl _ W3).alloc (Nat.le_refl _) _) (Nat.le_refl _) _
    clear hW4
    replace HRD := kept (HRD.out.below k)
    replace M3 := kept (M3.out.below0 k)
    replace HW := kept (below_next HW.out k)
    clear k
    generalize W3.heap.size = g4 at H4 ⊢
    go_wp2_with fail
    refine (reread_any W4 q A l.length c false l rfl hc (by omega) (HM.out.below0 HW.out)).mono ?_
    rw [HO.out, HZ.out, HQ.out]
    rintro e W5 ⟨A5, c5, v5, rfl, ho5, k⟩
    obtain ⟨A6, q6, c6, hv6, _, _, hm6⟩ := ho5.form
    rw [HLN.out] at hv6
    subst hv6
    have M6 := kept hm6
    clear ho5 hm6
    replace HRD := kept (HRD.out.below k)
    replace H4 := kept (H4.out.below k H4.out.lt)
    replace M3 := kept (M3.out.below0 k)
    replace HW := kept (below_next HW.out k)
    clear k
    have n6 := kept (show Blk ((W5.alloc (.cells #[.slice none 0 0, .bool false] 41)).alloc (.cells #[.string ⟨#[]⟩, .slice none 0 0] 24)) W5.heap.size 41 #[.slice none 0 0, .bool false] from (Blk.new W5 _ _).alloc _)
    have n7 := kept (show Blk (((W5.alloc (.cells #[.slice none 0 0, .bool false] 41)).alloc (.cells #[.string ⟨#[]⟩, .slice none 0 0] 24)).setRow W5.heap.size #[.slice A5 lq.length c5, .bool bq]) (W5.heap.size + 1) 24 #[.string ⟨#[]⟩, .slice none 0 0] by
      have n1 := Blk.new (W5.alloc (.cells #[.slice none 0 0, .bool false] 41)) 24 #[.string ⟨#[]⟩, .slice none 0 0]
      rw [World.size_alloc] at n1
      exact n1.off_row (by omega))
    go_upto_region 8 with (first | (refine wpList_store_row rfl 41 (.tmp 6) (.tmp 30) rfl W5.heap.size #[.slice A5 lq.length c5, .bool bq] rfl rfl 41 #[.slice none 0 0, .bool false] n6.out (by rw [rd_size]; rfl) rfl (rd_one _ _ _ _) ?_) | (refine wpList_store_row rfl 24 (.tmp 7) (.tmp 31) rfl (W5.heap.size + 1) #[.string NO.1, .slice A6 nl c6] rfl rfl 24 #[.string ⟨#[]⟩, .slice none 0 0] n7.out (by rw [nm_size]; rfl) rfl (nm_one _ _ _ _) ?_))
    go_name_world W6 hW6
    have H6 := kept (show Blk W6 W5.heap.size 41 #[.slice A5 lq.length c5, .bool bq] by rw [← hW6]; exact Blk.off_row (setRow_heap _ _ _ _ _ _ n6.out) (by omega))
    have H7 := kept (show Blk W6 (W5.heap.size + 1) 24 #[.string NO.1, .slice A6 nl c6] by rw [← hW6]; exact setRow_heap _ _ _ _ _ _ n7.out)
    have k : Below W5.heap.size W5 W6 := by rw [← hW6]; exact below_setRow (below_setRow (((Below.refl _ W5).alloc (Nat.le_refl _) _).alloc (by simp) _) (Nat.le_refl _) _) (by omega) _
    clear hW6 n6 n7
    replace HRD := kept (HRD.out.below k)
    replace H4 := kept (H4.out.below k H4.out.lt)
    replace M3 := kept (M3.out.below0 k)
    replace M6 := kept (M6.out.below0 k)
    replace HW := kept (below_next HW.out k)
    clear k
    generalize W5.heap.size + 1 = g7 at H7 ⊢
    generalize W5.heap.size = g6 at H6 ⊢
    have HSM := kept (show Calls Try.prog 19 #[.agg #[.string NO.1, .slice A3 nl c3], .agg #[.string NO.1, .slice A6 nl c6]] W6 fun e w' => e = .returned (.bool true) ∧ Below W6.heap.size W6 w' by
      have := resame_any W6 NO.1 NO.1 NO.2 NO.2 q3 q6 A3 A6 c3 c6 (by have := HNL.out; omega) (by have := HNL.out; omega) M3.out M6.out
      rw [decide_eq_true rfl, HLN.out] at this
      exact this)
    go_wp2_with (first | (refine wpList_load_row_w (by rfl) 24 (.tmp 4) rfl g4 rfl 24 #[.string NO.1, .slice A3 nl c3] (0, 0) _ H4.out Try.underlying24 rfl (by rw [nm_size]; rfl) ?_) | (refine wpList_load_row_w (by rfl) 24 (.tmp 7) rfl g7 rfl 24 #[.string NO.1, .slice A6 nl c6] (0, 0) _ H7.out Try.underlying24 rfl (by rw [nm_size]; rfl) ?_))
    refine (HSM.out).mono ?_
    rintro e W7 ⟨rfl, k⟩
    replace HRD := kept (HRD.out.below k)
    clear HSM
    replace H4 := kept (H4.out.below k H4.out.lt)
    replace H6 := kept (H6.out.below k H6.out.lt)
    replace H7 := kept (H7.out.below k H7.out.lt)
    replace M3 := kept (M3.out.below0 k)
    replace M6 := kept (M6.out.below0 k)
    replace HW := kept (below_next HW.out k)
    clear k
    go_upto_region 10 with (fail)
    have hel : l3.length = lq.length := by
      have h := congrArg (fun x : RS => x.2.length) (HEQ.out trivial)
      rw [HQ.out] at h
      exact h
    have hc6 : W7.cell? ⟨g6, 0, none⟩ = some (.slice A5 lq.length c5) := by rw [H6.out.cell]; rfl
    have HLF := kept (fun (n : Nat) => (left_any (W7.drewN n) (HRD.out.drewN n)))
    rw [hel] at HLF
    clear hel
    go_quiet ((go_at_call 23; exact quiet_eq (HLF.out _)))
    go_wp2_with fail
    go_ret
    exact ⟨rfl, below_drewN HW.out _⟩
set_option maxRecDepth 100000 in
theorem lifted (os : Os) (started : os.Started) (H : Type) (enc : TypeId × Value → H) :
    ReturnsInHanded {} Try.checked os 5 .any (Rows.nameReadsSpec.pre6 enc Try.prog Try.f5 Rows.nameReadsRow.domain false) (Rows.nameReadsSpec.post enc Try.prog Try.f5 false true false false) := by
  refine returnsInHanded_of_change (C := Try.checked) own_knob started (by kernel_rfl) Try.func5
    (ChangeSpec.witness6 (enc := enc) (C := Try.checked) false ⟨#[], #[.slice none 0 0], []⟩ 8 (by kernel_rfl) (by kernel_rfl) (by kernel_rfl) (by kernel_rfl)) ?_
  intro W base args ds gs before hval0 hW hcnd _
  have hval : ∀ (j : Nat) t v, Try.f5.params[j]? = some t → args[j]? = some v → Value.okWide Try.prog W .any base t v := hval0
  have hW' := hW
  obtain ⟨p, q, hA0, hV, rfl, hfz, hnd⟩ := hW
  have hA : DataW.TrodAll enc Try.prog W 0 (fun _ => true) true Try.f5.params.toList args.toList ds p := hA0
  rw [Try.params5] at hA hval
  obtain ⟨v0, d0, rfl, rfl, h0⟩ := trodAll_one hA
  obtain ⟨rfl, rfl⟩ := trodVars_none hV
  have hvl0 := hval 0 28 v0 rfl rfl
  obtain ⟨A, q, c, l, rfl, hc, _, hm⟩ := open_bytes hvl0 h0
  clear hA0 hval0
  refine (walk_any W q c A l hm hc).mono fun e W' ⟨he, bel⟩ => ?_
  subst he
  exact ⟨_, rfl, _, _, _, [], _, [], hW', trodAll_mk1 (shut_bool Try.underlying4 _), trodAll_mk1 (keep_arg (by kernel_rfl) (of_decide_eq_true (by kernel_rfl)) h0 bel), rfl, bel.frame _, fun h => by cases h⟩

theorem over : Rows.nameReadsRow.holds Try.pinned (OpenSpec.ofChange Rows.nameReadsSpec) :=
  OpenClaim.holds_of_wide 5 Try.f5 rfl rfl rfl rfl rfl rfl rfl ⟨rfl, rfl, rfl, rfl, rfl⟩ rfl rfl rfl rfl rfl (by kernel_rfl) Try.func5 (by kernel_rfl)
    (of_decide_eq_true (by kernel_rfl)) (by unfold Func.isWrapper; first | (rw [if_pos (by decide +kernel)]; kernel_rfl) | (rw [if_neg (by decide +kernel)]; exact ⟨rfl, rfl⟩))
    (fun os started H enc _ => lifted os started H enc)

/-- The statement. -/
theorem proved : Rows.NameReadsSaid := over
#print axioms proved
end Go.Proofs.Ytnejidaplbonoaa.nameReads
