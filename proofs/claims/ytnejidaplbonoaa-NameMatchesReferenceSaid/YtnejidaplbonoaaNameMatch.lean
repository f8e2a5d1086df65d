/-
  NameMatchesReference: any name is valid as in the reference, and then has its text and its bytes, which lead back to it.
-/
import Derived.Test.YtnejidaplbonoaaNameAwk
import Derived.Test.YtnejidaplbonoaaNameF
import Derived.Test.YtnejidaplbonoaaOpenN
import Derived.Test.YtnejidaplbonoaaSame
import Derived.Test.YtnejidaplbonoaaSameB
import Derived.Test.YtnejidaplbonoaaFlow
import Derived.Test.YtnejidaplbonoaaNameB
namespace Go.Proofs.Ytnejidaplbonoaa.nameMatch
open Go.ChangeShapes Go.WideShapes Go.ChangeAt Go.RowKit
set_option linter.unusedVariables false
set_option linter.unusedSimpArgs false
theorem none_text (n : Nm) (h : isN n = false) : textL n = [] := by
  unfold textL
  rw [h]
  rfl
theorem none_parse : parseL [] = none := by decide +kernel
theorem none_read : rNameB (false, []) = false := by decide +kernel
theorem text_size (n : Nm) : (strOf (textL n)).size ≤ 2000 := by
  rw [strOf_size]
  unfold textL
  split
  · rename_i h
    obtain ⟨h1, h2, h3, h4⟩ := isN_parts (R := n.1) (L := n.2) h
    have e1 := joinP_len n.2 h1
    have e2 := esc_size h2
    rw [strOf_size] at e2
    rw [List.length_append, List.length_cons]
    omega
  · simp
theorem read_some (n : Nm) (h : isN n = true) : rName (false, bytesO n) = ((false, []), n) ∧ rNameB (false, bytesO n) = true ∧ rNameO (false, bytesO n) = n := by
  have e := rName_bytesN n [] h
  rw [List.append_nil] at e
  have e1 : rName (false, bytesO n) = ((false, []), n) := by unfold bytesO; rw [if_pos h]; exact e
  have e2 : rNameB (false, bytesO n) = true := by unfold rNameB; rw [e1, h]; rfl
  exact ⟨e1, e2, by unfold rNameO; rw [if_pos e2, e1]⟩
set_option maxHeartbeats 4000000 in
set_option maxRecDepth 100000 in
theorem walk_any (w : World) (R : ByteArray) (L : List ByteArray) (q c : Nat) (AA : Option Addr) (hR : R.size ≤ maxLen) (hS : ∀ s ∈ L, s.size ≤ maxLen) (hl : L.length ≤ maxLen) (hm : MemS w q AA L) :
    Calls Try.prog 3 #[.agg #[.string R, .slice AA L.length c]] w fun e w' => e = .returned (.bool true) ∧ Below w.heap.size w w' := by
  have HR := kept hR
  have HS := kept hS
  have HL := kept hl
  have M1 := kept hm
  have hts := text_size (R, L)
  have hbo := bytesO_len (R, L)
  clear hR hS hl hm
  obtain ⟨T, hT⟩ : ∃ T, strOf (textL (R, L)) = T := ⟨_, rfl⟩
  have HPA := kept (fun (w' : World) => nparse_any T w' (by rw [← hT]; exact hts))
  have hTL : T.data.toList = textL (R, L) := by rw [← hT, strOf_list]
  rw [hTL] at HPA
  have HT := kept hT
  cases hV : isN (R, L) with
  | false =>
    rw [none_text _ hV] at HPA
    simp only [none_parse, Option.getD_none, Option.isSome_none] at HPA
    have hb : bytesO (R, L) = [] := by unfold bytesO; rw [hV]; rfl
    have HB := kept hb
    have HBL := kept (show ([] : List UInt8).length = 0 from rfl)
    have HB1 := kept (show ([] : List UInt8).length ≤ 10000 from by simp)
    have HZB := kept none_read
    have HZO := kept (show rNameO (false, []) = (⟨#[]⟩, []) by unfold rNameO; rw [none_read]; rfl)
    have HV := kept hV
    clear hts hbo hT hTL hb hV
    go_enter Try.func3, Try.ntmps3
    go_upto_region 1 with (fail)
    go_name_world W0 hW0
    have H1 := kept (show Blk W0 w.heap.size 24 #[.string R, .slice AA L.length c] by rw [← hW0]; exact Blk.new w _ _)
    have HW := kept (show Below w.heap.size w W0 by rw [← hW0]; exact (Below.refl _ w).alloc (Nat.le_refl _) _)
    replace M1 := kept (M1.out.below0 HW.out)
    clear hW0
    go_wp2_with fail
    refine (nawake_any W0).mono ?_
    rintro e W1 ⟨rfl, k⟩
    replace H1 := kept (H1.out.below k H1.out.lt)
    replace M1 := kept (M1.out.below0 k)
    replace HW := kept (below_next HW.out k)
    clear k
    go_wp2_with (refine wpList_load_row_w (by rfl) 24 (.tmp 1) rfl w.heap.size rfl 24 #[.string R, .slice AA L.length c] (0, 0) _ H1.out Try.underlying24 rfl (by rw [nm_size]; rfl) ?_)
    refine (refew_any W1 R L q AA c (by have := HL.out; unfold maxLen at this; omega) M1.out).mono ?_
    rintro e W2 ⟨rfl, k⟩
    replace H1 := kept (H1.out.below k H1.out.lt)
    replace M1 := kept (M1.out.below0 k)
    replace HW := kept (below_next HW.out k)
    clear k
    cases h : isF (R, L) with
    | false =>
      clear h
      go_wp2_with fail
      refine (nawake_any W2).mono ?_
      rintro e W9 ⟨rfl, k⟩
      replace HW := kept (below_next HW.out k)
      clear k
      go_wp2_with fail
      go_ret
      exact ⟨rfl, HW.out⟩
    | true =>
      clear h
      have HTX := kept (fun (w' : World) (h : MemS w' q AA L) => show Calls Try.prog 9 #[.agg #[.string R, .slice AA L.length c]] w' fun e w2 => e = .returned (.string T) ∧ Below w'.heap.size w' w2 by rw [← HT.out]; exact ntext_any w' R L q AA c HR.out HS.out HL.out h)
      have HRX := kept (fun (w' : World) (h : MemS w' q AA L) => show Calls Try.prog 13 #[.agg #[.string R, .slice AA L.length c]] w' fun e w2 => e = .returned (.string T) ∧ Below w'.heap.size w' w2 by rw [← HT.out]; exact retext_any w' R L q AA c HR.out HS.out (by have := HL.out; unfold maxLen at this; omega) h)
      have HVN := kept (fun (w' : World) (h : MemS w' q AA L) => show Calls Try.prog 11 #[.agg #[.string R, .slice AA L.length c]] w' fun e w2 => e = .returned (.bool false) ∧ Below w'.heap.size w' w2 by rw [← HV.out]; exact nvalid_any w' R L q AA c HR.out HS.out HL.out h)
      have HVR := kept (fun (w' : World) (h : MemS w' q AA L) => show Calls Try.prog 12 #[.agg #[.string R, .slice AA L.length c]] w' fun e w2 => e = .returned (.bool false) ∧ Below w'.heap.size w' w2 by rw [← HV.out]; exact revalid_any w' R L q AA c HR.out HS.out (by have := HL.out; unfold maxLen at this; omega) h)
      have HBY := kept (fun (w' : World) (h : MemS w' q AA L) => show Calls Try.prog 10 #[.agg #[.string R, .slice AA L.length c]] w' fun e w2 => ∃ v, e = .returned (.tuple #[v, .bool false]) ∧ Own w2 w'.heap.size v ([] : List UInt8) ∧ Below w'.heap.size w' w2 by rw [← HV.out, ← HB.out]; exact nbytes_any w' R L q AA c HR.out HS.out HL.out h)
      go_upto_region 3 with (fail)
      go_wp2_with (refine wpList_load_row_w (by rfl) 24 (.tmp 1) rfl w.heap.size rfl 24 #[.string R, .slice AA L.length c] (0, 0) _ H1.out Try.underlying24 rfl (by rw [nm_size]; rfl) ?_)
      refine (HTX.out W2 M1.out).mono ?_
      rintro e W3 ⟨rfl, k⟩
      replace H1 := kept (H1.out.below k H1.out.lt)
      replace M1 := kept (M1.out.below0 k)
      replace HW := kept (below_next HW.out k)
      clear k
      go_upto_region 4 with (fail)
      go_wp2_with (refine wpList_load_row_w (by rfl) 24 (.tmp 1) rfl w.heap.size rfl 24 #[.string R, .slice AA L.length c] (0, 0) _ H1.out Try.underlying24 rfl (by rw [nm_size]; rfl) ?_)
      refine (HBY.out W3 M1.out).mono ?_
      rintro e W4 ⟨v4, rfl, ho4, k⟩
      obtain ⟨A4, q4, c4, hv4, hc4, _, hm4, _, _⟩ := ho4.form
      rw [HBL.out] at hv4 hc4
      subst hv4
      have M4 := kept hm4
      clear ho4 hm4 hc4 HBY HTX
      replace H1 := kept (H1.out.below k H1.out.lt)
      replace M1 := kept (M1.out.below0 k)
      replace HW := kept (below_next HW.out k)
      clear k
      go_upto_region 5 with (fail)
      have R1 := kept (show ∀ w', Below W4.heap.size W4 w' → w'.rangeAt w.heap.size 0 #[.string R, .slice AA L.length c].toList from fun w' h => blk_range (H1.out.below h H1.out.lt))
      refine wp_region_flow 17 (fun w' => Below W4.heap.size W4 w') [fun v _ => v = .agg (#[.string R, .slice AA L.length c]), fun v _ => v = .bool false, fun v _ => v = .agg (#[.string R, .slice AA L.length c]), fun v _ => v = .bool false, fun v _ => v = .bool false, fun v _ => v = .bool false, fun v _ => v = .string T, fun v _ => v = .agg (#[.string R, .slice AA L.length c]), fun v _ => v = .string T, fun v _ => v = .bool false, fun v _ => v = .bool false, fun v _ => v = .bool false, fun v _ => v = .bool false, fun v _ => v = .agg (#[.string R, .slice AA L.length c]), fun v _ => v = .bool false, fun v _ => v = .bool false, fun v _ => v = .bool false] (by kernel_rfl) (by kernel_rfl) rfl (Below.refl _ W4).drew (fun _ _ h k => below_next h k) ?_ ?_ ?_
      · exact stable_cons (stable_eq _) (stable_cons (stable_eq _) (stable_cons (stable_eq _) (stable_cons (stable_eq _) (stable_cons (stable_eq _) (stable_cons (stable_eq _) (stable_cons (stable_eq _) (stable_cons (stable_eq _) (stable_cons (stable_eq _) (stable_cons (stable_eq _) (stable_cons (stable_eq _) (stable_cons (stable_eq _) (stable_cons (stable_eq _) (stable_cons (stable_eq _) (stable_cons (stable_eq _) (stable_cons (stable_eq _) (stable_cons (stable_eq _) (stable_nil)))))))))))))))))
      · simp only [List.take_succ_cons, List.take_zero]
        refine OweAll.cons ?_ (OweAll.cons ?_ (OweAll.cons ?_ (OweAll.cons ?_ (OweAll.cons ?_ (OweAll.cons ?_ (OweAll.cons ?_ (OweAll.cons ?_ (OweAll.cons ?_ (OweAll.cons ?_ (OweAll.cons ?_ (OweAll.cons ?_ (OweAll.cons ?_ (OweAll.cons ?_ (OweAll.cons ?_ (OweAll.cons ?_ (OweAll.cons ?_ OweAll.nil))))))))))))))))
        · intro us w' A hA hC hd K hK
          exact flow_load (φ := fun v _ => v = .agg (#[.string R, .slice AA L.length c])) (by rw [hA]; kernel_rfl) 24 (.tmp 1) rfl w.heap.size 0 (by rw [hA]; kernel_rfl) (#[.string R, .slice AA L.length c]).toList _ (R1.out w' hC) Try.underlying24 rfl (by rw [nm_size]; rfl) rfl hK
        · intro us w' A hA hC hd K hK
          have e0 : us 0 = .agg (#[.string R, .slice AA L.length c]) := hd 0 (by kernel_rfl)
          refine flow_call 11 #[us 0] (by rw [hA]; kernel_rfl) (fun _ => by rw [hA]; kernel_rfl) ?_ hK
          rw [e0]
          exact calls_known (HVN.out w' (M1.out.below0 hC))
        · intro us w' A hA hC hd K hK
          exact flow_load (φ := fun v _ => v = .agg (#[.string R, .slice AA L.length c])) (by rw [hA]; kernel_rfl) 24 (.tmp 1) rfl w.heap.size 0 (by rw [hA]; kernel_rfl) (#[.string R, .slice AA L.length c]).toList _ (R1.out w' hC) Try.underlying24 rfl (by rw [nm_size]; rfl) rfl hK
        · intro us w' A hA hC hd K hK
          have e2 : us 2 = .agg (#[.string R, .slice AA L.length c]) := hd 2 (by kernel_rfl)
          refine flow_call 12 #[us 2] (by rw [hA]; kernel_rfl) (fun _ => by rw [hA]; kernel_rfl) ?_ hK
          rw [e2]
          exact calls_known (HVR.out w' (M1.out.below0 hC))
        · intro us w' A hA hC hd K hK
          have e1 : us 1 = .bool false := hd 1 (by kernel_rfl)
          have e3 : us 3 = .bool false := hd 3 (by kernel_rfl)
          have ev27 : A.tmps[27]?.getD undef = us 1 := by rw [hA]; kernel_rfl
          rw [e1] at ev27
          have ev29 : A.tmps[29]?.getD undef = us 3 := by rw [hA]; kernel_rfl
          rw [e3] at ev29
          refine flow_value (.bool false) (by rw [hA]; kernel_rfl) ?_ rfl hK
          clear hA hd hK
          go_simp
        · intro us w' A hA hC hd K hK
          have e4 : us 4 = .bool false := hd 4 (by kernel_rfl)
          have ev30 : A.tmps[30]?.getD undef = us 4 := by rw [hA]; kernel_rfl
          rw [e4] at ev30
          refine flow_value (.bool false) (by rw [hA]; kernel_rfl) ?_ rfl hK
          clear hA hd hK
          go_simp
        · intro us w' A hA hC hd K hK
          have e5 : us 5 = .bool false := hd 5 (by kernel_rfl)
          have gv : A.tmps[31]? = some (us 5) := by rw [hA]; kernel_rfl
          rw [e5] at gv
          exact flow_value (.string T) (by rw [guard_known 5 false false 31 rfl rfl gv]; rfl) (by rw [hA]; kernel_rfl) rfl hK
        · intro us w' A hA hC hd K hK
          have e5 : us 5 = .bool false := hd 5 (by kernel_rfl)
          have gv : A.tmps[31]? = some (us 5) := by rw [hA]; kernel_rfl
          rw [e5] at gv
          exact flow_load (φ := fun v _ => v = .agg (#[.string R, .slice AA L.length c])) (by rw [guard_known 5 false false 31 rfl rfl gv]; rfl) 24 (.tmp 1) rfl w.heap.size 0 (by rw [hA]; kernel_rfl) (#[.string R, .slice AA L.length c]).toList _ (R1.out w' hC) Try.underlying24 rfl (by rw [nm_size]; rfl) rfl hK
        · intro us w' A hA hC hd K hK
          have e7 : us 7 = .agg (#[.string R, .slice AA L.length c]) := hd 7 (by kernel_rfl)
          have e5 : us 5 = .bool false := hd 5 (by kernel_rfl)
          have gv : A.tmps[31]? = some (us 5) := by rw [hA]; kernel_rfl
          rw [e5] at gv
          refine flow_call 13 #[us 7] (by rw [guard_known 5 false false 31 rfl rfl gv]; rfl) (fun _ => by rw [hA]; kernel_rfl) ?_ hK
          rw [e7]
          exact calls_known (HRX.out w' (M1.out.below0 hC))
        · intro us w' A hA hC hd K hK
          have e6 : us 6 = .string T := hd 6 (by kernel_rfl)
          have e8 : us 8 = .string T := hd 8 (by kernel_rfl)
          have e5 : us 5 = .bool false := hd 5 (by kernel_rfl)
          have gv : A.tmps[31]? = some (us 5) := by rw [hA]; kernel_rfl
          rw [e5] at gv
          have ev32 : A.tmps[32]?.getD undef = us 6 := by rw [hA]; kernel_rfl
          rw [e6] at ev32
          have ev34 : A.tmps[34]?.getD undef = us 8 := by rw [hA]; kernel_rfl
          rw [e8] at ev34
          refine flow_value (.bool false) (by rw [guard_known 5 false false 31 rfl rfl gv]; rfl) ?_ rfl hK
          clear hA hd hK gv
          go_simp
        · intro us w' A hA hC hd K hK
          have e5 : us 5 = .bool false := hd 5 (by kernel_rfl)
          have e9 : us 9 = .bool false := hd 9 (by kernel_rfl)
          have ev31 : A.tmps[31]?.getD undef = us 5 := by rw [hA]; kernel_rfl
          rw [e5] at ev31
          have ev35 : A.tmps[35]?.getD undef = us 9 := by rw [hA]; kernel_rfl
          rw [e9] at ev35
          refine flow_value (.bool false) (by rw [hA]; kernel_rfl) ?_ rfl hK
          clear hA hd hK
          go_simp
        · intro us w' A hA hC hd K hK
          have e10 : us 10 = .bool false := hd 10 (by kernel_rfl)
          have ev36 : A.tmps[36]?.getD undef = us 10 := by rw [hA]; kernel_rfl
          rw [e10] at ev36
          refine flow_value (.bool false) (by rw [hA]; kernel_rfl) ?_ rfl hK
          clear hA hd hK
          go_simp
        · intro us w' A hA hC hd K hK
          have e11 : us 11 = .bool false := hd 11 (by kernel_rfl)
          have gv : A.tmps[37]? = some (us 11) := by rw [hA]; kernel_rfl
          rw [e11] at gv
          exact flow_value (.bool false) (by rw [guard_known 11 false false 37 rfl rfl gv]; rfl) (by rw [hA]; kernel_rfl) rfl hK
        · intro us w' A hA hC hd K hK
          have e11 : us 11 = .bool false := hd 11 (by kernel_rfl)
          have gv : A.tmps[37]? = some (us 11) := by rw [hA]; kernel_rfl
          rw [e11] at gv
          exact flow_load (φ := fun v _ => v = .agg (#[.string R, .slice AA L.length c])) (by rw [guard_known 11 false false 37 rfl rfl gv]; rfl) 24 (.tmp 1) rfl w.heap.size 0 (by rw [hA]; kernel_rfl) (#[.string R, .slice AA L.length c]).toList _ (R1.out w' hC) Try.underlying24 rfl (by rw [nm_size]; rfl) rfl hK
        · intro us w' A hA hC hd K hK
          have e13 : us 13 = .agg (#[.string R, .slice AA L.length c]) := hd 13 (by kernel_rfl)
          have e11 : us 11 = .bool false := hd 11 (by kernel_rfl)
          have gv : A.tmps[37]? = some (us 11) := by rw [hA]; kernel_rfl
          rw [e11] at gv
          refine flow_call 12 #[us 13] (by rw [guard_known 11 false false 37 rfl rfl gv]; rfl) (fun _ => by rw [hA]; kernel_rfl) ?_ hK
          rw [e13]
          exact calls_known (HVR.out w' (M1.out.below0 hC))
        · intro us w' A hA hC hd K hK
          have e12 : us 12 = .bool false := hd 12 (by kernel_rfl)
          have e14 : us 14 = .bool false := hd 14 (by kernel_rfl)
          have e11 : us 11 = .bool false := hd 11 (by kernel_rfl)
          have gv : A.tmps[37]? = some (us 11) := by rw [hA]; kernel_rfl
          rw [e11] at gv
          have ev38 : A.tmps[38]?.getD undef = us 12 := by rw [hA]; kernel_rfl
          rw [e12] at ev38
          have ev40 : A.tmps[40]?.getD undef = us 14 := by rw [hA]; kernel_rfl
          rw [e14] at ev40
          refine flow_value (.bool false) (by rw [guard_known 11 false false 37 rfl rfl gv]; rfl) ?_ rfl hK
          clear hA hd hK gv
          go_simp
        · intro us w' A hA hC hd K hK
          have e11 : us 11 = .bool false := hd 11 (by kernel_rfl)
          have e15 : us 15 = .bool false := hd 15 (by kernel_rfl)
          have ev37 : A.tmps[37]?.getD undef = us 11 := by rw [hA]; kernel_rfl
          rw [e11] at ev37
          have ev41 : A.tmps[41]?.getD undef = us 15 := by rw [hA]; kernel_rfl
          rw [e15] at ev41
          refine flow_value (.bool false) (by rw [hA]; kernel_rfl) ?_ rfl hK
          clear hA hd hK
          go_simp
      · intro us w' A hA hC hd
        subst hA
        have e0 : us 0 = .agg (#[.string R, .slice AA L.length c]) := hd 0 (by omega)
        have e1 : us 1 = .bool false := hd 1 (by omega)
        have e2 : us 2 = .agg (#[.string R, .slice AA L.length c]) := hd 2 (by omega)
        have e3 : us 3 = .bool false := hd 3 (by omega)
        have e4 : us 4 = .bool false := hd 4 (by omega)
        have e5 : us 5 = .bool false := hd 5 (by omega)
        have e6 : us 6 = .string T := hd 6 (by omega)
        have e7 : us 7 = .agg (#[.string R, .slice AA L.length c]) := hd 7 (by omega)
        have e8 : us 8 = .string T := hd 8 (by omega)
        have e9 : us 9 = .bool false := hd 9 (by omega)
        have e10 : us 10 = .bool false := hd 10 (by omega)
        have e11 : us 11 = .bool false := hd 11 (by omega)
        have e12 : us 12 = .bool false := hd 12 (by omega)
        have e13 : us 13 = .agg (#[.string R, .slice AA L.length c]) := hd 13 (by omega)
        have e14 : us 14 = .bool false := hd 14 (by omega)
        have e15 : us 15 = .bool false := hd 15 (by omega)
        have e16 : us 16 = .bool false := hd 16 (by omega)
        simp only [List.take_succ_cons, List.take_zero, List.drop_succ_cons, List.drop_zero, fillAct, Act.put, Nat.zero_add, Nat.reduceAdd, List.setIfInBounds_toArray, List.set_cons_zero, List.set_cons_succ, e0, e1, e2, e3, e4, e5, e6, e7, e8, e9, e10, e11, e12, e13, e14, e15, e16]
        clear hd 
        replace H1 := kept (H1.out.below hC H1.out.lt)
        replace M1 := kept (M1.out.below0 hC)
        replace M4 := kept (M4.out.below0 hC)
        replace HW := kept (below_next HW.out hC)
        clear e0 e1 e2 e3 e4 e5 e6 e7 e8 e9 e10 e11 e12 e13 e14 e15 e16 HVN HVR HRX R1
        obtain ⟨W5, hW5⟩ : ∃ W5, W5 = w' := ⟨_, rfl⟩
        subst hW5
        clear hC
        go_upto_region 7 with (fail)
        go_wp2_with fail
        refine (HPA.out W5).mono ?_
        rintro e W6 ⟨v6, rfl, ho6, k⟩
        obtain ⟨A6, q6, c6, hv6, _, _, hm6⟩ := ho6.form
        rw [List.length_nil] at hv6
        subst hv6
        have M6 := kept hm6
        clear ho6 hm6
        replace H1 := kept (H1.out.below k H1.out.lt)
        replace M1 := kept (M1.out.below0 k)
        replace M4 := kept (M4.out.below0 k)
        replace HW := kept (below_next HW.out k)
        clear k
        go_upto_region 8 with (refine wpList_store_row rfl 24 (.tmp 6) (.tmp 46) rfl W6.heap.size #[.string ⟨#[]⟩, .slice A6 0 c6] rfl rfl 24 #[.string ⟨#[]⟩, .slice none 0 0] (Blk.new W6 _ _) (by rw [nm_size]; rfl) rfl (nm_one _ _ _ _) ?_)
        go_name_world W7 hW7
        have H6 := kept (show Blk W7 W6.heap.size 24 #[.string ⟨#[]⟩, .slice A6 0 c6] by rw [← hW7]; exact setRow_heap _ _ _ _ _ _ (Blk.new W6 _ _))
        have k : Below W6.heap.size W6 W7 := by rw [← hW7]; exact below_setRow ((Below.refl _ W6).alloc (Nat.le_refl _) _) (Nat.le_refl _) _
        clear hW7
        replace H1 := kept (H1.out.below k H1.out.lt)
        replace M1 := kept (M1.out.below0 k)
        replace M4 := kept (M4.out.below0 k)
        replace M6 := kept (M6.out.below0 k)
        replace HW := kept (below_next HW.out k)
        clear k
        generalize W6.heap.size = g6 at H6 ⊢
        go_wp2_with fail
        refine (new_any W7 q4 A4 0 c4 ([] : List UInt8) HBL.out.symm M4.out (by have := HB1.out; omega)).mono ?_
        rintro e W8 ⟨g, qr, rfl, hrd, hlo, hhi, _, k⟩
        have HRD := kept hrd
        have HG := kept (Nat.le_trans HW.out.size hlo)
        have hh1 := H1.out.lt
        have hh6 := H6.out.lt
        have HX := kept (show w.heap.size < g ∧ g6 < g from ⟨by omega, by omega⟩)
        have HXM := kept (show (∀ L : List ByteArray, L ≠ [] → ∀ q A, MemS W7 q A L → q ≠ g) ∧ (([] : List UInt8) ≠ [] → q4 ≠ g) from ⟨fun L h q A hm e => by have := hm.lt h; omega, fun h e => by have := M4.out.lt h; omega⟩)
        have M1o := M1
        have M6o := M6
        clear hrd hlo hhi hh1 hh6
        replace H1 := kept (H1.out.below k H1.out.lt)
        replace H6 := kept (H6.out.below k H6.out.lt)
        replace M1 := kept (M1.out.below0 k)
        replace M4 := kept (M4.out.below0 k)
        replace M6 := kept (M6.out.below0 k)
        replace HW := kept (below_next HW.out k)
        clear k
        go_upto_region 11 with (fail)
        go_wp2_with fail
        refine (nread_any W8 g qr ([] : List UInt8) HRD.out (by have := HB1.out; omega)).mono ?_
        rw [HZO.out, HZB.out]
        rintro e W9 ⟨v9, b9, l9, rfl, ho9, hrd9, heq, k⟩
        have HEQ := kept heq
        replace HRD := kept hrd9
        replace H1 := kept (H1.out.grown k (fun e => by injection e with e; have := HX.out.1; omega))
        replace H6 := kept (H6.out.grown k (fun e => by injection e with e; have := HX.out.2; omega))
        replace M1 := kept (show MemS W9 q AA L from if hL : L = [] then .inl hL else M1.out.grown k (fun e => by injection e with e; exact HXM.out.1 L hL q AA M1o.out e))
        replace M4 := kept (show Mem W9 q4 A4 ([] : List UInt8) from if hB : ([] : List UInt8) = [] then .inl hB else M4.out.grown k (fun e => by injection e with e; exact HXM.out.2 hB e))
        replace M6 := kept (show MemS W9 q6 A6 [] from if hL : [] = [] then .inl hL else M6.out.grown k (fun e => by injection e with e; exact HXM.out.1 [] hL q6 A6 M6o.out e))
        replace HW := kept (HW.out.grown k HW.out.size (fun j hj => by injection hj with hj; have := HG.out; omega))
        clear HX HXM HG M1o M6o
        obtain ⟨A9, q9, c9, hv9, _, _, hm9⟩ := ho9.form
        rw [List.length_nil] at hv9
        subst hv9
        have M9 := kept hm9
        clear ho9 hm9 hrd9 heq k
        go_upto_region 12 with (refine wpList_store_row rfl 24 (.tmp 9) (.tmp 55) rfl W9.heap.size #[.string ⟨#[]⟩, .slice A9 0 c9] rfl rfl 24 #[.string ⟨#[]⟩, .slice none 0 0] (Blk.new W9 _ _) (by rw [nm_size]; rfl) rfl (nm_one _ _ _ _) ?_)
        go_name_world W10 hW10
        have H9 := kept (show Blk W10 W9.heap.size 24 #[.string ⟨#[]⟩, .slice A9 0 c9] by rw [← hW10]; exact setRow_heap _ _ _ _ _ _ (Blk.new W9 _ _))
        have k : Below W9.heap.size W9 W10 := by rw [← hW10]; exact below_setRow ((Below.refl _ W9).alloc (Nat.le_refl _) _) (Nat.le_refl _) _
        clear hW10
        replace HRD := kept (HRD.out.below k)
        replace H1 := kept (H1.out.below k H1.out.lt)
        replace H6 := kept (H6.out.below k H6.out.lt)
        replace M1 := kept (M1.out.below0 k)
        replace M4 := kept (M4.out.below0 k)
        replace M6 := kept (M6.out.below0 k)
        replace M9 := kept (M9.out.below0 k)
        replace HW := kept (below_next HW.out k)
        clear k
        generalize W9.heap.size = g9 at H9 ⊢
        go_wp2_with fail
        go_ret
        exact ⟨rfl, HW.out⟩
  | true =>
    rw [parseL_textL _ hV] at HPA
    simp only [Option.getD_some, Option.isSome_some] at HPA
    obtain ⟨hr1, hr2, hr3⟩ := read_some _ hV
    have hbn : bytesN (R, L) = bytesO (R, L) := by unfold bytesO; rw [if_pos hV]
    obtain ⟨B, hB⟩ : ∃ B, bytesO (R, L) = B := ⟨_, rfl⟩
    rw [hB] at hr1 hr2 hr3 hbo hbn
    obtain ⟨nb, hnb⟩ : ∃ nb, B.length = nb := ⟨_, rfl⟩
    have HB := kept hB
    have HBL := kept hnb
    have HB1 := kept hbo
    have HZB := kept hr2
    have HZO := kept hr3
    have HRN := kept hr1
    have HBN := kept hbn
    have HV := kept hV
    clear hts hbo hT hTL hB hnb hr1 hr2 hr3 hbn hV
    go_enter Try.func3, Try.ntmps3
    go_upto_region 1 with (fail)
    go_name_world W0 hW0
    have H1 := kept (show Blk W0 w.heap.size 24 #[.string R, .slice AA L.length c] by rw [← hW0]; exact Blk.new w _ _)
    have HW := kept (show Below w.heap.size w W0 by rw [← hW0]; exact (Below.refl _ w).alloc (Nat.le_refl _) _)
    replace M1 := kept (M1.out.below0 HW.out)
    clear hW0
    go_wp2_with fail
    refine (nawake_any W0).mono ?_
    rintro e W1 ⟨rfl, k⟩
    replace H1 := kept (H1.out.below k H1.out.lt)
    replace M1 := kept (M1.out.below0 k)
    replace HW := kept (below_next HW.out k)
    clear k
    go_wp2_with (refine wpList_load_row_w (by rfl) 24 (.tmp 1) rfl w.heap.size rfl 24 #[.string R, .slice AA L.length c] (0, 0) _ H1.out Try.underlying24 rfl (by rw [nm_size]; rfl) ?_)
    refine (refew_any W1 R L q AA c (by have := HL.out; unfold maxLen at this; omega) M1.out).mono ?_
    rintro e W2 ⟨rfl, k⟩
    replace H1 := kept (H1.out.below k H1.out.lt)
    replace M1 := kept (M1.out.below0 k)
    replace HW := kept (below_next HW.out k)
    clear k
    cases h : isF (R, L) with
    | false =>
      clear h
      go_wp2_with fail
      refine (nawake_any W2).mono ?_
      rintro e W9 ⟨rfl, k⟩
      replace HW := kept (below_next HW.out k)
      clear k
      go_wp2_with fail
      go_ret
      exact ⟨rfl, HW.out⟩
    | true =>
      clear h
      have HTX := kept (fun (w' : World) (h : MemS w' q AA L) => show Calls Try.prog 9 #[.agg #[.string R, .slice AA L.length c]] w' fun e w2 => e = .returned (.string T) ∧ Below w'.heap.size w' w2 by rw [← HT.out]; exact ntext_any w' R L q AA c HR.out HS.out HL.out h)
      have HRX := kept (fun (w' : World) (h : MemS w' q AA L) => show Calls Try.prog 13 #[.agg #[.string R, .slice AA L.length c]] w' fun e w2 => e = .returned (.string T) ∧ Below w'.heap.size w' w2 by rw [← HT.out]; exact retext_any w' R L q AA c HR.out HS.out (by have := HL.out; unfold maxLen at this; omega) h)
      have HVN := kept (fun (w' : World) (h : MemS w' q AA L) => show Calls Try.prog 11 #[.agg #[.string R, .slice AA L.length c]] w' fun e w2 => e = .returned (.bool true) ∧ Below w'.heap.size w' w2 by rw [← HV.out]; exact nvalid_any w' R L q AA c HR.out HS.out HL.out h)
      have HVR := kept (fun (w' : World) (h : MemS w' q AA L) => show Calls Try.prog 12 #[.agg #[.string R, .slice AA L.length c]] w' fun e w2 => e = .returned (.bool true) ∧ Below w'.heap.size w' w2 by rw [← HV.out]; exact revalid_any w' R L q AA c HR.out HS.out (by have := HL.out; unfold maxLen at this; omega) h)
      have HBY := kept (fun (w' : World) (h : MemS w' q AA L) => show Calls Try.prog 10 #[.agg #[.string R, .slice AA L.length c]] w' fun e w2 => ∃ v, e = .returned (.tuple #[v, .bool true]) ∧ Own w2 w'.heap.size v B ∧ Below w'.heap.size w' w2 by rw [← HV.out, ← HB.out]; exact nbytes_any w' R L q AA c HR.out HS.out HL.out h)
      go_upto_region 3 with (fail)
      go_wp2_with (refine wpList_load_row_w (by rfl) 24 (.tmp 1) rfl w.heap.size rfl 24 #[.string R, .slice AA L.length c] (0, 0) _ H1.out Try.underlying24 rfl (by rw [nm_size]; rfl) ?_)
      refine (HTX.out W2 M1.out).mono ?_
      rintro e W3 ⟨rfl, k⟩
      replace H1 := kept (H1.out.below k H1.out.lt)
      replace M1 := kept (M1.out.below0 k)
      replace HW := kept (below_next HW.out k)
      clear k
      go_upto_region 4 with (fail)
      go_wp2_with (refine wpList_load_row_w (by rfl) 24 (.tmp 1) rfl w.heap.size rfl 24 #[.string R, .slice AA L.length c] (0, 0) _ H1.out Try.underlying24 rfl (by rw [nm_size]; rfl) ?_)
      refine (HBY.out W3 M1.out).mono ?_
      rintro e W4 ⟨v4, rfl, ho4, k⟩
      obtain ⟨A4, q4, c4, hv4, hc4, _, hm4, _, _⟩ := ho4.form
      rw [HBL.out] at hv4 hc4
      subst hv4
      have M4 := kept hm4
      clear ho4 hm4 hc4 HBY HTX
      replace H1 := kept (H1.out.below k H1.out.lt)
      replace M1 := kept (M1.out.below0 k)
      replace HW := kept (below_next HW.out k)
      clear k
      go_upto_region 5 with (fail)
      have R1 := kept (show ∀ w', Below W4.heap.size W4 w' → w'.rangeAt w.heap.size 0 #[.string R, .slice AA L.length c].toList from fun w' h => blk_range (H1.out.below h H1.out.lt))
      refine wp_region_flow 17 (fun w' => Below W4.heap.size W4 w') [fun v _ => v = .agg (#[.string R, .slice AA L.length c]), fun v _ => v = .bool true, fun v _ => v = .agg (#[.string R, .slice AA L.length c]), fun v _ => v = .bool true, fun v _ => v = .bool false, fun v _ => v = .bool false, fun v _ => v = .string T, fun v _ => v = .agg (#[.string R, .slice AA L.length c]), fun v _ => v = .string T, fun v _ => v = .bool false, fun v _ => v = .bool false, fun v _ => v = .bool false, fun v _ => v = .bool true, fun v _ => v = .agg (#[.string R, .slice AA L.length c]), fun v _ => v = .bool true, fun v _ => v = .bool false, fun v _ => v = .bool false] (by kernel_rfl) (by kernel_rfl) rfl (Below.refl _ W4).drew (fun _ _ h k => below_next h k) ?_ ?_ ?_
      · exact stable_cons (stable_eq _) (stable_cons (stable_eq _) (stable_cons (stable_eq _) (stable_cons (stable_eq _) (stable_cons (stable_eq _) (stable_cons (stable_eq _) (stable_cons (stable_eq _) (stable_cons (stable_eq _) (stable_cons (stable_eq _) (stable_cons (stable_eq _) (stable_cons (stable_eq _) (stable_cons (stable_eq _) (stable_cons (stable_eq _) (stable_cons (stable_eq _) (stable_cons (stable_eq _) (stable_cons (stable_eq _) (stable_cons (stable_eq _) (stable_nil)))))))))))))))))
      · simp only [List.take_succ_cons, List.take_zero]
        refine OweAll.cons ?_ (OweAll.cons ?_ (OweAll.cons ?_ (OweAll.cons ?_ (OweAll.cons ?_ (OweAll.cons ?_ (OweAll.cons ?_ (OweAll.cons ?_ (OweAll.cons ?_ (OweAll.cons ?_ (OweAll.cons ?_ (OweAll.cons ?_ (OweAll.cons ?_ (OweAll.cons ?_ (OweAll.cons ?_ (OweAll.cons ?_ (OweAll.cons ?_ OweAll.nil))))))))))))))))
        · intro us w' A hA hC hd K hK
          exact flow_load (φ := fun v _ => v = .agg (#[.string R, .slice AA L.length c])) (by rw [hA]; kernel_rfl) 24 (.tmp 1) rfl w.heap.size 0 (by rw [hA]; kernel_rfl) (#[.string R, .slice AA L.length c]).toList _ (R1.out w' hC) Try.underlying24 rfl (by rw [nm_size]; rfl) rfl hK
        · intro us w' A hA hC hd K hK
          have e0 : us 0 = .agg (#[.string R, .slice AA L.length c]) := hd 0 (by kernel_rfl)
          refine flow_call 11 #[us 0] (by rw [hA]; kernel_rfl) (fun _ => by rw [hA]; kernel_rfl) ?_ hK
          rw [e0]
          exact calls_known (HVN.out w' (M1.out.below0 hC))
        · intro us w' A hA hC hd K hK
          exact flow_load (φ := fun v _ => v = .agg (#[.string R, .slice AA L.length c])) (by rw [hA]; kernel_rfl) 24 (.tmp 1) rfl w.heap.size 0 (by rw [hA]; kernel_rfl) (#[.string R, .slice AA L.length c]).toList _ (R1.out w' hC) Try.underlying24 rfl (by rw [nm_size]; rfl) rfl hK
        · intro us w' A hA hC hd K hK
          have e2 : us 2 = .agg (#[.string R, .slice AA L.length c]) := hd 2 (by kernel_rfl)
          refine flow_call 12 #[us 2] (by rw [hA]; kernel_rfl) (fun _ => by rw [hA]; kernel_rfl) ?_ hK
          rw [e2]
          exact calls_known (HVR.out w' (M1.out.below0 hC))
        · intro us w' A hA hC hd K hK
          have e1 : us 1 = .bool true := hd 1 (by kernel_rfl)
          have e3 : us 3 = .bool true := hd 3 (by kernel_rfl)
          have ev27 : A.tmps[27]?.getD undef = us 1 := by rw [hA]; kernel_rfl
          rw [e1] at ev27
          have ev29 : A.tmps[29]?.getD undef = us 3 := by rw [hA]; kernel_rfl
          rw [e3] at ev29
          refine flow_value (.bool false) (by rw [hA]; kernel_rfl) ?_ rfl hK
          clear hA hd hK
          go_simp
        · intro us w' A hA hC hd K hK
          have e4 : us 4 = .bool false := hd 4 (by kernel_rfl)
          have ev30 : A.tmps[30]?.getD undef = us 4 := by rw [hA]; kernel_rfl
          rw [e4] at ev30
          refine flow_value (.bool false) (by rw [hA]; kernel_rfl) ?_ rfl hK
          clear hA hd hK
          go_simp
        · intro us w' A hA hC hd K hK
          have e5 : us 5 = .bool false := hd 5 (by kernel_rfl)
          have gv : A.tmps[31]? = some (us 5) := by rw [hA]; kernel_rfl
          rw [e5] at gv
          exact flow_value (.string T) (by rw [guard_known 5 false false 31 rfl rfl gv]; rfl) (by rw [hA]; kernel_rfl) rfl hK
        · intro us w' A hA hC hd K hK
          have e5 : us 5 = .bool false := hd 5 (by kernel_rfl)
          have gv : A.tmps[31]? = some (us 5) := by rw [hA]; kernel_rfl
          rw [e5] at gv
          exact flow_load (φ := fun v _ => v = .agg (#[.string R, .slice AA L.length c])) (by rw [guard_known 5 false false 31 rfl rfl gv]; rfl) 24 (.tmp 1) rfl w.heap.size 0 (by rw [hA]; kernel_rfl) (#[.string R, .slice AA L.length c]).toList _ (R1.out w' hC) Try.underlying24 rfl (by rw [nm_size]; rfl) rfl hK
        · intro us w' A hA hC hd K hK
          have e7 : us 7 = .agg (#[.string R, .slice AA L.length c]) := hd 7 (by kernel_rfl)
          have e5 : us 5 = .bool false := hd 5 (by kernel_rfl)
          have gv : A.tmps[31]? = some (us 5) := by rw [hA]; kernel_rfl
          rw [e5] at gv
          refine flow_call 13 #[us 7] (by rw [guard_known 5 false false 31 rfl rfl gv]; rfl) (fun _ => by rw [hA]; kernel_rfl) ?_ hK
          rw [e7]
          exact calls_known (HRX.out w' (M1.out.below0 hC))
        · intro us w' A hA hC hd K hK
          have e6 : us 6 = .string T := hd 6 (by kernel_rfl)
          have e8 : us 8 = .string T := hd 8 (by kernel_rfl)
          have e5 : us 5 = .bool false := hd 5 (by kernel_rfl)
          have gv : A.tmps[31]? = some (us 5) := by rw [hA]; kernel_rfl
          rw [e5] at gv
          have ev32 : A.tmps[32]?.getD undef = us 6 := by rw [hA]; kernel_rfl
          rw [e6] at ev32
          have ev34 : A.tmps[34]?.getD undef = us 8 := by rw [hA]; kernel_rfl
          rw [e8] at ev34
          refine flow_value (.bool false) (by rw [guard_known 5 false false 31 rfl rfl gv]; rfl) ?_ rfl hK
          clear hA hd hK gv
          go_simp
        · intro us w' A hA hC hd K hK
          have e5 : us 5 = .bool false := hd 5 (by kernel_rfl)
          have e9 : us 9 = .bool false := hd 9 (by kernel_rfl)
          have ev31 : A.tmps[31]?.getD undef = us 5 := by rw [hA]; kernel_rfl
          rw [e5] at ev31
          have ev35 : A.tmps[35]?.getD undef = us 9 := by rw [hA]; kernel_rfl
          rw [e9] at ev35
          refine flow_value (.bool false) (by rw [hA]; kernel_rfl) ?_ rfl hK
          clear hA hd hK
          go_simp
        · intro us w' A hA hC hd K hK
          have e10 : us 10 = .bool false := hd 10 (by kernel_rfl)
          have ev36 : A.tmps[36]?.getD undef = us 10 := by rw [hA]; kernel_rfl
          rw [e10] at ev36
          refine flow_value (.bool false) (by rw [hA]; kernel_rfl) ?_ rfl hK
          clear hA hd hK
          go_simp
        · intro us w' A hA hC hd K hK
          have e11 : us 11 = .bool false := hd 11 (by kernel_rfl)
          have gv : A.tmps[37]? = some (us 11) := by rw [hA]; kernel_rfl
          rw [e11] at gv
          exact flow_value (.bool true) (by rw [guard_known 11 false false 37 rfl rfl gv]; rfl) (by rw [hA]; kernel_rfl) rfl hK
        · intro us w' A hA hC hd K hK
          have e11 : us 11 = .bool false := hd 11 (by kernel_rfl)
          have gv : A.tmps[37]? = some (us 11) := by rw [hA]; kernel_rfl
          rw [e11] at gv
          exact flow_load (φ := fun v _ => v = .agg (#[.string R, .slice AA L.length c])) (by rw [guard_known 11 false false 37 rfl rfl gv]; rfl) 24 (.tmp 1) rfl w.heap.size 0 (by rw [hA]; kernel_rfl) (#[.string R, .slice AA L.length c]).toList _ (R1.out w' hC) Try.underlying24 rfl (by rw [nm_size]; rfl) rfl hK
        · intro us w' A hA hC hd K hK
          have e13 : us 13 = .agg (#[.string R, .slice AA L.length c]) := hd 13 (by kernel_rfl)
          have e11 : us 11 = .bool false := hd 11 (by kernel_rfl)
          have gv : A.tmps[37]? = some (us 11) := by rw [hA]; kernel_rfl
          rw [e11] at gv
          refine flow_call 12 #[us 13] (by rw [guard_known 11 false false 37 rfl rfl gv]; rfl) (fun _ => by rw [hA]; kernel_rfl) ?_ hK
          rw [e13]
          exact calls_known (HVR.out w' (M1.out.below0 hC))
        · intro us w' A hA hC hd K hK
          have e12 : us 12 = .bool true := hd 12 (by kernel_rfl)
          have e14 : us 14 = .bool true := hd 14 (by kernel_rfl)
          have e11 : us 11 = .bool false := hd 11 (by kernel_rfl)
          have gv : A.tmps[37]? = some (us 11) := by rw [hA]; kernel_rfl
          rw [e11] at gv
          have ev38 : A.tmps[38]?.getD undef = us 12 := by rw [hA]; kernel_rfl
          rw [e12] at ev38
          have ev40 : A.tmps[40]?.getD undef = us 14 := by rw [hA]; kernel_rfl
          rw [e14] at ev40
          refine flow_value (.bool false) (by rw [guard_known 11 false false 37 rfl rfl gv]; rfl) ?_ rfl hK
          clear hA hd hK gv
          go_simp
        · intro us w' A hA hC hd K hK
          have e11 : us 11 = .bool false := hd 11 (by kernel_rfl)
          have e15 : us 15 = .bool false := hd 15 (by kernel_rfl)
          have ev37 : A.tmps[37]?.getD undef = us 11 := by rw [hA]; kernel_rfl
          rw [e11] at ev37
          have ev41 : A.tmps[41]?.getD undef = us 15 := by rw [hA]; kernel_rfl
          rw [e15] at ev41
          refine flow_value (.bool false) (by rw [hA]; kernel_rfl) ?_ rfl hK
          clear hA hd hK
          go_simp
      · intro us w' A hA hC hd
        subst hA
        have e0 : us 0 = .agg (#[.string R, .slice AA L.length c]) := hd 0 (by omega)
        have e1 : us 1 = .bool true := hd 1 (by omega)
        have e2 : us 2 = .agg (#[.string R, .slice AA L.length c]) := hd 2 (by omega)
        have e3 : us 3 = .bool true := hd 3 (by omega)
        have e4 : us 4 = .bool false := hd 4 (by omega)
        have e5 : us 5 = .bool false := hd 5 (by omega)
        have e6 : us 6 = .string T := hd 6 (by omega)
        have e7 : us 7 = .agg (#[.string R, .slice AA L.length c]) := hd 7 (by omega)
        have e8 : us 8 = .string T := hd 8 (by omega)
        have e9 : us 9 = .bool false := hd 9 (by omega)
        have e10 : us 10 = .bool false := hd 10 (by omega)
        have e11 : us 11 = .bool false := hd 11 (by omega)
        have e12 : us 12 = .bool true := hd 12 (by omega)
        have e13 : us 13 = .agg (#[.string R, .slice AA L.length c]) := hd 13 (by omega)
        have e14 : us 14 = .bool true := hd 14 (by omega)
        have e15 : us 15 = .bool false := hd 15 (by omega)
        have e16 : us 16 = .bool false := hd 16 (by omega)
        simp only [List.take_succ_cons, List.take_zero, List.drop_succ_cons, List.drop_zero, fillAct, Act.put, Nat.zero_add, Nat.reduceAdd, List.setIfInBounds_toArray, List.set_cons_zero, List.set_cons_succ, e0, e1, e2, e3, e4, e5, e6, e7, e8, e9, e10, e11, e12, e13, e14, e15, e16]
        clear hd 
        replace H1 := kept (H1.out.below hC H1.out.lt)
        replace M1 := kept (M1.out.below0 hC)
        replace M4 := kept (M4.out.below0 hC)
        replace HW := kept (below_next HW.out hC)
        clear e0 e1 e2 e3 e4 e5 e6 e7 e8 e9 e10 e11 e12 e13 e14 e15 e16 HVN HVR HRX R1
        obtain ⟨W5, hW5⟩ : ∃ W5, W5 = w' := ⟨_, rfl⟩
        subst hW5
        clear hC
        go_upto_region 7 with (fail)
        go_wp2_with fail
        refine (HPA.out W5).mono ?_
        rintro e W6 ⟨v6, rfl, ho6, k⟩
        obtain ⟨A6, q6, c6, hv6, _, _, hm6⟩ := ho6.form
        subst hv6
        have M6 := kept hm6
        clear ho6 hm6
        replace H1 := kept (H1.out.below k H1.out.lt)
        replace M1 := kept (M1.out.below0 k)
        replace M4 := kept (M4.out.below0 k)
        replace HW := kept (below_next HW.out k)
        clear k
        go_upto_region 8 with (refine wpList_store_row rfl 24 (.tmp 6) (.tmp 46) rfl W6.heap.size #[.string R, .slice A6 L.length c6] rfl rfl 24 #[.string ⟨#[]⟩, .slice none 0 0] (Blk.new W6 _ _) (by rw [nm_size]; rfl) rfl (nm_one _ _ _ _) ?_)
        go_name_world W7 hW7
        have H6 := kept (show Blk W7 W6.heap.size 24 #[.string R, .slice A6 L.length c6] by rw [← hW7]; exact setRow_heap _ _ _ _ _ _ (Blk.new W6 _ _))
        have k : Below W6.heap.size W6 W7 := by rw [← hW7]; exact below_setRow ((Below.refl _ W6).alloc (Nat.le_refl _) _) (Nat.le_refl _) _
        clear hW7
        replace H1 := kept (H1.out.below k H1.out.lt)
        replace M1 := kept (M1.out.below0 k)
        replace M4 := kept (M4.out.below0 k)
        replace M6 := kept (M6.out.below0 k)
        replace HW := kept (below_next HW.out k)
        clear k
        generalize W6.heap.size = g6 at H6 ⊢
        go_wp2_with fail
        refine (new_any W7 q4 A4 nb c4 B HBL.out.symm M4.out (by have := HB1.out; omega)).mono ?_
        rintro e W8 ⟨g, qr, rfl, hrd, hlo, hhi, _, k⟩
        have HRD := kept hrd
        have HG := kept (Nat.le_trans HW.out.size hlo)
        have hh1 := H1.out.lt
        have hh6 := H6.out.lt
        have HX := kept (show w.heap.size < g ∧ g6 < g from ⟨by omega, by omega⟩)
        have HXM := kept (show (∀ L : List ByteArray, L ≠ [] → ∀ q A, MemS W7 q A L → q ≠ g) ∧ (B ≠ [] → q4 ≠ g) from ⟨fun L h q A hm e => by have := hm.lt h; omega, fun h e => by have := M4.out.lt h; omega⟩)
        have M1o := M1
        have M6o := M6
        clear hrd hlo hhi hh1 hh6
        replace H1 := kept (H1.out.below k H1.out.lt)
        replace H6 := kept (H6.out.below k H6.out.lt)
        replace M1 := kept (M1.out.below0 k)
        replace M4 := kept (M4.out.below0 k)
        replace M6 := kept (M6.out.below0 k)
        replace HW := kept (below_next HW.out k)
        clear k
        go_upto_region 11 with (fail)
        go_wp2_with fail
        refine (nread_any W8 g qr B HRD.out (by have := HB1.out; omega)).mono ?_
        rw [HZO.out, HZB.out]
        rintro e W9 ⟨v9, b9, l9, rfl, ho9, hrd9, heq, k⟩
        have HEQ := kept heq
        replace HRD := kept hrd9
        replace H1 := kept (H1.out.grown k (fun e => by injection e with e; have := HX.out.1; omega))
        replace H6 := kept (H6.out.grown k (fun e => by injection e with e; have := HX.out.2; omega))
        replace M1 := kept (show MemS W9 q AA L from if hL : L = [] then .inl hL else M1.out.grown k (fun e => by injection e with e; exact HXM.out.1 L hL q AA M1o.out e))
        replace M4 := kept (show Mem W9 q4 A4 B from if hB : B = [] then .inl hB else M4.out.grown k (fun e => by injection e with e; exact HXM.out.2 hB e))
        replace M6 := kept (show MemS W9 q6 A6 L from if hL : L = [] then .inl hL else M6.out.grown k (fun e => by injection e with e; exact HXM.out.1 L hL q6 A6 M6o.out e))
        replace HW := kept (HW.out.grown k HW.out.size (fun j hj => by injection hj with hj; have := HG.out; omega))
        clear HX HXM HG M1o M6o
        obtain ⟨A9, q9, c9, hv9, _, _, hm9⟩ := ho9.form
        subst hv9
        have M9 := kept hm9
        clear ho9 hm9 hrd9 heq k
        go_upto_region 12 with (refine wpList_store_row rfl 24 (.tmp 9) (.tmp 55) rfl W9.heap.size #[.string R, .slice A9 L.length c9] rfl rfl 24 #[.string ⟨#[]⟩, .slice none 0 0] (Blk.new W9 _ _) (by rw [nm_size]; rfl) rfl (nm_one _ _ _ _) ?_)
        go_name_world W10 hW10
        have H9 := kept (show Blk W10 W9.heap.size 24 #[.string R, .slice A9 L.length c9] by rw [← hW10]; exact setRow_heap _ _ _ _ _ _ (Blk.new W9 _ _))
        have k : Below W9.heap.size W9 W10 := by rw [← hW10]; exact below_setRow ((Below.refl _ W9).alloc (Nat.le_refl _) _) (Nat.le_refl _) _
        clear hW10
        replace HRD := kept (HRD.out.below k)
        replace H1 := kept (H1.out.below k H1.out.lt)
        replace H6 := kept (H6.out.below k H6.out.lt)
        replace M1 := kept (M1.out.below0 k)
        replace M4 := kept (M4.out.below0 k)
        replace M6 := kept (M6.out.below0 k)
        replace M9 := kept (M9.out.below0 k)
        replace HW := kept (below_next HW.out k)
        clear k
        generalize W9.heap.size = g9 at H9 ⊢
        go_upto_region 14 with (fail)
        have hne : (true && ([] : List UInt8).isEmpty) = true := rfl
        have hst : (b9, l9) = (false, ([] : List UInt8)) := by rw [HEQ.out trivial, HRN.out]
        obtain ⟨rfl, rfl⟩ : b9 = false ∧ l9 = [] := by injection hst with h1 h2; exact ⟨h1, h2⟩
        clear hst
        go_wp2_with (refine wpList_load_row_w (by rfl) 24 (.tmp 1) rfl w.heap.size rfl 24 #[.string R, .slice AA L.length c] (0, 0) _ H1.out Try.underlying24 rfl (by rw [nm_size]; rfl) ?_)
        refine (rebytes_any W10 R L q AA c HV.out M1.out).mono ?_
        rw [HBN.out]
        rintro e W11 ⟨v11, rfl, ho11, k⟩
        obtain ⟨A11, q11, c11, hv11, _, _, hm11, _, _⟩ := ho11.form
        rw [HBL.out] at hv11
        subst hv11
        have M11 := kept hm11
        clear ho11 hm11
        replace HRD := kept (HRD.out.below k)
        replace H1 := kept (H1.out.below k H1.out.lt)
        replace H6 := kept (H6.out.below k H6.out.lt)
        replace H9 := kept (H9.out.below k H9.out.lt)
        replace M1 := kept (M1.out.below0 k)
        replace M4 := kept (M4.out.below0 k)
        replace M6 := kept (M6.out.below0 k)
        replace M9 := kept (M9.out.below0 k)
        replace HW := kept (below_next HW.out k)
        clear k
        go_wp2_with fail
        refine (same_any W11 q4 q11 A4 A11 nb nb c4 c11 B B HBL.out.symm HBL.out.symm (by have := HB1.out; omega) M4.out M11.out).mono ?_
        rw [sameB_self]
        rintro e W12 ⟨rfl, nn, hW12⟩
        have k : Below W11.heap.size W11 W12 := by rw [hW12]; exact below_drewN (Below.refl _ W11) nn
        clear hW12 M11
        replace HRD := kept (HRD.out.below k)
        replace H1 := kept (H1.out.below k H1.out.lt)
        replace H6 := kept (H6.out.below k H6.out.lt)
        replace H9 := kept (H9.out.below k H9.out.lt)
        replace M1 := kept (M1.out.below0 k)
        replace M4 := kept (M4.out.below0 k)
        replace M6 := kept (M6.out.below0 k)
        replace M9 := kept (M9.out.below0 k)
        replace HW := kept (below_next HW.out k)
        clear k
        have HSA := kept (fun (w' : World) (A' : Option Addr) (q' c' : Nat) (h1 : MemS w' q' A' L) (h2 : MemS w' q AA L) => show Calls Try.prog 19 #[.agg #[.string R, .slice A' L.length c'], .agg #[.string R, .slice AA L.length c]] w' fun e w2 => e = .returned (.bool true) ∧ Below w'.heap.size w' w2 by
          have := resame_any w' R R L L q' q A' AA c' c (by have := HL.out; unfold maxLen at this; omega) (by have := HL.out; unfold maxLen at this; omega) h1 h2
          rw [decide_eq_true rfl] at this
          exact this)
        go_wp2_with (first | (refine wpList_load_row_w (by rfl) 24 (.tmp 6) rfl g6 rfl 24 #[.string R, .slice A6 L.length c6] (0, 0) _ H6.out Try.underlying24 rfl (by rw [nm_size]; rfl) ?_) | (refine wpList_load_row_w (by rfl) 24 (.tmp 1) rfl w.heap.size rfl 24 #[.string R, .slice AA L.length c] (0, 0) _ H1.out Try.underlying24 rfl (by rw [nm_size]; rfl) ?_))
        refine (HSA.out W12 A6 q6 c6 M6.out M1.out).mono ?_
        rintro e W13 ⟨rfl, k⟩
        replace HRD := kept (HRD.out.below k)
        replace H1 := kept (H1.out.below k H1.out.lt)
        replace H6 := kept (H6.out.below k H6.out.lt)
        replace H9 := kept (H9.out.below k H9.out.lt)
        replace M1 := kept (M1.out.below0 k)
        replace M4 := kept (M4.out.below0 k)
        replace M6 := kept (M6.out.below0 k)
        replace M9 := kept (M9.out.below0 k)
        replace HW := kept (below_next HW.out k)
        clear k
        go_wp2_with (first | (refine wpList_load_row_w (by rfl) 24 (.tmp 9) rfl g9 rfl 24 #[.string R, .slice A9 L.length c9] (0, 0) _ H9.out Try.underlying24 rfl (by rw [nm_size]; rfl) ?_) | (refine wpList_load_row_w (by rfl) 24 (.tmp 1) rfl w.heap.size rfl 24 #[.string R, .slice AA L.length c] (0, 0) _ H1.out Try.underlying24 rfl (by rw [nm_size]; rfl) ?_))
        refine (HSA.out W13 A9 q9 c9 M9.out M1.out).mono ?_
        rintro e W14 ⟨rfl, k⟩
        replace HRD := kept (HRD.out.below k)
        replace H1 := kept (H1.out.below k H1.out.lt)
        replace H6 := kept (H6.out.below k H6.out.lt)
        replace H9 := kept (H9.out.below k H9.out.lt)
        replace M1 := kept (M1.out.below0 k)
        replace M4 := kept (M4.out.below0 k)
        replace M6 := kept (M6.out.below0 k)
        replace M9 := kept (M9.out.below0 k)
        replace HW := kept (below_next HW.out k)
        clear k
        have HDN := kept (done_any W14 HRD.out)
        go_wp2_with fail
        refine (HDN.out).mono ?_
        rintro e W15 ⟨rfl, rfl⟩
        go_wp2_with fail
        go_ret
        exact ⟨rfl, HW.out⟩
set_option maxRecDepth 100000 in
theorem lifted (os : Os) (started : os.Started) (H : Type) (enc : TypeId × Value → H) :
    ReturnsInHanded {} Try.checked os 3 .any (Rows.nameMatchesReferenceSpec.pre6 enc Try.prog Try.f3 Rows.nameMatchesReferenceRow.domain false) (Rows.nameMatchesReferenceSpec.post enc Try.prog Try.f3 false true false false) := by
  refine returnsInHanded_of_change (C := Try.checked) own_knob started (by kernel_rfl) Try.func3
    (ChangeSpec.witness6 (enc := enc) (C := Try.checked) false ⟨#[], #[.agg #[.string ⟨#[]⟩, .slice none 0 0]], []⟩ 8 (by kernel_rfl) (by kernel_rfl) (by kernel_rfl) (by kernel_rfl)) ?_
  intro W base args ds gs before hval0 hW hcnd _
  have hval : ∀ (j : Nat) t v, Try.f3.params[j]? = some t → args[j]? = some v → Value.okWide Try.prog W .any base t v := hval0
  have hW' := hW
  obtain ⟨p, q, hA0, hV, rfl, hfz, hnd⟩ := hW
  have hA : DataW.TrodAll enc Try.prog W 0 (fun _ => true) true Try.f3.params.toList args.toList ds p := hA0
  rw [Try.params3] at hA hval
  obtain ⟨v0, d0, rfl, rfl, h0⟩ := trodAll_one hA
  obtain ⟨rfl, rfl⟩ := trodVars_none hV
  have hvl0 := hval 0 24 v0 rfl rfl
  obtain ⟨R, A, q, c, L, rfl, hr, hs, hl, hc, hm⟩ := open_name hvl0 h0
  clear hA0 hval0
  refine (walk_any W R L q c A hr hs (Nat.le_trans hl hc) hm).mono fun e W' ⟨he, bel⟩ => ?_
  subst he
  exact ⟨_, rfl, _, _, _, [], _, [], hW', trodAll_mk1 (shut_bool Try.underlying4 _), trodAll_mk1 (keep_arg (by kernel_rfl) (of_decide_eq_true (by kernel_rfl)) h0 bel), rfl, bel.frame _, fun h => by cases h⟩

theorem over : Rows.nameMatchesReferenceRow.holds Try.pinned (OpenSpec.ofChange Rows.nameMatchesReferenceSpec) :=
  OpenClaim.holds_of_wide 3 Try.f3 rfl rfl rfl rfl rfl rfl rfl ⟨rfl, rfl, rfl, rfl, rfl⟩ rfl rfl rfl rfl rfl (by kernel_rfl) Try.func3 (by kernel_rfl)
    (of_decide_eq_true (by kernel_rfl)) (by unfold Func.isWrapper; first | (rw [if_pos (by decide +kernel)]; kernel_rfl) | (rw [if_neg (by decide +kernel)]; exact ⟨rfl, rfl⟩))
    (fun os started H enc _ => lifted os started H enc)

/-- The statement. -/
theorem proved : Rows.NameMatchesReferenceSaid := over
#print axioms proved
end Go.Proofs.Ytnejidaplbonoaa.nameMatch
