/-
  awake of layer 11's laws, by a contract.
-/
import Derived.Test.YtnejidaplbonoaaNameCon
import Derived.Test.YtnejidaplbonoaaOwn
import Derived.Deep.Cut
import Derived.Laws.CopyOwn
namespace Go.Proofs.Ytnejidaplbonoaa
open Go.RowKit
set_option linter.unusedVariables false
set_option linter.unusedSimpArgs false

def exR : ByteArray := { data := #[82] }
def exL : List ByteArray := [{ data := #[104, 111, 115, 116] }, { data := #[97, 47, 98] }]
def exT : ByteArray := { data := #[104, 111, 115, 116, 47, 97, 92, 47, 98, 64, 82] }
theorem ex_isN : isN (exR, exL) = true := by decide +kernel
theorem ex_text : strOf (textL (exR, exL)) = exT := by decide +kernel
theorem ex_parse : parseL exT.data.toList = some (exR, exL) := by decide +kernel
theorem ex_noparse : parseL ({ data := #[104, 111, 115, 116] } : ByteArray).data.toList = none := by decide +kernel
theorem ex_noparse' : parseL [104, 111, 115, 116] = none := by decide +kernel
theorem ex_bytes : (bytesO (exR, exL)).length = 12 := by decide +kernel
theorem ex_read : rName (false, bytesO (exR, exL)) = ((false, []), (exR, exL)) := by
  have := rName_bytesN (exR, exL) [] ex_isN
  rw [List.append_nil] at this
  unfold bytesO
  rw [if_pos ex_isN]
  exact this
theorem ex_readB : rNameB (false, bytesO (exR, exL)) = true := by
  unfold rNameB
  rw [ex_read, ex_isN]
  rfl
theorem ex_readO : rNameO (false, bytesO (exR, exL)) = (exR, exL) := by
  unfold rNameO
  rw [if_pos ex_readB, ex_read]
theorem ex_no : isN ((⟨#[]⟩ : ByteArray), ([] : List ByteArray)) = false := by decide +kernel
set_option maxHeartbeats 4000000 in
set_option maxRecDepth 100000 in
theorem nawake_any (w : World) : Calls Try.prog 7 #[] w fun e w' => e = .returned (.bool true) ∧ Below w.heap.size w w' := by
  have HLs := kept (show ∀ s ∈ exL, s.size ≤ maxLen from fun s hs => by
    have : s.size ≤ 10 := by
      have h : ∀ s ∈ exL, s.size ≤ 10 := by decide +kernel
      exact h s hs
    unfold maxLen
    omega)
  have HP := kept (fun (w' : World) => nparse_any exT w' (by decide))
  simp only [ex_parse, Option.getD_some, Option.isSome_some] at HP
  have HP2 := kept (fun (w' : World) => nparse_any { data := #[104, 111, 115, 116] } w' (by decide))
  simp only [ex_noparse, ex_noparse', Option.getD_none, Option.isSome_none] at HP2
  have HLL := kept (show exL.length = 2 from rfl)
  go_enter Try.func7, Try.ntmps7
  go_upto_region 2 with (refine wpList_store_row rfl 24 (.tmp 1) (.tmp 11) rfl (w.heap.size + 1) #[.string exR, .slice (some ⟨w.heap.size, 0, none⟩) 2 2] rfl rfl 24 #[.string ⟨#[]⟩, .slice none 0 0] (by have n1 := Blk.new (w.alloc (.cells #[.string { data := #[104, 111, 115, 116] }, .string { data := #[97, 47, 98] }] 9)) 24 #[.string ⟨#[]⟩, .slice none 0 0]; rw [World.size_alloc] at n1; exact n1) (by rw [nm_size]; rfl) rfl (nm_one _ _ _ _) ?_)
  go_name_world W1 hW1
  have H1 := kept (show Blk W1 (w.heap.size + 1) 24 #[.string exR, .slice (some ⟨w.heap.size, 0, none⟩) 2 2] by
    rw [← hW1]
    have n1 := Blk.new (w.alloc (.cells #[.string { data := #[104, 111, 115, 116] }, .string { data := #[97, 47, 98] }] 9)) 24 #[.string ⟨#[]⟩, .slice none 0 0]
    rw [World.size_alloc] at n1
    exact setRow_heap _ _ _ _ _ _ n1)
  have M1 := kept (show MemS W1 w.heap.size (some ⟨w.heap.size, 0, none⟩) exL by
    rw [← hW1]
    have n1 : MemS (w.alloc (.cells #[.string { data := #[104, 111, 115, 116] }, .string { data := #[97, 47, 98] }] 9)) w.heap.size (some ⟨w.heap.size, 0, none⟩) exL := memS_lit (l := exL) rfl
    exact (n1.alloc _).keep fun _ => setRow_other _ _ _ _ (by omega))
  have HW := kept (show Below w.heap.size w W1 by rw [← hW1]; exact below_setRow (((Below.refl _ w).alloc (Nat.le_refl _) _).alloc (by simp) _) (by omega) _)
  have hg1 : w.heap.size + 1 < W1.heap.size := H1.out.lt
  clear hW1
  go_wp2_with fail
  refine (HP.out W1).mono ?_
  rintro e W2 ⟨v2, rfl, ho2, k2⟩
  obtain ⟨A2, q2, c2, hv2, hc2, _, hm2⟩ := ho2.form
  subst hv2
  rw [HLL.out]
  have M2 := kept hm2
  replace H1 := kept (H1.out.below k2 H1.out.lt)
  replace M1 := kept (M1.out.below0 k2)
  replace HW := kept (below_next HW.out k2)
  clear ho2 hm2 k2 hg1
  go_upto_region 3 with (refine wpList_store_row rfl 24 (.tmp 2) (.tmp 14) rfl W2.heap.size #[.string exR, .slice A2 2 c2] rfl rfl 24 #[.string ⟨#[]⟩, .slice none 0 0] (Blk.new W2 _ _) (by rw [nm_size]; rfl) rfl (nm_one _ _ _ _) ?_)
  go_name_world W3 hW3
  have H2 := kept (show Blk W3 W2.heap.size 24 #[.string exR, .slice A2 2 c2] by rw [← hW3]; exact setRow_heap _ _ _ _ _ _ (Blk.new W2 _ _))
  have hb3 : Below W2.heap.size W2 W3 := by rw [← hW3]; exact below_setRow ((Below.refl _ W2).alloc (Nat.le_refl _) _) (Nat.le_refl _) _
  replace H1 := kept (H1.out.below hb3 H1.out.lt)
  replace M1 := kept (M1.out.below0 hb3)
  replace M2 := kept (M2.out.below0 hb3)
  replace HW := kept (below_next HW.out hb3)
  have hg2 : W2.heap.size < W3.heap.size := H2.out.lt
  clear hW3 hb3
  generalize W2.heap.size = g2 at H2 hg2 ⊢
  have HB := kept (nbytes_any W3 exR exL w.heap.size (some ⟨w.heap.size, 0, none⟩) 2 (by decide) HLs.out (by decide) M1.out)
  rw [ex_isN, HLL.out] at HB
  go_wp2_with (refine wpList_load_row rfl 24 (.tmp 1) rfl (w.heap.size + 1) rfl 24 #[.string exR, .slice (some ⟨w.heap.size, 0, none⟩) 2 2] (0, 0) _ H1.out Try.underlying24 rfl (by rw [nm_size]; rfl) ?_)
  refine HB.out.mono ?_
  rintro e W4 ⟨v4, rfl, ho4, k4⟩
  obtain ⟨A4, q4, c4, hv4, hc4, _, hm4, _, _⟩ := ho4.form
  rw [ex_bytes] at hv4
  subst hv4
  have M4 := kept hm4
  replace H1 := kept (H1.out.below k4 H1.out.lt)
  replace H2 := kept (H2.out.below k4 H2.out.lt)
  replace M1 := kept (M1.out.below0 k4)
  replace M2 := kept (M2.out.below0 k4)
  replace HW := kept (below_next HW.out k4)
  clear ho4 hm4 k4 HB hg2
  go_upto_region 4 with (fail)
  go_wp2_with fail
  refine (HP2.out W4).mono ?_
  rintro e W5 ⟨v5, rfl, ho5, k5⟩
  obtain ⟨A5, q5, c5, hv5, hc5, _, hm5⟩ := ho5.form
  rw [List.length_nil] at hv5
  subst hv5
  replace H1 := kept (H1.out.below k5 H1.out.lt)
  replace H2 := kept (H2.out.below k5 H2.out.lt)
  replace M1 := kept (M1.out.below0 k5)
  replace M2 := kept (M2.out.below0 k5)
  replace M4 := kept (M4.out.below0 k5)
  replace HW := kept (below_next HW.out k5)
  clear ho5 hm5 k5
  go_upto_region 5 with (refine wpList_store_row rfl 24 (.tmp 6) (.tmp 23) rfl W5.heap.size #[.string ⟨#[]⟩, .slice A5 0 c5] rfl rfl 24 #[.string ⟨#[]⟩, .slice none 0 0] (Blk.new W5 _ _) (by rw [nm_size]; rfl) rfl (nm_one _ _ _ _) ?_)
  go_name_world W6 hW6
  have hb6 : Below W5.heap.size W5 W6 := by rw [← hW6]; exact below_setRow ((Below.refl _ W5).alloc (Nat.le_refl _) _) (Nat.le_refl _) _
  replace H1 := kept (H1.out.below hb6 H1.out.lt)
  replace H2 := kept (H2.out.below hb6 H2.out.lt)
  replace M1 := kept (M1.out.below0 hb6)
  replace M2 := kept (M2.out.below0 hb6)
  replace M4 := kept (M4.out.below0 hb6)
  replace HW := kept (below_next HW.out hb6)
  clear hW6 hb6
  generalize W5.heap.size = g6
  have HX := kept ex_bytes
  have HRB := kept ex_readB
  have HRO := kept ex_readO
  obtain ⟨B, hB⟩ : ∃ B, bytesO (exR, exL) = B := ⟨_, rfl⟩
  rw [hB] at M4 HX HRB HRO
  clear hB
  go_wp2_with fail
  have hl1 := H1.out.lt
  have hl2 := H2.out.lt
  have hl3 := M2.out.lt (show exL ≠ [] by decide)
  refine (new_any W6 q4 A4 12 c4 B HX.out.symm M4.out (by rw [HX.out]; omega)).mono ?_
  rintro e W7 ⟨g7, q7, rfl, hrd, hlo, hhi, _, k7⟩
  have HRD := kept hrd
  replace H1 := kept (H1.out.below k7 H1.out.lt)
  replace H2 := kept (H2.out.below k7 H2.out.lt)
  replace M1 := kept (M1.out.below0 k7)
  replace M2 := kept (M2.out.below0 k7)
  have hws := HW.out.size
  replace HW := kept (below_next HW.out k7)
  clear k7 hrd M4
  go_wp2_with fail
  refine (nread_any W7 g7 q7 B HRD.out (by rw [HX.out]; omega)).mono ?_
  rw [HRB.out, HRO.out]
  rintro e W8 ⟨v8, bad8, l8, rfl, ho8, _, _, k8⟩
  obtain ⟨A8, q8, c8, hv8, _, _, hm8⟩ := ho8.form
  rw [HLL.out] at hv8
  subst hv8
  have M8 := kept hm8
  replace H1 := kept (H1.out.grown k8 (fun e => by injection e with e; omega))
  replace H2 := kept (H2.out.grown k8 (fun e => by injection e with e; omega))
  replace M1 := kept (M1.out.grown k8 (fun e => by injection e with e; omega))
  replace M2 := kept (M2.out.grown k8 (fun e => by injection e with e; omega))
  replace HW := kept (HW.out.grown k8 HW.out.size (fun j hj => by injection hj with hj; omega))
  clear ho8 hm8 k8 HRD HRB HRO HX hlo hhi hl1 hl2 hl3 hws
  go_upto_region 6 with (refine wpList_store_row rfl 24 (.tmp 8) (.tmp 29) rfl W8.heap.size #[.string exR, .slice A8 2 c8] rfl rfl 24 #[.string ⟨#[]⟩, .slice none 0 0] (Blk.new W8 _ _) (by rw [nm_size]; rfl) rfl (nm_one _ _ _ _) ?_)
  go_name_world W9 hW9
  have H8 := kept (show Blk W9 W8.heap.size 24 #[.string exR, .slice A8 2 c8] by rw [← hW9]; exact setRow_heap _ _ _ _ _ _ (Blk.new W8 _ _))
  have hb9 : Below W8.heap.size W8 W9 := by rw [← hW9]; exact below_setRow ((Below.refl _ W8).alloc (Nat.le_refl _) _) (Nat.le_refl _) _
  replace H1 := kept (H1.out.below hb9 H1.out.lt)
  replace H2 := kept (H2.out.below hb9 H2.out.lt)
  replace M1 := kept (M1.out.below0 hb9)
  replace M2 := kept (M2.out.below0 hb9)
  replace M8 := kept (M8.out.below0 hb9)
  replace HW := kept (below_next HW.out hb9)
  clear hW9 hb9
  generalize W8.heap.size = g8 at H8 ⊢
  have HT := kept (fun (w' : World) (h : MemS w' w.heap.size (some ⟨w.heap.size, 0, none⟩) exL) => show Calls Try.prog 9 #[.agg #[.string exR, .slice (some ⟨w.heap.size, 0, none⟩) 2 2]] w' fun e w2 => e = .returned (.string ({ data := #[104, 111, 115, 116, 47, 97, 92, 47, 98, 64, 82] } : ByteArray)) ∧ Below w'.heap.size w' w2 by
    have := ntext_any w' exR exL w.heap.size (some ⟨w.heap.size, 0, none⟩) 2 (by decide) HLs.out (by decide) h
    rw [ex_text] at this
    exact this)
  have HV := kept (fun (w' : World) (h : MemS w' w.heap.size (some ⟨w.heap.size, 0, none⟩) exL) => show Calls Try.prog 11 #[.agg #[.string exR, .slice (some ⟨w.heap.size, 0, none⟩) 2 2]] w' fun e w2 => e = .returned (.bool true) ∧ Below w'.heap.size w' w2 by
    have := nvalid_any w' exR exL w.heap.size (some ⟨w.heap.size, 0, none⟩) 2 (by decide) HLs.out (by decide) h
    rw [ex_isN] at this
    exact this)
  have HS := kept (fun (w' : World) (q : Nat) (A : Option Addr) (c : Nat) (h1 : MemS w' q A exL) (h2 : MemS w' w.heap.size (some ⟨w.heap.size, 0, none⟩) exL) => show Calls Try.prog 24 #[.agg #[.string exR, .slice A 2 c], .agg #[.string exR, .slice (some ⟨w.heap.size, 0, none⟩) 2 2]] w' fun e w2 => e = .returned (.bool true) ∧ Below w'.heap.size w' w2 by
    have := nsame_any w' exR exR exL exL q w.heap.size A (some ⟨w.heap.size, 0, none⟩) c 2 (by decide) (by decide) h1 h2
    rw [decide_eq_true rfl] at this
    exact this)
  have HZ := kept (fun (w' : World) => show Calls Try.prog 11 #[.agg #[.string ⟨#[]⟩, .slice none 0 0]] w' fun e w2 => e = .returned (.bool false) ∧ Below w'.heap.size w' w2 by
    have := nvalid_any w' (⟨#[]⟩ : ByteArray) [] 0 none 0 (by decide) (fun s hs => by cases hs) (by decide) (.inl rfl)
    rw [ex_no] at this
    exact this)
  go_wp2_with (refine wpList_load_row_w (by rfl) 24 (.tmp 1) rfl (w.heap.size + 1) rfl 24 #[.string exR, .slice (some ⟨w.heap.size, 0, none⟩) 2 2] (0, 0) _ H1.out Try.underlying24 rfl (by rw [nm_size]; rfl) ?_)
  refine (HT.out W9 M1.out).mono ?_
  rintro e W10 ⟨rfl, k⟩
  replace H1 := kept (H1.out.below k H1.out.lt)
  replace H2 := kept (H2.out.below k H2.out.lt)
  replace H8 := kept (H8.out.below k H8.out.lt)
  replace M1 := kept (M1.out.below0 k)
  replace M2 := kept (M2.out.below0 k)
  replace M8 := kept (M8.out.below0 k)
  replace HW := kept (below_next HW.out k)
  clear k
  go_wp2_with (first | (refine wpList_load_row_w (by rfl) 24 (.tmp 1) rfl (w.heap.size + 1) rfl 24 #[.string exR, .slice (some ⟨w.heap.size, 0, none⟩) 2 2] (0, 0) _ H1.out Try.underlying24 rfl (by rw [nm_size]; rfl) ?_) | (refine wpList_load_row_w (by rfl) 24 (.tmp 2) rfl g2 rfl 24 #[.string exR, .slice A2 2 c2] (0, 0) _ H2.out Try.underlying24 rfl (by rw [nm_size]; rfl) ?_) | (refine wpList_load_row_w (by rfl) 24 (.tmp 8) rfl g8 rfl 24 #[.string exR, .slice A8 2 c8] (0, 0) _ H8.out Try.underlying24 rfl (by rw [nm_size]; rfl) ?_))
  refine (HS.out W10 q2 A2 c2 M2.out M1.out).mono ?_
  rintro e W11 ⟨rfl, k⟩
  replace H1 := kept (H1.out.below k H1.out.lt)
  replace H2 := kept (H2.out.below k H2.out.lt)
  replace H8 := kept (H8.out.below k H8.out.lt)
  replace M1 := kept (M1.out.below0 k)
  replace M2 := kept (M2.out.below0 k)
  replace M8 := kept (M8.out.below0 k)
  replace HW := kept (below_next HW.out k)
  clear k
  go_wp2_with (first | (refine wpList_load_row_w (by rfl) 24 (.tmp 1) rfl (w.heap.size + 1) rfl 24 #[.string exR, .slice (some ⟨w.heap.size, 0, none⟩) 2 2] (0, 0) _ H1.out Try.underlying24 rfl (by rw [nm_size]; rfl) ?_) | (refine wpList_load_row_w (by rfl) 24 (.tmp 2) rfl g2 rfl 24 #[.string exR, .slice A2 2 c2] (0, 0) _ H2.out Try.underlying24 rfl (by rw [nm_size]; rfl) ?_) | (refine wpList_load_row_w (by rfl) 24 (.tmp 8) rfl g8 rfl 24 #[.string exR, .slice A8 2 c8] (0, 0) _ H8.out Try.underlying24 rfl (by rw [nm_size]; rfl) ?_))
  refine (HS.out W11 q8 A8 c8 M8.out M1.out).mono ?_
  rintro e W12 ⟨rfl, k⟩
  replace H1 := kept (H1.out.below k H1.out.lt)
  replace H2 := kept (H2.out.below k H2.out.lt)
  replace H8 := kept (H8.out.below k H8.out.lt)
  replace M1 := kept (M1.out.below0 k)
  replace M2 := kept (M2.out.below0 k)
  replace M8 := kept (M8.out.below0 k)
  replace HW := kept (below_next HW.out k)
  clear k
  go_wp2_with (first | (refine wpList_load_row_w (by rfl) 24 (.tmp 1) rfl (w.heap.size + 1) rfl 24 #[.string exR, .slice (some ⟨w.heap.size, 0, none⟩) 2 2] (0, 0) _ H1.out Try.underlying24 rfl (by rw [nm_size]; rfl) ?_) | (refine wpList_load_row_w (by rfl) 24 (.tmp 2) rfl g2 rfl 24 #[.string exR, .slice A2 2 c2] (0, 0) _ H2.out Try.underlying24 rfl (by rw [nm_size]; rfl) ?_) | (refine wpList_load_row_w (by rfl) 24 (.tmp 8) rfl g8 rfl 24 #[.string exR, .slice A8 2 c8] (0, 0) _ H8.out Try.underlying24 rfl (by rw [nm_size]; rfl) ?_))
  refine (HV.out W12 M1.out).mono ?_
  rintro e W13 ⟨rfl, k⟩
  replace H1 := kept (H1.out.below k H1.out.lt)
  replace H2 := kept (H2.out.below k H2.out.lt)
  replace H8 := kept (H8.out.below k H8.out.lt)
  replace M1 := kept (M1.out.below0 k)
  replace M2 := kept (M2.out.below0 k)
  replace M8 := kept (M8.out.below0 k)
  replace HW := kept (below_next HW.out k)
  clear k
  go_wp2_with (first | (refine wpList_load_row_w (by rfl) 24 (.tmp 1) rfl (w.heap.size + 1) rfl 24 #[.string exR, .slice (some ⟨w.heap.size, 0, none⟩) 2 2] (0, 0) _ H1.out Try.underlying24 rfl (by rw [nm_size]; rfl) ?_) | (refine wpList_load_row_w (by rfl) 24 (.tmp 2) rfl g2 rfl 24 #[.string exR, .slice A2 2 c2] (0, 0) _ H2.out Try.underlying24 rfl (by rw [nm_size]; rfl) ?_) | (refine wpList_load_row_w (by rfl) 24 (.tmp 8) rfl g8 rfl 24 #[.string exR, .slice A8 2 c8] (0, 0) _ H8.out Try.underlying24 rfl (by rw [nm_size]; rfl) ?_))
  refine (HZ.out W13).mono ?_
  rintro e W14 ⟨rfl, k⟩
  replace H1 := kept (H1.out.below k H1.out.lt)
  replace H2 := kept (H2.out.below k H2.out.lt)
  replace H8 := kept (H8.out.below k H8.out.lt)
  replace M1 := kept (M1.out.below0 k)
  replace M2 := kept (M2.out.below0 k)
  replace M8 := kept (M8.out.below0 k)
  replace HW := kept (below_next HW.out k)
  clear k
  go_wp2_with fail
  go_ret
  exact ⟨rfl, HW.out⟩
end Go.Proofs.Ytnejidaplbonoaa
