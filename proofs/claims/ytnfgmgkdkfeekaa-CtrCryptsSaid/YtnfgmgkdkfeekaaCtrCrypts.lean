/-
  Bytes are combined as in the reference, and a second time back, and the bytes that were given stay as they are: the law CtrCrypts returns true for every input. No condition.
-/
import Derived.Test.YtnfgmgkdkfeekaaCtrLaw
import Derived.Test.YtnfgmgkdkfeekaaOpenB
namespace Go.Proofs.Ytnfgmgkdkfeekaa.ctrCrypts
open Go.ChangeShapes Go.WideShapes Go.ChangeAt Go.RowKit
set_option linter.unusedVariables false
set_option linter.unusedSimpArgs false

set_option maxHeartbeats 4000000 in
set_option maxRecDepth 100000 in
theorem walk_long (w : World) (key nonce : Nat → UInt8) (q c : Nat) (A : Option Addr) (b : List UInt8) (h : 1000 < b.length) :
    Calls Try.prog 4 #[.agg (bA 16 key), .agg (bA 8 nonce), .slice A b.length c] w fun e w' => e = .returned (.bool true) ∧ Below w.heap.size w w' := by
  have hd : decide ((1000 : Int) < (b.length : Int)) = true := by rw [decide_eq_true_eq]; omega
  go_enter Try.func4, Try.ntmps4
  go_upto_region 1 with (fail)
  go_name_world W0 hW0
  have n0 := Blk.new w 22 (bA 16 key)
  have n1 := Blk.new (w.alloc (.cells (bA 16 key) 22)) 23 (bA 8 nonce)
  simp only [World.size_alloc] at n1
  have H0 := kept (show Blk W0 w.heap.size 22 (bA 16 key) by rw [← hW0]; exact (n0.alloc _))
  have H1 := kept (show Blk W0 (w.heap.size + 1) 23 (bA 8 nonce) by rw [← hW0]; exact n1)
  have HW := kept (show Below w.heap.size w W0 by rw [← hW0]; exact ((Below.refl w.heap.size w).alloc (Nat.le_refl _) (.cells (bA 16 key) 22)).alloc (by simp) (.cells (bA 8 nonce) 23))
  clear hW0 n0 n1
  go_wp2_with fail
  refine (cawake_any W0).mono ?_
  rintro e W1 ⟨rfl, k⟩
  replace H0 := kept (H0.out.below k H0.out.lt)
  replace H1 := kept (H1.out.below k H1.out.lt)
  replace HW := kept (below_next HW.out k)
  clear k
  go_wp2_with fail
  refine (cawake_any W1).mono ?_
  rintro e W2 ⟨rfl, k⟩
  replace H0 := kept (H0.out.below k H0.out.lt)
  replace H1 := kept (H1.out.below k H1.out.lt)
  replace HW := kept (below_next HW.out k)
  clear k
  go_wp2_with fail
  go_ret
  exact ⟨rfl, HW.out⟩
set_option maxHeartbeats 4000000 in
set_option maxRecDepth 100000 in
theorem walk_in (w : World) (key nonce : Nat → UInt8) (q c : Nat) (A : Option Addr) (b : List UInt8) (hm : Mem w q A b) (h : b.length ≤ 1000) :
    Calls Try.prog 4 #[.agg (bA 16 key), .agg (bA 8 nonce), .slice A b.length c] w fun e w' => e = .returned (.bool true) ∧ Below w.heap.size w w' := by
  obtain ⟨i0, hi0, hz0, hs0, hbb0⟩ := info_parts u8_info
  have hd : decide ((1000 : Int) < (b.length : Int)) = false := by rw [decide_eq_false_iff_not]; omega
  have MB0 := kept hm
  clear hm
  go_enter Try.func4, Try.ntmps4
  go_upto_region 1 with (fail)
  go_name_world W0 hW0
  have n0 := Blk.new w 22 (bA 16 key)
  have n1 := Blk.new (w.alloc (.cells (bA 16 key) 22)) 23 (bA 8 nonce)
  simp only [World.size_alloc] at n1
  have H0 := kept (show Blk W0 w.heap.size 22 (bA 16 key) by rw [← hW0]; exact (n0.alloc _))
  have H1 := kept (show Blk W0 (w.heap.size + 1) 23 (bA 8 nonce) by rw [← hW0]; exact n1)
  have HW := kept (show Below w.heap.size w W0 by rw [← hW0]; exact ((Below.refl w.heap.size w).alloc (Nat.le_refl _) (.cells (bA 16 key) 22)).alloc (by simp) (.cells (bA 8 nonce) 23))
  clear hW0 n0 n1
  go_wp2_with fail
  refine (cawake_any W0).mono ?_
  rintro e W1 ⟨rfl, k⟩
  replace H0 := kept (H0.out.below k H0.out.lt)
  replace H1 := kept (H1.out.below k H1.out.lt)
  replace HW := kept (below_next HW.out k)
  clear k
  go_upto_region 3 with (fail)
  have HOE := kept (show Own (W1.alloc (.cells #[] 5)) W1.heap.size (.slice (some ⟨W1.heap.size, 0, none⟩) 0 0) [] from own_of_blk (l := []) (Blk.new W1 _ _) (Nat.le_refl _) (by simp))
  have MB1 := kept ((MB0.out.below0 HW.out).alloc (.cells #[] 5))
  have HBA := kept ((Below.refl _ W1).alloc (Nat.le_refl _) (.cells #[] 5))
  go_upto_region 4 with (at_builtin; refine wpList_append_bytes rfl (.tmp 17) (.tmp 18) 27 rfl W1.heap.size i0 Try.underlying27 hi0 hz0 hs0 hbb0 (.slice (some ⟨W1.heap.size, 0, none⟩) 0 0) [] rfl HOE.out q A b.length c b rfl rfl MB1.out (by simp; omega) HBA.out.size ?_; intro v2 W2 ho2 hg2; rw [List.nil_append] at ho2; have HO2 := kept ho2; have hb2 := kept (HBA.out.grown hg2 HBA.out.size (fun kk hk => by simp [Value.ownBlock] at hk; omega)); clear ho2 hg2)
  clear HOE MB1 HBA
  replace H0 := kept (H0.out.below hb2.out H0.out.lt)
  replace H1 := kept (H1.out.below hb2.out H1.out.lt)
  replace HW := kept (below_next HW.out hb2.out)
  have MB2 := kept (MB0.out.below0 HW.out)
  obtain ⟨A2, q2, c2, hv2, hc2, hcm2, mo2, x2⟩ := HO2.out.form
  subst hv2
  have MO2 := kept mo2
  clear HO2 mo2 x2 hc2 hcm2 hb2 MB0
  go_wp2_with (first | (refine wpList_load_row rfl 22 (.tmp 3) rfl w.heap.size rfl 22 (bA 16 key) (0, 0) _ H0.out Try.underlying22 rfl (by rw [b16_size, bA_size]) ?_) | (refine wpList_load_row rfl 23 (.tmp 4) rfl (w.heap.size + 1) rfl 23 (bA 8 nonce) (0, 0) _ H1.out Try.underlying23 rfl (by rw [b8_size, bA_size]) ?_))
  refine (ccrypt_any W2 key nonce q2 b.length c2 A2 b rfl MO2.out (by omega)).mono ?_
  rintro e W3 ⟨v3, rfl, o3, k⟩
  replace H0 := kept (H0.out.below k H0.out.lt)
  replace H1 := kept (H1.out.below k H1.out.lt)
  replace HW := kept (below_next HW.out k)
  have MB3 := kept (MB2.out.below0 k)
  have MO3 := kept (MO2.out.below0 k)
  obtain ⟨A3, q3, c3, hv3, hc3, hcm3, mo3, x3⟩ := o3.form
  subst hv3
  obtain ⟨D, hD⟩ : ∃ D, sMix (cStr key nonce) 0 b = D := ⟨_, rfl⟩
  have hDl : D.length = b.length := by rw [← hD, sMix_len]
  have HBACK := kept (show sMix (cStr key nonce) 0 D = b by rw [← hD, sMix_back])
  rw [hD] at mo3
  rw [hD, hDl]
  have MC3 := kept mo3
  have HRC := kept (fun (w' : World) (mb : Mem w' q A b) => rccrypt_any w' key nonce q b.length c A b rfl mb (by omega))
  rw [hD] at HRC
  have HCC := kept (fun (w' : World) (mc : Mem w' q3 A3 D) => ccrypt_any w' key nonce q3 b.length c3 A3 D hDl.symm mc (by omega))
  rw [HBACK.out] at HCC
  have HDL := kept hDl
  clear o3 k MB2 MO2 mo3 x3 hc3 hcm3 hD hDl HBACK
  go_wp2_with (first | (refine wpList_load_row rfl 22 (.tmp 3) rfl w.heap.size rfl 22 (bA 16 key) (0, 0) _ H0.out Try.underlying22 rfl (by rw [b16_size, bA_size]) ?_) | (refine wpList_load_row rfl 23 (.tmp 4) rfl (w.heap.size + 1) rfl 23 (bA 8 nonce) (0, 0) _ H1.out Try.underlying23 rfl (by rw [b8_size, bA_size]) ?_))
  refine (HRC.out W3 MB3.out).mono ?_
  rintro e W4 ⟨v4, rfl, o4, k⟩
  replace H0 := kept (H0.out.below k H0.out.lt)
  replace H1 := kept (H1.out.below k H1.out.lt)
  replace HW := kept (below_next HW.out k)
  replace MB3 := kept (MB3.out.below0 k)
  replace MC3 := kept (MC3.out.below0 k)
  replace MO3 := kept (MO3.out.below0 k)
  clear k
  obtain ⟨A4, q4, c4, hv4, hc4, hcm4, mo4, x4⟩ := o4.form
  subst hv4
  rw [HDL.out]
  have MX4 := kept mo4
  clear o4 mo4 x4 hc4 hcm4
  go_wp2_with fail
  refine (same_b W4 q3 q4 A3 A4 b.length b.length c3 c4 D HDL.out.symm HDL.out.symm (by have := HDL.out; omega) MC3.out MX4.out).mono ?_
  rintro e W5 ⟨rfl, k⟩
  replace H0 := kept (H0.out.below k H0.out.lt)
  replace H1 := kept (H1.out.below k H1.out.lt)
  replace HW := kept (below_next HW.out k)
  replace MB3 := kept (MB3.out.below0 k)
  replace MC3 := kept (MC3.out.below0 k)
  replace MO3 := kept (MO3.out.below0 k)
  clear k MX4
  go_wp2_with (first | (refine wpList_load_row_w (by rfl) 22 (.tmp 3) rfl w.heap.size rfl 22 (bA 16 key) (0, 0) _ H0.out Try.underlying22 rfl (by rw [b16_size, bA_size]) ?_) | (refine wpList_load_row_w (by rfl) 23 (.tmp 4) rfl (w.heap.size + 1) rfl 23 (bA 8 nonce) (0, 0) _ H1.out Try.underlying23 rfl (by rw [b8_size, bA_size]) ?_))
  refine (HCC.out W5 MC3.out).mono ?_
  rintro e W6 ⟨v6, rfl, o6, k⟩
  replace H0 := kept (H0.out.below k H0.out.lt)
  replace H1 := kept (H1.out.below k H1.out.lt)
  replace HW := kept (below_next HW.out k)
  replace MB3 := kept (MB3.out.below0 k)
  replace MC3 := kept (MC3.out.below0 k)
  replace MO3 := kept (MO3.out.below0 k)
  clear k
  obtain ⟨A6, q6, c6, hv6, hc6, hcm6, mo6, x6⟩ := o6.form
  subst hv6
  have MX6 := kept mo6
  clear o6 mo6 x6 hc6 hcm6
  go_wp2_with fail
  refine (same_b W6 q6 q A6 A b.length b.length c6 c b rfl rfl (by omega) MX6.out MB3.out).mono ?_
  rintro e W7 ⟨rfl, k⟩
  replace H0 := kept (H0.out.below k H0.out.lt)
  replace H1 := kept (H1.out.below k H1.out.lt)
  replace HW := kept (below_next HW.out k)
  replace MB3 := kept (MB3.out.below0 k)
  replace MC3 := kept (MC3.out.below0 k)
  replace MO3 := kept (MO3.out.below0 k)
  clear k MX6
  go_wp2_with fail
  refine (same_b W7 q2 q A2 A b.length b.length c2 c b rfl rfl (by omega) MO3.out MB3.out).mono ?_
  rintro e W8 ⟨rfl, k⟩
  replace H0 := kept (H0.out.below k H0.out.lt)
  replace H1 := kept (H1.out.below k H1.out.lt)
  replace HW := kept (below_next HW.out k)
  replace MB3 := kept (MB3.out.below0 k)
  replace MC3 := kept (MC3.out.below0 k)
  replace MO3 := kept (MO3.out.below0 k)
  clear k
  go_wp2_with fail
  go_ret
  exact ⟨rfl, HW.out⟩
theorem walk (w : World) (key nonce : Nat → UInt8) (q c : Nat) (A : Option Addr) (b : List UInt8) (hm : Mem w q A b) :
    Calls Try.prog 4 #[.agg (bA 16 key), .agg (bA 8 nonce), .slice A b.length c] w fun e w' => e = .returned (.bool true) ∧ Below w.heap.size w w' := by
  by_cases h : 1000 < b.length
  · exact walk_long w key nonce q c A b h
  · exact walk_in w key nonce q c A b hm (by omega)

set_option maxRecDepth 100000 in
theorem lifted (os : Os) (started : os.Started) (H : Type) (enc : TypeId × Value → H) :
    ReturnsInHanded {} Try.checked os 4 .any (Rows.ctrCryptsSpec.pre6 enc Try.prog Try.f4 Rows.ctrCryptsRow.domain false) (Rows.ctrCryptsSpec.post enc Try.prog Try.f4 false true false false) := by
  refine returnsInHanded_of_change (C := Try.checked) own_knob started (by kernel_rfl) Try.func4
    (ChangeSpec.witness6 (enc := enc) (C := Try.checked) false ⟨#[], #[.agg #[.int .u8 0, .int .u8 0, .int .u8 0, .int .u8 0, .int .u8 0, .int .u8 0, .int .u8 0, .int .u8 0, .int .u8 0, .int .u8 0, .int .u8 0, .int .u8 0, .int .u8 0, .int .u8 0, .int .u8 0, .int .u8 0], .agg #[.int .u8 0, .int .u8 0, .int .u8 0, .int .u8 0, .int .u8 0, .int .u8 0, .int .u8 0, .int .u8 0], .slice none 0 0], []⟩ 8 (by kernel_rfl) (by kernel_rfl) (by kernel_rfl) (by kernel_rfl)) ?_
  intro W base args ds gs before hval0 hW hcnd _
  have hval : ∀ (j : Nat) t v, Try.f4.params[j]? = some t → args[j]? = some v → Value.okWide Try.prog W .any base t v := hval0
  have hW' := hW
  obtain ⟨p, q, hA0, hV, rfl, hfz, hnd⟩ := hW
  have hA : DataW.TrodAll enc Try.prog W 0 (fun _ => true) true Try.f4.params.toList args.toList ds p := hA0
  rw [Try.params4] at hA hval
  obtain ⟨v0, v1, v2, d0, d1, d2, p0, p1, p2, rfl, rfl, rfl, h0, h1, h2⟩ := trodAll_three hA
  obtain ⟨rfl, rfl⟩ := trodVars_none hV
  have hvl0 := hval 0 22 v0 rfl rfl
  have hvl1 := hval 1 23 v1 rfl rfl
  have hvl2 := hval 2 27 v2 rfl rfl
  obtain ⟨f0, hv0, hw0⟩ := open_arrInt _ _ 16 Try.underlying22 .u8 Try.underlying5 (by kernel_rfl) (by kernel_rfl) hvl0 h0
  obtain ⟨key, hb0⟩ := bytes_of_arr 16 f0 hw0
  rw [hb0] at hv0
  subst hv0
  obtain ⟨f1, hv1, hw1⟩ := open_arrInt _ _ 8 Try.underlying23 .u8 Try.underlying5 (by kernel_rfl) (by kernel_rfl) hvl1 h1
  obtain ⟨nonce, hb1⟩ := bytes_of_arr 8 f1 hw1
  rw [hb1] at hv1
  subst hv1
  obtain ⟨A, q, c, b, rfl, hc, hcm, hm⟩ := open_bytes hvl2 h2
  clear hA0 hval0
  refine (walk W key nonce q c A b hm).mono fun e W' ⟨he, bel⟩ => ?_
  subst he
  exact ⟨_, rfl, _, _, _, [], _, [], hW', trodAll_mk1 (shut_bool Try.underlying4 _), trodAll_mk3 (keep_arg (by kernel_rfl) (of_decide_eq_true (by kernel_rfl)) h0 bel) (keep_arg (by kernel_rfl) (of_decide_eq_true (by kernel_rfl)) h1 bel) (keep_arg (by kernel_rfl) (of_decide_eq_true (by kernel_rfl)) h2 bel), rfl, bel.frame _, fun h => by cases h⟩

theorem over : Rows.ctrCryptsRow.holds Try.pinned (OpenSpec.ofChange Rows.ctrCryptsSpec) :=
  OpenClaim.holds_of_wide 4 Try.f4 rfl rfl rfl rfl rfl rfl rfl ⟨rfl, rfl, rfl, rfl, rfl⟩ rfl rfl rfl rfl rfl (by kernel_rfl) Try.func4 (by kernel_rfl)
    (of_decide_eq_true (by kernel_rfl)) (by unfold Func.isWrapper; first | (rw [if_pos (by decide +kernel)]; kernel_rfl) | (rw [if_neg (by decide +kernel)]; exact ⟨rfl, rfl⟩))
    (fun os started H enc _ => lifted os started H enc)

/-- The statement. -/
theorem proved : Rows.CtrCryptsSaid := over
#print axioms proved
end Go.Proofs.Ytnfgmgkdkfeekaa.ctrCrypts
