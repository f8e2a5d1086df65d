/-
  The sealed string of any bytes is that of the reference, and it is opened again: the law SealMatchesReference returns true for every input. No condition.
-/
import Derived.Test.YtcjbplgjjhenkaaDoorSm38
import Derived.Test.YtcjbplgjjhenkaaDoorSm15
import Derived.Test.YtcjbplgjjhenkaaDoorSm4
namespace Go.Proofs.YtcjbplgjjhenkaaDoor.sealMatch
open Go.ChangeShapes Go.WideShapes Go.ChangeAt Go.RowKit
set_option linter.unusedVariables false
set_option linter.unusedSimpArgs false

set_option maxHeartbeats 4000000 in
set_option maxRecDepth 100000 in
theorem walk_long (w : World) (K N b : List UInt8) (u : UInt8) (q c : Nat) (A : Option Addr) (hKA : KAt w) (hK : K.length = 16) (hN : N.length = 8) (hm : Mem w q A b) (hc : b.length ≤ c) (h : 1000 < b.length) :
    Calls Tryd.prog 3 #[.agg (bA 16 (ofL K)), .int .u8 (u.toNat : Int), .agg (bA 8 (ofL N)), .slice A b.length c] w fun e w' => e = .returned (.bool true) ∧ Below w.heap.size w w' := by
  have KA := kept hKA
  have hd : decide ((1000 : Int) < (b.length : Int)) = true := by rw [decide_eq_true_eq]; omega
  clear hKA
  clear hm
  go_enter Tryd.func3, Tryd.ntmps3
  go_upto_region 1 with (fail)
  go_name_world W0 hW0
  have H0 := kept (show Blk W0 w.heap.size 22 (bA 16 (ofL K)) by rw [← hW0]; exact (Blk.new w _ _).alloc _)
  have H1 := kept (show Blk W0 (w.heap.size + 1) 23 (bA 8 (ofL N)) by
    rw [← hW0]
    have n1 := Blk.new (w.alloc (.cells (bA 16 (ofL K)) 22)) 23 (bA 8 (ofL N))
    simpa only [World.size_alloc] using n1)
  have HW := kept (show Below w.heap.size w W0 by rw [← hW0]; exact ((Below.refl _ w).alloc (Nat.le_refl _) _).alloc (by simp) _)
  clear hW0
  replace KA := kept (KA.out.below0 HW.out)
  go_wp2_with fail
  refine (sawake_any W0 KA.out).mono ?_
  rintro e W1 ⟨rfl, k⟩
  replace H0 := kept (H0.out.below k H0.out.lt)
  replace H1 := kept (H1.out.below k H1.out.lt)
  replace KA := kept (KA.out.below0 k)
  replace HW := kept (below_next HW.out k)
  clear k
  go_wp2_with fail
  refine (sawake_any W1 KA.out).mono ?_
  rintro e W2 ⟨rfl, k⟩
  replace H0 := kept (H0.out.below k H0.out.lt)
  replace H1 := kept (H1.out.below k H1.out.lt)
  replace KA := kept (KA.out.below0 k)
  replace HW := kept (below_next HW.out k)
  clear k
  go_wp2_with fail
  go_ret
  exact ⟨rfl, HW.out⟩
set_option maxHeartbeats 4000000 in
set_option maxRecDepth 100000 in
theorem walk_in (w : World) (K N b : List UInt8) (u : UInt8) (q c : Nat) (A : Option Addr) (hKA : KAt w) (hK : K.length = 16) (hN : N.length = 8) (hm : Mem w q A b) (hc : b.length ≤ c) (h : b.length ≤ 1000) :
    Calls Tryd.prog 3 #[.agg (bA 16 (ofL K)), .int .u8 (u.toNat : Int), .agg (bA 8 (ofL N)), .slice A b.length c] w fun e w' => e = .returned (.bool true) ∧ Below w.heap.size w w' := by
  obtain ⟨i0, hi0, hz0, hs0, hbb0⟩ := info_parts u8_info
  have KA := kept hKA
  have HKL := kept hK
  have HNL := kept hN
  have HCB := kept hc
  have hd : decide ((1000 : Int) < (b.length : Int)) = false := by rw [decide_eq_false_iff_not]; omega
  have MB := kept hm
  clear hKA hK hN hm hc
  go_enter Tryd.func3, Tryd.ntmps3
  go_upto_region 1 with (fail)
  go_name_world W0 hW0
  have H0 := kept (show Blk W0 w.heap.size 22 (bA 16 (ofL K)) by rw [← hW0]; exact (Blk.new w _ _).alloc _)
  have H1 := kept (show Blk W0 (w.heap.size + 1) 23 (bA 8 (ofL N)) by
    rw [← hW0]
    have n1 := Blk.new (w.alloc (.cells (bA 16 (ofL K)) 22)) 23 (bA 8 (ofL N))
    simpa only [World.size_alloc] using n1)
  have HW := kept (show Below w.heap.size w W0 by rw [← hW0]; exact ((Below.refl _ w).alloc (Nat.le_refl _) _).alloc (by simp) _)
  clear hW0
  replace KA := kept (KA.out.below0 HW.out)
  replace MB := kept (MB.out.below0 HW.out)
  go_wp2_with fail
  refine (sawake_any W0 KA.out).mono ?_
  rintro e W1 ⟨rfl, k⟩
  replace H0 := kept (H0.out.below k H0.out.lt)
  replace H1 := kept (H1.out.below k H1.out.lt)
  replace MB := kept (MB.out.below0 k)
  replace KA := kept (KA.out.below0 k)
  replace HW := kept (below_next HW.out k)
  clear k
  have hO1 : Own (W1.alloc (.cells #[] 5)) W1.heap.size (.slice (some ⟨W1.heap.size, 0, none⟩) 0 0) [] := World.ownsRow_made W1 #[] 0 (Nat.le_refl _) (by unfold maxLen; omega) (by simp)
  have hM1 := MB.out.alloc (.cells #[] 5)
  have hl1 : ([] : List UInt8).length + b.length ≤ 140737488355328 := by simp; omega
  go_upto_region 4 with (at_builtin; refine wpList_append_bytes rfl (.tmp 23) (.tmp 24) 24 rfl W1.heap.size i0 Tryd.underlying24 hi0 hz0 hs0 hbb0 (.slice (some ⟨W1.heap.size, 0, none⟩) 0 0) [] rfl hO1 q A b.length c b rfl rfl hM1 hl1 (by simp) ?_; intro v2 W2 ho2 hg2)
  have k : Below W1.heap.size W1 W2 := ((Below.refl _ W1).alloc (Nat.le_refl _) _).grown hg2 (by simp) (fun k hk => by cases hk; exact Nat.le_refl _)
  rw [List.nil_append] at ho2
  replace H0 := kept (H0.out.below k H0.out.lt)
  replace H1 := kept (H1.out.below k H1.out.lt)
  replace MB := kept (MB.out.below0 k)
  replace KA := kept (KA.out.below0 k)
  replace HW := kept (below_next HW.out k)
  clear k hg2 hO1 hM1 hl1
  obtain ⟨A2, q2, c2, hv2, hc2, hcm2, mo2, x2⟩ := ho2.form
  subst hv2
  have MX2 := kept mo2
  have HC2 := kept hc2
  clear ho2 mo2 x2 hc2 hcm2
  go_wp2_with (first | (refine wpList_load_row rfl 22 (.tmp 4) rfl w.heap.size rfl 22 (bA 16 (ofL K)) (0, 0) _ H0.out Tryd.underlying22 rfl (by rw [b16_size, bA_size]) ?_) | (refine wpList_load_row rfl 23 (.tmp 6) rfl (w.heap.size + 1) rfl 23 (bA 8 (ofL N)) (0, 0) _ H1.out Tryd.underlying23 rfl (by rw [b8_size, bA_size]) ?_))
  refine (seal_any W2 K N b u q2 b.length c2 A2 KA.out HKL.out HNL.out rfl MX2.out HC2.out (by omega)).mono ?_
  rintro e W3 ⟨v3, rfl, ho3, k⟩
  have hsl := sealS_len K u N b HNL.out
  replace H0 := kept (H0.out.below k H0.out.lt)
  replace H1 := kept (H1.out.below k H1.out.lt)
  replace MB := kept (MB.out.below0 k)
  replace MX2 := kept (MX2.out.below0 k)
  replace KA := kept (KA.out.below0 k)
  replace HW := kept (below_next HW.out k)
  obtain ⟨A3, q3, c3, hv3, hc3, hcm3, mo3, x3⟩ := ho3.form
  subst hv3
  have MX3 := kept mo3
  have HC3 := kept hc3
  clear ho3 mo3 x3 hc3 hcm3
  have hop := sealO_sealS K u N b HNL.out
  have hno : nonceL (sealS K u N b) = N := by
    unfold nonceL
    rw [if_pos (by omega)]
    exact sealF_take K N b HNL.out _
  have HRS := kept (fun w' A' q' c' hm' => rseal_any w' K N b u q' b.length c' A' HKL.out HNL.out rfl hm' (by omega))
  obtain ⟨S, hS⟩ : ∃ S, sealS K u N b = S := ⟨_, rfl⟩
  rw [hS] at MX3 HC3 hsl hop hno HRS ⊢
  have HSL := kept hsl
  have HOP := kept hop
  have HNO := kept hno
  clear k hS hsl hop hno
  go_wp2_with (first | (refine wpList_load_row rfl 22 (.tmp 4) rfl w.heap.size rfl 22 (bA 16 (ofL K)) (0, 0) _ H0.out Tryd.underlying22 rfl (by rw [b16_size, bA_size]) ?_) | (refine wpList_load_row rfl 23 (.tmp 6) rfl (w.heap.size + 1) rfl 23 (bA 8 (ofL N)) (0, 0) _ H1.out Tryd.underlying23 rfl (by rw [b8_size, bA_size]) ?_))
  refine (HRS.out W3 A q c MB.out).mono ?_
  rintro e W4 ⟨v4, rfl, ho4, k⟩
  replace H0 := kept (H0.out.below k H0.out.lt)
  replace H1 := kept (H1.out.below k H1.out.lt)
  replace MB := kept (MB.out.below0 k)
  replace MX2 := kept (MX2.out.below0 k)
  replace MX3 := kept (MX3.out.below0 k)
  replace KA := kept (KA.out.below0 k)
  replace HW := kept (below_next HW.out k)
  obtain ⟨A4, q4, c4, hv4, hc4, hcm4, mo4, x4⟩ := ho4.form
  subst hv4
  have MX4 := kept mo4
  have HC4 := kept hc4
  clear ho4 mo4 x4 hc4 hcm4
  clear k HRS
  go_wp2_with fail
  refine (same_b W4 q3 q4 A3 A4 S.length S.length c3 c4 S rfl rfl (by have := HSL.out; omega) MX3.out MX4.out).mono ?_
  rintro e W5 ⟨rfl, k⟩
  replace H0 := kept (H0.out.below k H0.out.lt)
  replace H1 := kept (H1.out.below k H1.out.lt)
  replace MB := kept (MB.out.below0 k)
  replace MX2 := kept (MX2.out.below0 k)
  replace MX3 := kept (MX3.out.below0 k)
  replace MX4 := kept (MX4.out.below0 k)
  replace KA := kept (KA.out.below0 k)
  replace HW := kept (below_next HW.out k)
  clear k
  have hsl2 : ((S.length : Nat) : Int) = (b.length : Int) + 24 := by have := HSL.out; omega
  have hne : IntKind.i64.wrap ((b.length : Int) + 24) = (b.length : Int) + 24 := IntWalk.i64_in _ (by omega)
  go_wp2_with fail
  refine (same_b W5 q2 q A2 A b.length b.length c2 c b rfl rfl (by omega) MX2.out MB.out).mono ?_
  rintro e W6 ⟨rfl, k⟩
  replace H0 := kept (H0.out.below k H0.out.lt)
  replace H1 := kept (H1.out.below k H1.out.lt)
  replace MB := kept (MB.out.below0 k)
  replace MX2 := kept (MX2.out.below0 k)
  replace MX3 := kept (MX3.out.below0 k)
  replace MX4 := kept (MX4.out.below0 k)
  replace KA := kept (KA.out.below0 k)
  replace HW := kept (below_next HW.out k)
  clear k hsl2 hne
  go_wp2_with (first | (refine wpList_load_row rfl 22 (.tmp 4) rfl w.heap.size rfl 22 (bA 16 (ofL K)) (0, 0) _ H0.out Tryd.underlying22 rfl (by rw [b16_size, bA_size]) ?_))
  refine (open_any W6 K S u q3 S.length c3 A3 KA.out HKL.out rfl MX3.out HC3.out (by have := HSL.out; omega)).mono ?_
  rw [HOP.out]
  rintro e W7 ⟨v7, rfl, ho7, k⟩
  rw [show (some b).getD [] = b from rfl] at ho7
  replace H0 := kept (H0.out.below k H0.out.lt)
  replace H1 := kept (H1.out.below k H1.out.lt)
  replace MB := kept (MB.out.below0 k)
  replace MX2 := kept (MX2.out.below0 k)
  replace MX3 := kept (MX3.out.below0 k)
  replace MX4 := kept (MX4.out.below0 k)
  replace KA := kept (KA.out.below0 k)
  replace HW := kept (below_next HW.out k)
  obtain ⟨A7, q7, c7, hv7, hc7, hcm7, mo7, x7⟩ := ho7.form
  subst hv7
  have MX7 := kept mo7
  have HC7 := kept hc7
  clear ho7 mo7 x7 hc7 hcm7
  clear k
  go_wp2_with fail
  refine (nonce_any W7 S q3 S.length c3 A3 rfl MX3.out HC3.out (by have := HSL.out; omega)).mono ?_
  rw [HNO.out, show decide (24 ≤ S.length) = true by rw [decide_eq_true_eq]; have := HSL.out; omega]
  rintro e W8 ⟨rfl, k⟩
  replace H0 := kept (H0.out.below k H0.out.lt)
  replace H1 := kept (H1.out.below k H1.out.lt)
  replace MB := kept (MB.out.below0 k)
  replace MX2 := kept (MX2.out.below0 k)
  replace MX3 := kept (MX3.out.below0 k)
  replace MX4 := kept (MX4.out.below0 k)
  replace MX7 := kept (MX7.out.below0 k)
  replace KA := kept (KA.out.below0 k)
  replace HW := kept (below_next HW.out k)
  clear k
  have hlt : w.heap.size + 1 < W8.heap.size := H1.out.lt
  go_upto_region 9 with (refine wpList_store_row rfl 23 (.tmp 13) (.tmp 63) rfl W8.heap.size (bA 8 (ofL N)) rfl rfl 23 (bA 8 (fun _ => 0)) (Blk.new W8 _ _) (by rw [b8_size, bA_size]) (by rw [bA_size, bA_size]) (bA_one _ _) ?_)
  go_name_world W9 hW9
  have k : Below W8.heap.size W8 W9 := by rw [← hW9]; exact below_setRow ((Below.refl _ W8).alloc (Nat.le_refl _) _) (Nat.le_refl _) _
  have H2 := kept (show Blk W9 W8.heap.size 23 (bA 8 (ofL N)) by rw [← hW9]; exact setRow_heap _ _ _ _ _ _ (Blk.new W8 _ _))
  replace H0 := kept (H0.out.below k H0.out.lt)
  replace H1 := kept (H1.out.below k H1.out.lt)
  replace MB := kept (MB.out.below0 k)
  replace MX2 := kept (MX2.out.below0 k)
  replace MX3 := kept (MX3.out.below0 k)
  replace MX4 := kept (MX4.out.below0 k)
  replace MX7 := kept (MX7.out.below0 k)
  replace KA := kept (KA.out.below0 k)
  replace HW := kept (below_next HW.out k)
  clear k hW9
  generalize W8.heap.size = g13 at hlt H2 ⊢
  go_wp2_with fail
  refine (same_b W9 q7 q A7 A b.length b.length c7 c b rfl rfl (by omega) MX7.out MB.out).mono ?_
  rintro e W10 ⟨rfl, k⟩
  replace H0 := kept (H0.out.below k H0.out.lt)
  replace H1 := kept (H1.out.below k H1.out.lt)
  replace H2 := kept (H2.out.below k H2.out.lt)
  replace MB := kept (MB.out.below0 k)
  replace MX2 := kept (MX2.out.below0 k)
  replace MX3 := kept (MX3.out.below0 k)
  replace MX4 := kept (MX4.out.below0 k)
  replace MX7 := kept (MX7.out.below0 k)
  replace KA := kept (KA.out.below0 k)
  replace HW := kept (below_next HW.out k)
  clear k
  have hq := fun w' => run_eqlL8 N N HNL.out HNL.out w'
  rw [sameB_self] at hq
  go_wp2_with (first | (refine wpList_load_row_w (by rfl) 23 (.tmp 13) rfl g13 rfl 23 (bA 8 (ofL N)) (0, 0) _ H2.out Tryd.underlying23 rfl (by rw [b8_size, bA_size]) ?_) | (refine wpList_load_row_w (by rfl) 23 (.tmp 6) rfl (w.heap.size + 1) rfl 23 (bA 8 (ofL N)) (0, 0) _ H1.out Tryd.underlying23 rfl (by rw [b8_size, bA_size]) ?_))
  go_ret
  exact ⟨rfl, HW.out⟩
theorem walk_any (w : World) (K N b : List UInt8) (u : UInt8) (q c : Nat) (A : Option Addr) (hKA : KAt w) (hK : K.length = 16) (hN : N.length = 8) (hm : Mem w q A b) (hc : b.length ≤ c) : Calls Tryd.prog 3 #[.agg (bA 16 (ofL K)), .int .u8 (u.toNat : Int), .agg (bA 8 (ofL N)), .slice A b.length c] w fun e w' => e = .returned (.bool true) ∧ Below w.heap.size w w' := by
  by_cases h : 1000 < b.length
  · exact walk_long w K N b u q c A hKA hK hN hm hc h
  · exact walk_in w K N b u q c A hKA hK hN hm hc (by omega)
set_option maxRecDepth 100000 in
theorem lifted (os : Os) (started : os.Started) (H : Type) (enc : TypeId × Value → H) :
    ReturnsInHanded {} Tryd.checked os 3 .any (fun w args => (Rows.sealMatchesReferenceSpec.pre enc Tryd.prog Tryd.f3 [] false w args ∧ laidMetH Tryd.prog laidL w) ∧ sizedMet enc Tryd.prog Tryd.f3 (OpenSpec.ofChange Rows.sealMatchesReferenceSpec) false w args)
      (Rows.sealMatchesReferenceSpec.post enc Tryd.prog Tryd.f3 false true false false) := by
  refine returnsInHanded_of_change_and (C := Tryd.checked) (X := fun w _ => laidMetH Tryd.prog laidL w) (fun _ _ _ hh h => h.of_heap hh) own_knob started (by kernel_rfl) Tryd.func3
    (ChangeSpec.witness_at (enc := enc) (C := Tryd.checked) (os := os) (X := fun w _ => laidMetH Tryd.prog laidL w) false (laidWorld os) #[.agg #[.int .u8 0, .int .u8 0, .int .u8 0, .int .u8 0, .int .u8 0, .int .u8 0, .int .u8 0, .int .u8 0, .int .u8 0, .int .u8 0, .int .u8 0, .int .u8 0, .int .u8 0, .int .u8 0, .int .u8 0, .int .u8 0], .int .u8 0, .agg #[.int .u8 0, .int .u8 0, .int .u8 0, .int .u8 0, .int .u8 0, .int .u8 0, .int .u8 0, .int .u8 0], .slice none 0 0] 8 rfl (by kernel_rfl) (by kernel_rfl) (by kernel_rfl) (by kernel_rfl) (by kernel_rfl) (laidWorld_met os _)) ?_
  intro W base args ds gs before hval0 hW _ _ hL _
  have hval : ∀ (j : Nat) t v, Tryd.f3.params[j]? = some t → args[j]? = some v → Value.okWide Tryd.prog W .any base t v := hval0
  have hW' := hW
  obtain ⟨p, q, hA0, hV, rfl, hfz, hnd⟩ := hW
  have hA : DataW.TrodAll enc Tryd.prog W 0 (fun _ => true) true Tryd.f3.params.toList args.toList ds p := hA0
  rw [Tryd.params3] at hA hval
  obtain ⟨v0, v1, v2, v3, d0, d1, d2, d3, p0, p1, p2, p3, rfl, rfl, rfl, h0, h1, h2, h3⟩ := trodAll_four hA
  obtain ⟨rfl, rfl⟩ := trodVars_none hV
  have hvl0 := hval 0 22 v0 rfl rfl
  have hvl1 := hval 1 5 v1 rfl rfl
  have hvl2 := hval 2 23 v2 rfl rfl
  have hvl3 := hval 3 24 v3 rfl rfl
  obtain ⟨f0, hv0, hw0⟩ := open_arrInt _ _ 16 Tryd.underlying22 .u8 Tryd.underlying5 (by kernel_rfl) (by kernel_rfl) hvl0 h0
  obtain ⟨key, hb0⟩ := bytes_of_arr 16 f0 hw0
  rw [hb0, bA_lst] at hv0
  subst hv0
  obtain ⟨z1, rfl, rfl, rfl, w1⟩ := open_int Tryd.underlying5 hvl1 h1
  obtain ⟨u, rfl⟩ := byte_of_lit w1
  obtain ⟨f2, hv2, hw2⟩ := open_arrInt _ _ 8 Tryd.underlying23 .u8 Tryd.underlying5 (by kernel_rfl) (by kernel_rfl) hvl2 h2
  obtain ⟨nonce, hb2⟩ := bytes_of_arr 8 f2 hw2
  rw [hb2, bA_lst] at hv2
  subst hv2
  obtain ⟨A, q, c, b, rfl, hcl, _, hm⟩ := open_bytes hvl3 h3
  clear hA0 hval0
  refine (walk_any W (lst 16 key) (lst 8 nonce) b u q c A (ka_of_laid hL) (lst_len _ _) (lst_len _ _) hm hcl).mono fun e W' ⟨he, bel⟩ => ?_
  subst he
  exact ⟨_, rfl, _, _, _, [], _, [], hW', trodAll_mk1 (shut_bool Tryd.underlying4 _), trodAll_mk4 (keep_arg (by kernel_rfl) (of_decide_eq_true (by kernel_rfl)) h0 bel) (shut_int Tryd.underlying5 w1) (keep_arg (by kernel_rfl) (of_decide_eq_true (by kernel_rfl)) h2 bel) (keep_arg (by kernel_rfl) (of_decide_eq_true (by kernel_rfl)) h3 bel), rfl, bel.frame _, fun h => by cases h⟩

theorem over : Rows.sealMatchesReferenceRow.holds Tryd.pinned (OpenSpec.ofChange Rows.sealMatchesReferenceSpec) :=
  OpenClaim.holds_of_wide 3 Tryd.f3 rfl rfl rfl rfl rfl rfl rfl ⟨rfl, rfl, rfl, rfl, rfl⟩ rfl rfl rfl rfl rfl (by kernel_rfl) Tryd.func3 (by kernel_rfl)
    (of_decide_eq_true (by kernel_rfl)) (by unfold Func.isWrapper; first | (rw [if_pos (by decide +kernel)]; kernel_rfl) | (rw [if_neg (by decide +kernel)]; exact ⟨rfl, rfl⟩))
    (fun os started H enc _ => lifted os started H enc)

/-- The statement: the tied card. -/
theorem proved : Rows.SealMatchesReferenceCardSaid :=
  Claim7.holds_tied_plain_at .later [] _ true _ _ over (fun _ h => by cases h) (by kernel_rfl) (fun _ h => by cases h) sealMatchesReference_row_tie rfl ⟨rfl, rfl⟩ (by kernel_rfl) rfl
    (fun f fn hf hfn => by
      obtain rfl : f = 3 := Option.some.inj ((show Tryd.prog.funcNamed "toll/tolllaw09.SealMatchesReference" = some 3 by kernel_rfl).symm.trans hf) |>.symm
      obtain rfl : fn = Tryd.f3 := (Option.some.inj (Tryd.func3.symm.trans hfn)).symm
      exact ⟨by kernel_rfl, fun j t ht => by
        rw [Tryd.params3] at ht
        have hm : t ∈ [22, 5, 23, 24] := by simpa using Array.mem_of_getElem? ht
        have hall : ([22, 5, 23, 24].all fun u => !Tryd.prog.wantsStandIn u) = true := by kernel_rfl
        exact (show Tryd.prog.wantsStandIn t = false by simpa using List.all_eq_true.1 hall t hm)⟩)
    (by kernel_rfl)
#print axioms proved
end Go.Proofs.YtcjbplgjjhenkaaDoor.sealMatch
