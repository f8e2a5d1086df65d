/-
  Sealed strings of the same bytes with different nonces are different, and each one is opened: the law SealNonces returns true for every input. No condition.
-/
import Derived.Test.YtcjbplgjjhenkaaDoorSm38
import Derived.Test.YtcjbplgjjhenkaaDoorSm15
import Derived.Test.YtcjbplgjjhenkaaDoorSm4
namespace Go.Proofs.YtcjbplgjjhenkaaDoor.sealNonces
open Go.ChangeShapes Go.WideShapes Go.ChangeAt Go.RowKit
set_option linter.unusedVariables false
set_option linter.unusedSimpArgs false

set_option maxHeartbeats 4000000 in
set_option maxRecDepth 100000 in
theorem walk_long (w : World) (KK N N2 b : List UInt8) (q c : Nat) (AA : Option Addr) (hKA : KAt w) (hK : KK.length = 16) (hN : N.length = 8) (hN2 : N2.length = 8) (hm : Mem w q AA b) (hc : b.length ≤ c) (h : 500 < b.length) :
    Calls Tryd.prog 7 #[.agg (bA 16 (ofL KK)), .agg (bA 8 (ofL N)), .agg (bA 8 (ofL N2)), .slice AA b.length c] w fun e w' => e = .returned (.bool true) ∧ Below w.heap.size w w' := by
  have KA := kept hKA
  have hd : decide ((500 : Int) < (b.length : Int)) = true := by rw [decide_eq_true_eq]; omega
  clear hKA
  clear hm
  go_enter Tryd.func7, Tryd.ntmps7
  go_upto_region 1 with (fail)
  go_name_world W0 hW0
  have H0 := kept (show Blk W0 w.heap.size 22 (bA 16 (ofL KK)) by rw [← hW0]; exact ((Blk.new w _ _).alloc _).alloc _)
  have H1 := kept (show Blk W0 (w.heap.size + 1) 23 (bA 8 (ofL N)) by
    rw [← hW0]
    have n1 := Blk.new (w.alloc (.cells (bA 16 (ofL KK)) 22)) 23 (bA 8 (ofL N))
    simp only [World.size_alloc] at n1
    exact n1.alloc _)
  have H2 := kept (show Blk W0 (w.heap.size + 1 + 1) 23 (bA 8 (ofL N2)) by
    rw [← hW0]
    have n2 := Blk.new ((w.alloc (.cells (bA 16 (ofL KK)) 22)).alloc (.cells (bA 8 (ofL N)) 23)) 23 (bA 8 (ofL N2))
    simpa only [World.size_alloc] using n2)
  have HW := kept (show Below w.heap.size w W0 by rw [← hW0]; exact (((Below.refl _ w).alloc (Nat.le_refl _) _).alloc (by simp) _).alloc (by simp; omega) _)
  clear hW0
  replace KA := kept (KA.out.below0 HW.out)
  go_wp2_with fail
  refine (sawake_any W0 KA.out).mono ?_
  rintro e W1 ⟨rfl, k⟩
  replace H0 := kept (H0.out.below k H0.out.lt)
  replace H1 := kept (H1.out.below k H1.out.lt)
  replace H2 := kept (H2.out.below k H2.out.lt)
  replace KA := kept (KA.out.below0 k)
  replace HW := kept (below_next HW.out k)
  clear k
  go_wp2_with fail
  refine (sawake_any W1 KA.out).mono ?_
  rintro e W2 ⟨rfl, k⟩
  replace H0 := kept (H0.out.below k H0.out.lt)
  replace H1 := kept (H1.out.below k H1.out.lt)
  replace H2 := kept (H2.out.below k H2.out.lt)
  replace KA := kept (KA.out.below0 k)
  replace HW := kept (below_next HW.out k)
  clear k
  go_wp2_with fail
  go_ret
  exact ⟨rfl, HW.out⟩
set_option maxHeartbeats 4000000 in
set_option maxRecDepth 100000 in
theorem walk_in (w : World) (KK N N2 b : List UInt8) (q c : Nat) (AA : Option Addr) (hKA : KAt w) (hK : KK.length = 16) (hN : N.length = 8) (hN2 : N2.length = 8) (hm : Mem w q AA b) (hc : b.length ≤ c) (h : b.length ≤ 500) :
    Calls Tryd.prog 7 #[.agg (bA 16 (ofL KK)), .agg (bA 8 (ofL N)), .agg (bA 8 (ofL N2)), .slice AA b.length c] w fun e w' => e = .returned (.bool true) ∧ Below w.heap.size w w' := by
  have KA := kept hKA
  have HKL := kept hK
  have HNL := kept hN
  have HNL2 := kept hN2
  have HCB := kept hc
  have hd : decide ((500 : Int) < (b.length : Int)) = false := by rw [decide_eq_false_iff_not]; omega
  have MB := kept hm
  clear hKA hK hN hN2 hm hc
  go_enter Tryd.func7, Tryd.ntmps7
  go_upto_region 1 with (fail)
  go_name_world W0 hW0
  have H0 := kept (show Blk W0 w.heap.size 22 (bA 16 (ofL KK)) by rw [← hW0]; exact ((Blk.new w _ _).alloc _).alloc _)
  have H1 := kept (show Blk W0 (w.heap.size + 1) 23 (bA 8 (ofL N)) by
    rw [← hW0]
    have n1 := Blk.new (w.alloc (.cells (bA 16 (ofL KK)) 22)) 23 (bA 8 (ofL N))
    simp only [World.size_alloc] at n1
    exact n1.alloc _)
  have H2 := kept (show Blk W0 (w.heap.size + 1 + 1) 23 (bA 8 (ofL N2)) by
    rw [← hW0]
    have n2 := Blk.new ((w.alloc (.cells (bA 16 (ofL KK)) 22)).alloc (.cells (bA 8 (ofL N)) 23)) 23 (bA 8 (ofL N2))
    simpa only [World.size_alloc] using n2)
  have HW := kept (show Below w.heap.size w W0 by rw [← hW0]; exact (((Below.refl _ w).alloc (Nat.le_refl _) _).alloc (by simp) _).alloc (by simp; omega) _)
  clear hW0
  replace KA := kept (KA.out.below0 HW.out)
  replace MB := kept (MB.out.below0 HW.out)
  go_wp2_with fail
  refine (sawake_any W0 KA.out).mono ?_
  rintro e W1 ⟨rfl, k⟩
  replace H0 := kept (H0.out.below k H0.out.lt)
  replace H1 := kept (H1.out.below k H1.out.lt)
  replace H2 := kept (H2.out.below k H2.out.lt)
  replace MB := kept (MB.out.below0 k)
  replace KA := kept (KA.out.below0 k)
  replace HW := kept (below_next HW.out k)
  clear k
  have HS1 := kept (fun w' hk hm' => seal_any w' KK N b 1 q b.length c AA hk HKL.out HNL.out rfl hm' HCB.out (by omega))
  have HS2 := kept (fun w' hk hm' => seal_any w' KK N2 b 1 q b.length c AA hk HKL.out HNL2.out rfl hm' HCB.out (by omega))
  have h1l := sealS_len KK 1 N b HNL.out
  have h2l := sealS_len KK 1 N2 b HNL2.out
  have ho1 := sealO_sealS KK 1 N b HNL.out
  have ho2 := sealO_sealS KK 1 N2 b HNL2.out
  have hsame : sameB (sealS KK 1 N b) (sealS KK 1 N2 b) = sameB N N2 := by
    unfold sameB
    rw [decide_eq_decide]
    exact sealS_nonce KK 1 N N2 b HNL.out HNL2.out
  obtain ⟨X, hX⟩ : ∃ X, sealS KK 1 N b = X := ⟨_, rfl⟩
  obtain ⟨Y, hY⟩ : ∃ Y, sealS KK 1 N2 b = Y := ⟨_, rfl⟩
  rw [hX] at HS1 h1l ho1 hsame
  rw [hY] at HS2 h2l ho2 hsame
  have HXL := kept (show X.length ≤ 524 by omega)
  have HYL := kept (show Y.length ≤ 524 by omega)
  have HOX := kept ho1
  have HOY := kept ho2
  have HSM := kept hsame
  clear hX hY h1l h2l ho1 ho2 hsame
  go_wp2_with (first | (refine wpList_load_row rfl 22 (.tmp 4) rfl w.heap.size rfl 22 (bA 16 (ofL KK)) (0, 0) _ H0.out Tryd.underlying22 rfl (by rw [b16_size, bA_size]) ?_) | (refine wpList_load_row rfl 23 (.tmp 5) rfl (w.heap.size + 1) rfl 23 (bA 8 (ofL N)) (0, 0) _ H1.out Tryd.underlying23 rfl (by rw [b8_size, bA_size]) ?_))
  refine (HS1.out W1 KA.out MB.out).mono ?_
  rintro e W2 ⟨v2, rfl, o2, k⟩
  replace H0 := kept (H0.out.below k H0.out.lt)
  replace H1 := kept (H1.out.below k H1.out.lt)
  replace H2 := kept (H2.out.below k H2.out.lt)
  replace MB := kept (MB.out.below0 k)
  replace KA := kept (KA.out.below0 k)
  replace HW := kept (below_next HW.out k)
  obtain ⟨A2, q2, c2, hv2, hc2, hcm2, mo2, x2⟩ := o2.form
  subst hv2
  have MX2 := kept mo2
  have HC2 := kept hc2
  clear o2 mo2 x2 hc2 hcm2
  clear k HS1
  go_wp2_with (first | (refine wpList_load_row rfl 22 (.tmp 4) rfl w.heap.size rfl 22 (bA 16 (ofL KK)) (0, 0) _ H0.out Tryd.underlying22 rfl (by rw [b16_size, bA_size]) ?_) | (refine wpList_load_row rfl 23 (.tmp 6) rfl (w.heap.size + 1 + 1) rfl 23 (bA 8 (ofL N2)) (0, 0) _ H2.out Tryd.underlying23 rfl (by rw [b8_size, bA_size]) ?_))
  refine (HS2.out W2 KA.out MB.out).mono ?_
  rintro e W3 ⟨v3, rfl, o3, k⟩
  replace H0 := kept (H0.out.below k H0.out.lt)
  replace H1 := kept (H1.out.below k H1.out.lt)
  replace H2 := kept (H2.out.below k H2.out.lt)
  replace MB := kept (MB.out.below0 k)
  replace MX2 := kept (MX2.out.below0 k)
  replace KA := kept (KA.out.below0 k)
  replace HW := kept (below_next HW.out k)
  obtain ⟨A3, q3, c3, hv3, hc3, hcm3, mo3, x3⟩ := o3.form
  subst hv3
  have MX3 := kept mo3
  have HC3 := kept hc3
  clear o3 mo3 x3 hc3 hcm3
  clear k HS2
  go_wp2_with (first | (refine wpList_load_row rfl 22 (.tmp 4) rfl w.heap.size rfl 22 (bA 16 (ofL KK)) (0, 0) _ H0.out Tryd.underlying22 rfl (by rw [b16_size, bA_size]) ?_))
  refine (open_any W3 KK X 1 q2 X.length c2 A2 KA.out HKL.out rfl MX2.out HC2.out (by have := HXL.out; omega)).mono ?_
  rw [HOX.out]
  rintro e W4 ⟨v4, rfl, o4, k⟩
  rw [show (some b).getD [] = b from rfl] at o4
  replace H0 := kept (H0.out.below k H0.out.lt)
  replace H1 := kept (H1.out.below k H1.out.lt)
  replace H2 := kept (H2.out.below k H2.out.lt)
  replace MB := kept (MB.out.below0 k)
  replace MX2 := kept (MX2.out.below0 k)
  replace MX3 := kept (MX3.out.below0 k)
  replace KA := kept (KA.out.below0 k)
  replace HW := kept (below_next HW.out k)
  obtain ⟨A4, q4, c4, hv4, hc4, hcm4, mo4, x4⟩ := o4.form
  subst hv4
  have MX4 := kept mo4
  have HC4 := kept hc4
  clear o4 mo4 x4 hc4 hcm4
  clear k
  go_wp2_with (first | (refine wpList_load_row rfl 22 (.tmp 4) rfl w.heap.size rfl 22 (bA 16 (ofL KK)) (0, 0) _ H0.out Tryd.underlying22 rfl (by rw [b16_size, bA_size]) ?_))
  refine (open_any W4 KK Y 1 q3 Y.length c3 A3 KA.out HKL.out rfl MX3.out HC3.out (by have := HYL.out; omega)).mono ?_
  rw [HOY.out]
  rintro e W5 ⟨v5, rfl, o5, k⟩
  rw [show (some b).getD [] = b from rfl] at o5
  replace H0 := kept (H0.out.below k H0.out.lt)
  replace H1 := kept (H1.out.below k H1.out.lt)
  replace H2 := kept (H2.out.below k H2.out.lt)
  replace MB := kept (MB.out.below0 k)
  replace MX2 := kept (MX2.out.below0 k)
  replace MX3 := kept (MX3.out.below0 k)
  replace MX4 := kept (MX4.out.below0 k)
  replace KA := kept (KA.out.below0 k)
  replace HW := kept (below_next HW.out k)
  obtain ⟨A5, q5, c5, hv5, hc5, hcm5, mo5, x5⟩ := o5.form
  subst hv5
  have MX5 := kept mo5
  have HC5 := kept hc5
  clear o5 mo5 x5 hc5 hcm5
  clear k
  go_upto_region 7 with (fail)
  obtain ⟨SB, hSB⟩ : ∃ SB, sameB N N2 = SB := ⟨_, rfl⟩
  have hq := fun w' => run_eqlL8 N N2 HNL.out HNL2.out w'
  rw [hSB] at hq HSM
  have hsb : (SB == SB) = true := by simp
  have R1 := kept (show ∀ w', Below W5.heap.size W5 w' → w'.rangeAt (w.heap.size + 1) 0 (bA 8 (ofL N)).toList from fun w' h => (H1.out.below h H1.out.lt).range)
  have R2 := kept (show ∀ w', Below W5.heap.size W5 w' → w'.rangeAt (w.heap.size + 1 + 1) 0 (bA 8 (ofL N2)).toList from fun w' h => (H2.out.below h H2.out.lt).range)
  have HSA := kept (show ∀ w' : World, Mem w' q2 A2 X → Mem w' q3 A3 Y → Calls Tryd.prog 10 #[.slice A2 X.length c2, .slice A3 Y.length c3] w' fun e w2 => e = .returned (.bool SB) ∧ Below w'.heap.size w' w2 from fun w' h1 h2 => by
    refine (same_any w' q2 q3 A2 A3 X.length Y.length c2 c3 X Y rfl rfl (by have := HXL.out; omega) h1 h2).mono fun e w2 ⟨he, n, hw⟩ => ⟨?_, ?_⟩
    · rw [he, HSM.out]
    · rw [hw]
      exact below_drewN (Below.refl _ _) n)
  refine wp_region_flow 23 (fun w' => Below W5.heap.size W5 w') [fun v _ => v = .slice A2 X.length c2, fun v _ => v = .slice A3 Y.length c3, fun v _ => v = .bool SB, fun v _ => v = .agg (bA 8 (ofL N)), fun v _ => v = .agg (bA 8 (ofL N2)), fun v _ => v = .bool SB, fun v _ => v = .bool true, fun v _ => v = .bool true, fun v _ => v = .bool true, fun v _ => v = .bool true, fun v _ => v = .bool true, fun v _ => v = .bool true, fun v _ => v = .bool true, fun v _ => v = .bool true, fun v _ => v = .slice A4 b.length c4, fun v _ => v = .slice AA b.length c, fun v _ => v = .bool true, fun v _ => v = .bool true, fun v _ => v = .bool true, fun v _ => v = .slice A5 b.length c5, fun v _ => v = .slice AA b.length c, fun v _ => v = .bool true, fun v _ => v = .bool true] (by kernel_rfl) (by kernel_rfl) rfl (Below.refl _ W5).drew (fun _ _ h k => below_next h k) ?_ ?_ ?_
  · exact stable_cons (stable_eq _) (stable_cons (stable_eq _) (stable_cons (stable_eq _) (stable_cons (stable_eq _) (stable_cons (stable_eq _) (stable_cons (stable_eq _) (stable_cons (stable_eq _) (stable_cons (stable_eq _) (stable_cons (stable_eq _) (stable_cons (stable_eq _) (stable_cons (stable_eq _) (stable_cons (stable_eq _) (stable_cons (stable_eq _) (stable_cons (stable_eq _) (stable_cons (stable_eq _) (stable_cons (stable_eq _) (stable_cons (stable_eq _) (stable_cons (stable_eq _) (stable_cons (stable_eq _) (stable_cons (stable_eq _) (stable_cons (stable_eq _) (stable_cons (stable_eq _) (stable_cons (stable_eq _) (stable_nil)))))))))))))))))))))))
  · simp only [List.take_succ_cons, List.take_zero]
    refine OweAll.cons ?_ (OweAll.cons ?_ (OweAll.cons ?_ (OweAll.cons ?_ (OweAll.cons ?_ (OweAll.cons ?_ (OweAll.cons ?_ (OweAll.cons ?_ (OweAll.cons ?_ (OweAll.cons ?_ (OweAll.cons ?_ (OweAll.cons ?_ (OweAll.cons ?_ (OweAll.cons ?_ (OweAll.cons ?_ (OweAll.cons ?_ (OweAll.cons ?_ (OweAll.cons ?_ (OweAll.cons ?_ (OweAll.cons ?_ (OweAll.cons ?_ (OweAll.cons ?_ (OweAll.cons ?_ OweAll.nil))))))))))))))))))))))
    · intro us w' A hA hC hd K hK
      exact flow_value (.slice A2 X.length c2) (by rw [hA]; kernel_rfl) (by rw [hA]; kernel_rfl) rfl hK
    · intro us w' A hA hC hd K hK
      exact flow_value (.slice A3 Y.length c3) (by rw [hA]; kernel_rfl) (by rw [hA]; kernel_rfl) rfl hK
    · intro us w' A hA hC hd K hK
      have e0 : us 0 = .slice A2 X.length c2 := hd 0 (by kernel_rfl)
      have e1 : us 1 = .slice A3 Y.length c3 := hd 1 (by kernel_rfl)
      refine flow_call 10 #[us 0, us 1] (by rw [hA]; kernel_rfl) (fun _ => by rw [hA]; kernel_rfl) ?_ hK
      rw [e0, e1]
      exact calls_known (HSA.out w' (MX2.out.below0 hC) (MX3.out.below0 hC))
    · intro us w' A hA hC hd K hK
      exact flow_load (φ := fun v _ => v = .agg (bA 8 (ofL N))) (by rw [hA]; kernel_rfl) 23 (.tmp 5) rfl (w.heap.size + 1) 0 (by rw [hA]; kernel_rfl) (bA 8 (ofL N)).toList _ (R1.out w' hC) Tryd.underlying23 rfl (s8_ln _) rfl hK
    · intro us w' A hA hC hd K hK
      exact flow_load (φ := fun v _ => v = .agg (bA 8 (ofL N2))) (by rw [hA]; kernel_rfl) 23 (.tmp 6) rfl (w.heap.size + 1 + 1) 0 (by rw [hA]; kernel_rfl) (bA 8 (ofL N2)).toList _ (R2.out w' hC) Tryd.underlying23 rfl (s8_ln _) rfl hK
    · intro us w' A hA hC hd K hK
      have e3 : us 3 = .agg (bA 8 (ofL N)) := hd 3 (by kernel_rfl)
      have e4 : us 4 = .agg (bA 8 (ofL N2)) := hd 4 (by kernel_rfl)
      have ev46 : A.tmps[46]?.getD undef = us 3 := by rw [hA]; kernel_rfl
      rw [e3] at ev46
      have ev47 : A.tmps[47]?.getD undef = us 4 := by rw [hA]; kernel_rfl
      rw [e4] at ev47
      refine flow_value (.bool SB) (by rw [hA]; kernel_rfl) ?_ rfl hK
      clear hA hd hK
      go_simp
    · intro us w' A hA hC hd K hK
      have e2 : us 2 = .bool SB := hd 2 (by kernel_rfl)
      have e5 : us 5 = .bool SB := hd 5 (by kernel_rfl)
      have ev45 : A.tmps[45]?.getD undef = us 2 := by rw [hA]; kernel_rfl
      rw [e2] at ev45
      have ev48 : A.tmps[48]?.getD undef = us 5 := by rw [hA]; kernel_rfl
      rw [e5] at ev48
      refine flow_value (.bool true) (by rw [hA]; kernel_rfl) ?_ rfl hK
      clear hA hd hK
      go_simp
    · intro us w' A hA hC hd K hK
      have e6 : us 6 = .bool true := hd 6 (by kernel_rfl)
      have ev49 : A.tmps[49]?.getD undef = us 6 := by rw [hA]; kernel_rfl
      rw [e6] at ev49
      refine flow_value (.bool true) (by rw [hA]; kernel_rfl) ?_ rfl hK
      clear hA hd hK
      go_simp
    · intro us w' A hA hC hd K hK
      have e7 : us 7 = .bool true := hd 7 (by kernel_rfl)
      have gv : A.tmps[50]? = some (us 7) := by rw [hA]; kernel_rfl
      rw [e7] at gv
      exact flow_value (.bool true) (by rw [guard_known 7 true true 50 rfl rfl gv]; rfl) (by rw [hA]; kernel_rfl) rfl hK
    · intro us w' A hA hC hd K hK
      have e7 : us 7 = .bool true := hd 7 (by kernel_rfl)
      have e8 : us 8 = .bool true := hd 8 (by kernel_rfl)
      have ev50 : A.tmps[50]?.getD undef = us 7 := by rw [hA]; kernel_rfl
      rw [e7] at ev50
      have ev51 : A.tmps[51]?.getD undef = us 8 := by rw [hA]; kernel_rfl
      rw [e8] at ev51
      refine flow_value (.bool true) (by rw [hA]; kernel_rfl) ?_ rfl hK
      clear hA hd hK
      go_simp
    · intro us w' A hA hC hd K hK
      have e9 : us 9 = .bool true := hd 9 (by kernel_rfl)
      have ev52 : A.tmps[52]?.getD undef = us 9 := by rw [hA]; kernel_rfl
      rw [e9] at ev52
      refine flow_value (.bool true) (by rw [hA]; kernel_rfl) ?_ rfl hK
      clear hA hd hK
      go_simp
    · intro us w' A hA hC hd K hK
      have e10 : us 10 = .bool true := hd 10 (by kernel_rfl)
      have gv : A.tmps[53]? = some (us 10) := by rw [hA]; kernel_rfl
      rw [e10] at gv
      exact flow_value (.bool true) (by rw [guard_known 10 true true 53 rfl rfl gv]; rfl) (by rw [hA]; kernel_rfl) rfl hK
    · intro us w' A hA hC hd K hK
      have e10 : us 10 = .bool true := hd 10 (by kernel_rfl)
      have e11 : us 11 = .bool true := hd 11 (by kernel_rfl)
      have ev53 : A.tmps[53]?.getD undef = us 10 := by rw [hA]; kernel_rfl
      rw [e10] at ev53
      have ev54 : A.tmps[54]?.getD undef = us 11 := by rw [hA]; kernel_rfl
      rw [e11] at ev54
      refine flow_value (.bool true) (by rw [hA]; kernel_rfl) ?_ rfl hK
      clear hA hd hK
      go_simp
    · intro us w' A hA hC hd K hK
      have e12 : us 12 = .bool true := hd 12 (by kernel_rfl)
      have ev55 : A.tmps[55]?.getD undef = us 12 := by rw [hA]; kernel_rfl
      rw [e12] at ev55
      refine flow_value (.bool true) (by rw [hA]; kernel_rfl) ?_ rfl hK
      clear hA hd hK
      go_simp
    · intro us w' A hA hC hd K hK
      have e13 : us 13 = .bool true := hd 13 (by kernel_rfl)
      have gv : A.tmps[56]? = some (us 13) := by rw [hA]; kernel_rfl
      rw [e13] at gv
      exact flow_value (.slice A4 b.length c4) (by rw [guard_known 13 true true 56 rfl rfl gv]; rfl) (by rw [hA]; kernel_rfl) rfl hK
    · intro us w' A hA hC hd K hK
      have e13 : us 13 = .bool true := hd 13 (by kernel_rfl)
      have gv : A.tmps[56]? = some (us 13) := by rw [hA]; kernel_rfl
      rw [e13] at gv
      exact flow_value (.slice AA b.length c) (by rw [guard_known 13 true true 56 rfl rfl gv]; rfl) (by rw [hA]; kernel_rfl) rfl hK
    · intro us w' A hA hC hd K hK
      have e14 : us 14 = .slice A4 b.length c4 := hd 14 (by kernel_rfl)
      have e15 : us 15 = .slice AA b.length c := hd 15 (by kernel_rfl)
      have e13 : us 13 = .bool true := hd 13 (by kernel_rfl)
      have gv : A.tmps[56]? = some (us 13) := by rw [hA]; kernel_rfl
      rw [e13] at gv
      refine flow_call 10 #[us 14, us 15] (by rw [guard_known 13 true true 56 rfl rfl gv]; rfl) (fun _ => by rw [hA]; kernel_rfl) ?_ hK
      rw [e14, e15]
      exact calls_known (same_b w' q4 q A4 AA _ _ c4 c b rfl rfl (by omega) (MX4.out.below0 hC) (MB.out.below0 hC))
    · intro us w' A hA hC hd K hK
      have e13 : us 13 = .bool true := hd 13 (by kernel_rfl)
      have e16 : us 16 = .bool true := hd 16 (by kernel_rfl)
      have ev56 : A.tmps[56]?.getD undef = us 13 := by rw [hA]; kernel_rfl
      rw [e13] at ev56
      have ev59 : A.tmps[59]?.getD undef = us 16 := by rw [hA]; kernel_rfl
      rw [e16] at ev59
      refine flow_value (.bool true) (by rw [hA]; kernel_rfl) ?_ rfl hK
      clear hA hd hK
      go_simp
    · intro us w' A hA hC hd K hK
      have e17 : us 17 = .bool true := hd 17 (by kernel_rfl)
      have ev60 : A.tmps[60]?.getD undef = us 17 := by rw [hA]; kernel_rfl
      rw [e17] at ev60
      refine flow_value (.bool true) (by rw [hA]; kernel_rfl) ?_ rfl hK
      clear hA hd hK
      go_simp
    · intro us w' A hA hC hd K hK
      have e18 : us 18 = .bool true := hd 18 (by kernel_rfl)
      have gv : A.tmps[61]? = some (us 18) := by rw [hA]; kernel_rfl
      rw [e18] at gv
      exact flow_value (.slice A5 b.length c5) (by rw [guard_known 18 true true 61 rfl rfl gv]; rfl) (by rw [hA]; kernel_rfl) rfl hK
    · intro us w' A hA hC hd K hK
      have e18 : us 18 = .bool true := hd 18 (by kernel_rfl)
      have gv : A.tmps[61]? = some (us 18) := by rw [hA]; kernel_rfl
      rw [e18] at gv
      exact flow_value (.slice AA b.length c) (by rw [guard_known 18 true true 61 rfl rfl gv]; rfl) (by rw [hA]; kernel_rfl) rfl hK
    · intro us w' A hA hC hd K hK
      have e19 : us 19 = .slice A5 b.length c5 := hd 19 (by kernel_rfl)
      have e20 : us 20 = .slice AA b.length c := hd 20 (by kernel_rfl)
      have e18 : us 18 = .bool true := hd 18 (by kernel_rfl)
      have gv : A.tmps[61]? = some (us 18) := by rw [hA]; kernel_rfl
      rw [e18] at gv
      refine flow_call 10 #[us 19, us 20] (by rw [guard_known 18 true true 61 rfl rfl gv]; rfl) (fun _ => by rw [hA]; kernel_rfl) ?_ hK
      rw [e19, e20]
      exact calls_known (same_b w' q5 q A5 AA _ _ c5 c b rfl rfl (by omega) (MX5.out.below0 hC) (MB.out.below0 hC))
    · intro us w' A hA hC hd K hK
      have e18 : us 18 = .bool true := hd 18 (by kernel_rfl)
      have e21 : us 21 = .bool true := hd 21 (by kernel_rfl)
      have ev61 : A.tmps[61]?.getD undef = us 18 := by rw [hA]; kernel_rfl
      rw [e18] at ev61
      have ev64 : A.tmps[64]?.getD undef = us 21 := by rw [hA]; kernel_rfl
      rw [e21] at ev64
      refine flow_value (.bool true) (by rw [hA]; kernel_rfl) ?_ rfl hK
      clear hA hd hK
      go_simp
  · intro us w' A hA hC hd
    subst hA
    have e0 : us 0 = .slice A2 X.length c2 := hd 0 (by omega)
    have e1 : us 1 = .slice A3 Y.length c3 := hd 1 (by omega)
    have e2 : us 2 = .bool SB := hd 2 (by omega)
    have e3 : us 3 = .agg (bA 8 (ofL N)) := hd 3 (by omega)
    have e4 : us 4 = .agg (bA 8 (ofL N2)) := hd 4 (by omega)
    have e5 : us 5 = .bool SB := hd 5 (by omega)
    have e6 : us 6 = .bool true := hd 6 (by omega)
    have e7 : us 7 = .bool true := hd 7 (by omega)
    have e8 : us 8 = .bool true := hd 8 (by omega)
    have e9 : us 9 = .bool true := hd 9 (by omega)
    have e10 : us 10 = .bool true := hd 10 (by omega)
    have e11 : us 11 = .bool true := hd 11 (by omega)
    have e12 : us 12 = .bool true := hd 12 (by omega)
    have e13 : us 13 = .bool true := hd 13 (by omega)
    have e14 : us 14 = .slice A4 b.length c4 := hd 14 (by omega)
    have e15 : us 15 = .slice AA b.length c := hd 15 (by omega)
    have e16 : us 16 = .bool true := hd 16 (by omega)
    have e17 : us 17 = .bool true := hd 17 (by omega)
    have e18 : us 18 = .bool true := hd 18 (by omega)
    have e19 : us 19 = .slice A5 b.length c5 := hd 19 (by omega)
    have e20 : us 20 = .slice AA b.length c := hd 20 (by omega)
    have e21 : us 21 = .bool true := hd 21 (by omega)
    have e22 : us 22 = .bool true := hd 22 (by omega)
    simp only [List.take_succ_cons, List.take_zero, List.drop_succ_cons, List.drop_zero, fillAct, Act.put, Nat.zero_add, Nat.reduceAdd, List.setIfInBounds_toArray, List.set_cons_zero, List.set_cons_succ, e0, e1, e2, e3, e4, e5, e6, e7, e8, e9, e10, e11, e12, e13, e14, e15, e16, e17, e18, e19, e20, e21, e22]
    clear hd 
    have hW := HW.out.trans (hC.mono HW.out.size)
    go_wp2
    go_ret
    exact ⟨rfl, hW⟩
theorem walk_any (w : World) (K N N2 b : List UInt8) (q c : Nat) (A : Option Addr) (hKA : KAt w) (hK : K.length = 16) (hN : N.length = 8) (hN2 : N2.length = 8) (hm : Mem w q A b) (hc : b.length ≤ c) : Calls Tryd.prog 7 #[.agg (bA 16 (ofL K)), .agg (bA 8 (ofL N)), .agg (bA 8 (ofL N2)), .slice A b.length c] w fun e w' => e = .returned (.bool true) ∧ Below w.heap.size w w' := by
  by_cases h : 500 < b.length
  · exact walk_long w K N N2 b q c A hKA hK hN hN2 hm hc h
  · exact walk_in w K N N2 b q c A hKA hK hN hN2 hm hc (by omega)
set_option maxRecDepth 100000 in
theorem lifted (os : Os) (started : os.Started) (H : Type) (enc : TypeId × Value → H) :
    ReturnsInHanded {} Tryd.checked os 7 .any (fun w args => (Rows.sealNoncesSpec.pre enc Tryd.prog Tryd.f7 [] false w args ∧ laidMetH Tryd.prog laidL w) ∧ sizedMet enc Tryd.prog Tryd.f7 (OpenSpec.ofChange Rows.sealNoncesSpec) false w args)
      (Rows.sealNoncesSpec.post enc Tryd.prog Tryd.f7 false true false false) := by
  refine returnsInHanded_of_change_and (C := Tryd.checked) (X := fun w _ => laidMetH Tryd.prog laidL w) (fun _ _ _ hh h => h.of_heap hh) own_knob started (by kernel_rfl) Tryd.func7
    (ChangeSpec.witness_at (enc := enc) (C := Tryd.checked) (os := os) (X := fun w _ => laidMetH Tryd.prog laidL w) false (laidWorld os) #[.agg #[.int .u8 0, .int .u8 0, .int .u8 0, .int .u8 0, .int .u8 0, .int .u8 0, .int .u8 0, .int .u8 0, .int .u8 0, .int .u8 0, .int .u8 0, .int .u8 0, .int .u8 0, .int .u8 0, .int .u8 0, .int .u8 0], .agg #[.int .u8 0, .int .u8 0, .int .u8 0, .int .u8 0, .int .u8 0, .int .u8 0, .int .u8 0, .int .u8 0], .agg #[.int .u8 0, .int .u8 0, .int .u8 0, .int .u8 0, .int .u8 0, .int .u8 0, .int .u8 0, .int .u8 0], .slice none 0 0] 8 rfl (by kernel_rfl) (by kernel_rfl) (by kernel_rfl) (by kernel_rfl) (by kernel_rfl) (laidWorld_met os _)) ?_
  intro W base args ds gs before hval0 hW _ _ hL _
  have hval : ∀ (j : Nat) t v, Tryd.f7.params[j]? = some t → args[j]? = some v → Value.okWide Tryd.prog W .any base t v := hval0
  have hW' := hW
  obtain ⟨p, q, hA0, hV, rfl, hfz, hnd⟩ := hW
  have hA : DataW.TrodAll enc Tryd.prog W 0 (fun _ => true) true Tryd.f7.params.toList args.toList ds p := hA0
  rw [Tryd.params7] at hA hval
  obtain ⟨v0, v1, v2, v3, d0, d1, d2, d3, p0, p1, p2, p3, rfl, rfl, rfl, h0, h1, h2, h3⟩ := trodAll_four hA
  obtain ⟨rfl, rfl⟩ := trodVars_none hV
  have hvl0 := hval 0 22 v0 rfl rfl
  have hvl1 := hval 1 23 v1 rfl rfl
  have hvl2 := hval 2 23 v2 rfl rfl
  have hvl3 := hval 3 24 v3 rfl rfl
  obtain ⟨f0, hv0, hw0⟩ := open_arrInt _ _ 16 Tryd.underlying22 .u8 Tryd.underlying5 (by kernel_rfl) (by kernel_rfl) hvl0 h0
  obtain ⟨key, hb0⟩ := bytes_of_arr 16 f0 hw0
  rw [hb0, bA_lst] at hv0
  subst hv0
  obtain ⟨f1, hv1, hw1⟩ := open_arrInt _ _ 8 Tryd.underlying23 .u8 Tryd.underlying5 (by kernel_rfl) (by kernel_rfl) hvl1 h1
  obtain ⟨n1, hb1⟩ := bytes_of_arr 8 f1 hw1
  rw [hb1, bA_lst] at hv1
  subst hv1
  obtain ⟨f2, hv2, hw2⟩ := open_arrInt _ _ 8 Tryd.underlying23 .u8 Tryd.underlying5 (by kernel_rfl) (by kernel_rfl) hvl2 h2
  obtain ⟨n2, hb2⟩ := bytes_of_arr 8 f2 hw2
  rw [hb2, bA_lst] at hv2
  subst hv2
  obtain ⟨A, q, c, b, rfl, hcl, _, hm⟩ := open_bytes hvl3 h3
  clear hA0 hval0
  refine (walk_any W (lst 16 key) (lst 8 n1) (lst 8 n2) b q c A (ka_of_laid hL) (lst_len _ _) (lst_len _ _) (lst_len _ _) hm hcl).mono fun e W' ⟨he, bel⟩ => ?_
  subst he
  exact ⟨_, rfl, _, _, _, [], _, [], hW', trodAll_mk1 (shut_bool Tryd.underlying4 _), trodAll_mk4 (keep_arg (by kernel_rfl) (of_decide_eq_true (by kernel_rfl)) h0 bel) (keep_arg (by kernel_rfl) (of_decide_eq_true (by kernel_rfl)) h1 bel) (keep_arg (by kernel_rfl) (of_decide_eq_true (by kernel_rfl)) h2 bel) (keep_arg (by kernel_rfl) (of_decide_eq_true (by kernel_rfl)) h3 bel), rfl, bel.frame _, fun h => by cases h⟩

theorem over : Rows.sealNoncesRow.holds Tryd.pinned (OpenSpec.ofChange Rows.sealNoncesSpec) :=
  OpenClaim.holds_of_wide 7 Tryd.f7 rfl rfl rfl rfl rfl rfl rfl ⟨rfl, rfl, rfl, rfl, rfl⟩ rfl rfl rfl rfl rfl (by kernel_rfl) Tryd.func7 (by kernel_rfl)
    (of_decide_eq_true (by kernel_rfl)) (by unfold Func.isWrapper; first | (rw [if_pos (by decide +kernel)]; kernel_rfl) | (rw [if_neg (by decide +kernel)]; exact ⟨rfl, rfl⟩))
    (fun os started H enc _ => lifted os started H enc)

/-- The statement: the tied card. -/
theorem proved : Rows.SealNoncesCardSaid :=
  Claim7.holds_tied_plain_at .later [] _ true _ _ over (fun _ h => by cases h) (by kernel_rfl) (fun _ h => by cases h) sealNonces_row_tie rfl ⟨rfl, rfl⟩ (by kernel_rfl) rfl
    (fun f fn hf hfn => by
      obtain rfl : f = 7 := Option.some.inj ((show Tryd.prog.funcNamed "toll/tolllaw09.SealNonces" = some 7 by kernel_rfl).symm.trans hf) |>.symm
      obtain rfl : fn = Tryd.f7 := (Option.some.inj (Tryd.func7.symm.trans hfn)).symm
      exact ⟨by kernel_rfl, fun j t ht => by
        rw [Tryd.params7] at ht
        have hm : t ∈ [22, 23, 23, 24] := by simpa using Array.mem_of_getElem? ht
        have hall : ([22, 23, 23, 24].all fun u => !Tryd.prog.wantsStandIn u) = true := by kernel_rfl
        exact (show Tryd.prog.wantsStandIn t = false by simpa using List.all_eq_true.1 hall t hm)⟩)
    (by kernel_rfl)
#print axioms proved
end Go.Proofs.YtcjbplgjjhenkaaDoor.sealNonces
