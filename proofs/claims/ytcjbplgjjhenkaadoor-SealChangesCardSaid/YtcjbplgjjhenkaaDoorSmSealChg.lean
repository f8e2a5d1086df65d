/-
  A sealed string that is changed, or opened under another key or usage, is opened exactly if the reference opens it, and not if its code is changed: the law SealChanges returns true for every input. No condition.
-/
import Derived.Test.YtcjbplgjjhenkaaDoorSm38
import Derived.Test.YtcjbplgjjhenkaaDoorSm15
import Derived.Test.YtcjbplgjjhenkaaDoorSm4
import Derived.Test.YtcjbplgjjhenkaaDoorSm39
import Derived.Test.YtcjbplgjjhenkaaDoorSm3
namespace Go.Proofs.YtcjbplgjjhenkaaDoor.sealChanges
open Go.ChangeShapes Go.WideShapes Go.ChangeAt Go.RowKit
set_option linter.unusedVariables false
set_option linter.unusedSimpArgs false

set_option maxHeartbeats 4000000 in
set_option maxRecDepth 100000 in
theorem walk_long (w : World) (K N b : List UInt8) (u κ : UInt8) (a q c : Nat) (A : Option Addr) (ha : a < 65536) (hKA : KAt w) (hK : K.length = 16) (hN : N.length = 8) (hm : Mem w q A b) (hc : b.length ≤ c) (h : 500 < b.length) :
    Calls Tryd.prog 5 #[.agg (bA 16 (ofL K)), .int .u8 (u.toNat : Int), .agg (bA 8 (ofL N)), .slice A b.length c, .int .u16 (a : Int), .int .u8 (κ.toNat : Int)] w fun e w' => e = .returned (.bool true) ∧ Below w.heap.size w w' := by
  have KA := kept hKA
  have hd : decide ((500 : Int) < (b.length : Int)) = true := by rw [decide_eq_true_eq]; omega
  clear hKA
  clear hm
  go_enter Tryd.func5, Tryd.ntmps5
  go_upto_region 1 with (fail)
  go_name_world W0 hW0
  have H0 := kept (show Blk W0 w.heap.size 22 (bA 16 (ofL K)) by rw [← hW0]; exact (Blk.new w _ _).alloc _)
  have H1 := kept (show Blk W0 (w.heap.size + 1) 23 (bA 8 (ofL N)) by
    rw [← hW0]
    have n1 := Blk.new (w.alloc (.cells (bA 16 (ofL K)) 22)) 23 (bA 8 (ofL N))
    simpa only [World.size_alloc] using n1)
  have HW := kept (show Below w.heap.size w W0 by rw [← hW0]; exact ((Below.refl _ w).alloc (Nat.le_refl _) _).alloc (by simp) _)
  clear hW0
  replace KA := kept (KA.out.below0 HW.out)
  go_wp2_with fail
  refine (sawake_any W0 KA.out).mono ?_
  rintro e W1 ⟨rfl, k⟩
  replace H0 := kept (H0.out.below k H0.out.lt)
  replace H1 := kept (H1.out.below k H1.out.lt)
  replace KA := kept (KA.out.below0 k)
  replace HW := kept (below_next HW.out k)
  clear k
  go_wp2_with fail
  refine (sawake_any W1 KA.out).mono ?_
  rintro e W2 ⟨rfl, k⟩
  replace H0 := kept (H0.out.below k H0.out.lt)
  replace H1 := kept (H1.out.below k H1.out.lt)
  replace KA := kept (KA.out.below0 k)
  replace HW := kept (below_next HW.out k)
  clear k
  go_wp2_with fail
  go_ret
  exact ⟨rfl, HW.out⟩
set_option maxHeartbeats 4000000 in
set_option maxRecDepth 100000 in
theorem walk_0 (w : World) (K N b : List UInt8) (u κ : UInt8) (a q c : Nat) (A : Option Addr) (ha : a < 65536) (hKA : KAt w) (hK : K.length = 16) (hN : N.length = 8) (hm : Mem w q A b) (hc : b.length ≤ c) (h : b.length ≤ 500) (hr : κ.toNat % 5 = 0) :
    Calls Tryd.prog 5 #[.agg (bA 16 (ofL K)), .int .u8 (u.toNat : Int), .agg (bA 8 (ofL N)), .slice A b.length c, .int .u16 (a : Int), .int .u8 (κ.toNat : Int)] w fun e w' => e = .returned (.bool true) ∧ Below w.heap.size w w' := by
  obtain ⟨i0, hi0, hz0, hs0, hbb0⟩ := info_parts u8_info
  have KA := kept hKA
  have HGL := kept hKA.lt
  have HKL := kept hK
  have HNL := kept hN
  have HCB := kept hc
  have hd : decide ((500 : Int) < (b.length : Int)) = false := by rw [decide_eq_false_iff_not]; omega
  have MB := kept hm
  have HR := kept hr
  have hrk : (κ.toNat : Int).tmod 5 = 0 := by
    rw [Int.tmod_eq_emod_of_nonneg (by omega)]
    omega
  clear hKA hK hN hm hc hr
  go_enter Tryd.func5, Tryd.ntmps5
  go_upto_region 1 with (fail)
  go_name_world W0 hW0
  have H0 := kept (show Blk W0 w.heap.size 22 (bA 16 (ofL K)) by rw [← hW0]; exact (Blk.new w _ _).alloc _)
  have H1 := kept (show Blk W0 (w.heap.size + 1) 23 (bA 8 (ofL N)) by
    rw [← hW0]
    have n1 := Blk.new (w.alloc (.cells (bA 16 (ofL K)) 22)) 23 (bA 8 (ofL N))
    simpa only [World.size_alloc] using n1)
  have HW := kept (show Below w.heap.size w W0 by rw [← hW0]; exact ((Below.refl _ w).alloc (Nat.le_refl _) _).alloc (by simp) _)
  clear hW0
  replace KA := kept (KA.out.below0 HW.out)
  replace MB := kept (MB.out.below0 HW.out)
  go_wp2_with fail
  refine (sawake_any W0 KA.out).mono ?_
  rintro e W1 ⟨rfl, k⟩
  replace H0 := kept (H0.out.below k H0.out.lt)
  replace H1 := kept (H1.out.below k H1.out.lt)
  replace MB := kept (MB.out.below0 k)
  replace KA := kept (KA.out.below0 k)
  replace HW := kept (below_next HW.out k)
  clear k
  go_wp2_with (first | (refine wpList_load_row rfl 22 (.tmp 6) rfl w.heap.size rfl 22 (bA 16 (ofL K)) (0, 0) _ H0.out Tryd.underlying22 rfl (by rw [b16_size, bA_size]) ?_) | (refine wpList_load_row rfl 23 (.tmp 8) rfl (w.heap.size + 1) rfl 23 (bA 8 (ofL N)) (0, 0) _ H1.out Tryd.underlying23 rfl (by rw [b8_size, bA_size]) ?_))
  refine (rseal_any W1 K N b u q b.length c A HKL.out HNL.out rfl MB.out (by omega)).mono ?_
  rintro e W2 ⟨v2, rfl, ho2, k⟩
  have hsl := sealS_len K u N b HNL.out
  have hfl := sealF_len K N b
  have hcl := sealC_len K u (sealF K N b)
  have hlt : w.heap.size + 1 < W1.heap.size := H1.out.lt
  have hk12 := k.size
  replace H0 := kept (H0.out.below k H0.out.lt)
  replace H1 := kept (H1.out.below k H1.out.lt)
  replace MB := kept (MB.out.below0 k)
  replace KA := kept (KA.out.below0 k)
  replace HW := kept (below_next HW.out k)
  obtain ⟨A2, q2, c2, hv2, hc2, hcm2, mo2, hf2, _⟩ := ho2.form
  obtain ⟨hq2, hA2, _⟩ := hf2 (fun e => by rw [e] at hsl; simp at hsl)
  subst hA2 hv2
  obtain ⟨S, hS⟩ : ∃ S, sealS K u N b = S := ⟨_, rfl⟩
  obtain ⟨F, hF⟩ : ∃ F, sealF K N b = F := ⟨_, rfl⟩
  obtain ⟨C, hC⟩ : ∃ C, sealC K u F = C := ⟨_, rfl⟩
  have hSF : S = F ++ C := by rw [← hS, ← hC, ← hF]; rfl
  rw [hF, hC] at hcl
  rw [hF, HNL.out] at hfl
  rw [hS] at ho2 hc2 hsl ⊢
  have HO := kept ho2
  have HSL := kept hsl
  have HC2 := kept hc2
  have HSF := kept hSF
  have HFL := kept hfl
  have HCL := kept hcl
  have HCC := kept hC
  have hq1 : w.heap.size + 1 < q2 := by omega
  have hlen : 24 ≤ S.length ∧ S.length ≤ 524 := by omega
  have hB12 : W1.heap.size ≤ W2.heap.size := hk12
  have hq12 : W1.heap.size ≤ q2 := hq2
  clear k ho2 hc2 hsl mo2 hf2 hq2 hS hF hC hSF hfl hcl hcm2
  obtain ⟨i, hi⟩ : ∃ i, a % S.length = i := ⟨_, rfl⟩
  have him : (a : Int).tmod (S.length : Int) = (i : Int) := by
    rw [Int.tmod_eq_emod_of_nonneg (by omega)]
    omega
  have hil : i < S.length := by rw [← hi]; exact Nat.mod_lt _ (by omega)
  have hiI : (i : Int) < (S.length : Int) := by omega
  have hne0 : ((S.length : Nat) : Int) ≠ 0 := by omega
  clear hi
  obtain ⟨c20, f20, _⟩ := own_at HO.out i hil
  have hgx : S[i]? = some (S[i]'hil) := List.getElem?_eq_getElem hil
  obtain ⟨x, hx⟩ : ∃ x, S[i]'hil = x := ⟨_, rfl⟩
  rw [hx] at c20 hgx
  have HGX := kept hgx
  obtain ⟨e, he⟩ : ∃ e, a % 255 = e := ⟨_, rfl⟩
  have hel : e < 255 := by omega
  have hem : (a : Int).tmod 255 = (e : Int) := by
    rw [Int.tmod_eq_emod_of_nonneg (by omega)]
    omega
  obtain ⟨D, hD⟩ : ∃ D, UInt8.ofNat (1 + e) = D := ⟨_, rfl⟩
  have hDn : D.toNat = 1 + e := by
    rw [← hD, UInt8.toNat_ofNat']
    omega
  have hD0 : D ≠ 0 := fun z => by rw [z] at hDn; have : (0 : UInt8).toNat = 0 := rfl; omega
  have HD0 := kept hD0
  clear hx he hD hgx hD0
  obtain ⟨W3, hW3⟩ : ∃ W3, W3 = W2.setCell ⟨q2, i, none⟩ (.int .u8 ((gxr x D).toNat : Int)) := ⟨_, rfl⟩
  have HW3 := kept (show W2.setCell ⟨q2, i, none⟩ (.int .u8 (bits .xor .u8 (x.toNat : Int) (1 + (e : Int)))) = W3 by rw [show (1 : Int) + (e : Int) = (D.toNat : Int) by omega, gx8]; exact hW3.symm)
  replace HO := kept (show Own W3 W1.heap.size (.slice (some ⟨q2, 0, none⟩) S.length c2) (S.set i (gxr x D)) by rw [hW3]; exact own_set HO.out i (gxr x D) hil)
  replace H0 := kept (show Blk W3 w.heap.size 22 (bA 16 (ofL K)) by rw [hW3]; exact H0.out.far (by show w.heap.size ≠ q2; omega) _)
  replace KA := kept (show KAt W3 by rw [hW3]; exact KA.out.keep (Below.heap_setCell W2 _ _ _ (by have := HGL.out; show 0 ≠ q2; omega)))
  replace HW := kept (show Below w.heap.size w W3 by rw [hW3]; exact HW.out.setCell (by show w.heap.size ≤ q2; omega) _)
  clear hW3
  have hcd := sealO_changed K u F C S HSF.out HCC.out HCL.out i (gxr x D) x
  have HCD := kept (show S.length ≤ i + 16 → sealO K u (S.set i (gxr x D)) = none from fun h => hcd (by have := HSF.out; have h2 := congrArg List.length this; rw [List.length_append, HCL.out] at h2; omega) HGX.out (gxr_ne x D HD0.out))
  clear hcd
  obtain ⟨T, hT⟩ : ∃ T, S.set i (gxr x D) = T := ⟨_, rfl⟩
  have htl : T.length = S.length := by rw [← hT, List.length_set]
  rw [hT] at HO HCD
  clear hT
  rw [← htl] at HO
  have HTL := kept htl
  have HCT := kept (show T.length ≤ c2 by rw [htl]; exact HC2.out)
  have hN3 : T.length ≤ 525 := by omega
  clear htl
  go_upto_region 15 with (fail)
  rw [HW3.out, ← HTL.out]
  rw [← HTL.out] at HCD hiI
  obtain ⟨A6, q6, c6, hv6, _, _, hm6, _, _⟩ := HO.out.form
  injection hv6 with e1 e2 e3
  rw [← e1] at hm6
  have HT := kept hm6
  clear hm6 e1 e2 e3 HO
  have HLO := kept (sealO_len K u T)
  have HOA := kept (fun w' hk hm' => open_any w' K T u q6 T.length c2 (some ⟨q2, 0, none⟩) hk HKL.out rfl hm' HCT.out (by omega))
  have HOR := kept (fun w' hm' => ropen_any w' K T u q6 T.length c2 (some ⟨q2, 0, none⟩) HKL.out rfl hm' HCT.out (by omega))
  obtain ⟨O, hO⟩ : ∃ O, sealO K u T = O := ⟨_, rfl⟩
  rw [hO] at HLO HOA HOR HCD
  clear hO
  go_wp2_with (first | (refine wpList_load_row rfl 22 (.tmp 6) rfl w.heap.size rfl 22 (bA 16 (ofL K)) (0, 0) _ H0.out Tryd.underlying22 rfl (by rw [b16_size, bA_size]) ?_))
  refine (HOA.out W3 KA.out HT.out).mono ?_
  rintro e W4 ⟨v4, rfl, o4, k⟩
  replace H0 := kept (H0.out.below k H0.out.lt)
  replace HT := kept (HT.out.below0 k)
  replace KA := kept (KA.out.below0 k)
  replace HW := kept (below_next HW.out k)
  obtain ⟨A4, q4, c4, hv4, hc4, hcm4, mo4, x4⟩ := o4.form
  subst hv4
  have MX4 := kept mo4
  have HC4 := kept hc4
  clear o4 mo4 x4 hc4 hcm4
  clear k HOA
  go_wp2_with (first | (refine wpList_load_row rfl 22 (.tmp 6) rfl w.heap.size rfl 22 (bA 16 (ofL K)) (0, 0) _ H0.out Tryd.underlying22 rfl (by rw [b16_size, bA_size]) ?_))
  refine (HOR.out W4 HT.out).mono ?_
  rintro e W5 ⟨v5, rfl, o5, k⟩
  replace H0 := kept (H0.out.below k H0.out.lt)
  replace HT := kept (HT.out.below0 k)
  replace MX4 := kept (MX4.out.below0 k)
  replace KA := kept (KA.out.below0 k)
  replace HW := kept (below_next HW.out k)
  obtain ⟨A5, q5, c5, hv5, hc5, hcm5, mo5, x5⟩ := o5.form
  subst hv5
  have MX5 := kept mo5
  have HC5 := kept hc5
  clear o5 mo5 x5 hc5 hcm5
  clear k HOR
  have hb1 : (O.isSome == O.isSome) = true := by simp
  have hsb : IntKind.i64.wrap ((T.length : Int) - 16) = (T.length : Int) - 16 := IntWalk.i64_in _ (by omega)
  by_cases hcode : T.length ≤ i + 16
  · have hge : decide ((T.length : Int) - 16 ≤ (i : Int)) = true := by rw [decide_eq_true_eq]; omega
    obtain rfl : O = none := HCD.out hcode
    have hng : (none : Option (List UInt8)).isSome = false := rfl
    go_wp2_with fail
    refine (same_b W5 q4 q5 A4 A5 _ _ c4 c5 ((none : Option (List UInt8)).getD []) rfl rfl (by have := HLO.out; omega) MX4.out MX5.out).mono ?_
    rintro e W6 ⟨rfl, k⟩
    replace HW := kept (below_next HW.out k)
    clear k
    go_wp2_with fail
    go_ret
    exact ⟨rfl, HW.out⟩
  · have hge : decide ((T.length : Int) - 16 ≤ (i : Int)) = false := by rw [decide_eq_false_iff_not]; omega
    go_wp2_with fail
    refine (same_b W5 q4 q5 A4 A5 _ _ c4 c5 (O.getD []) rfl rfl (by have := HLO.out; omega) MX4.out MX5.out).mono ?_
    rintro e W6 ⟨rfl, k⟩
    replace HW := kept (below_next HW.out k)
    clear k
    go_wp2_with fail
    go_ret
    exact ⟨rfl, HW.out⟩
set_option maxHeartbeats 4000000 in
set_option maxRecDepth 100000 in
theorem walk_1 (w : World) (K N b : List UInt8) (u κ : UInt8) (a q c : Nat) (A : Option Addr) (ha : a < 65536) (hKA : KAt w) (hK : K.length = 16) (hN : N.length = 8) (hm : Mem w q A b) (hc : b.length ≤ c) (h : b.length ≤ 500) (hr : κ.toNat % 5 = 1) :
    Calls Tryd.prog 5 #[.agg (bA 16 (ofL K)), .int .u8 (u.toNat : Int), .agg (bA 8 (ofL N)), .slice A b.length c, .int .u16 (a : Int), .int .u8 (κ.toNat : Int)] w fun e w' => e = .returned (.bool true) ∧ Below w.heap.size w w' := by
  obtain ⟨i0, hi0, hz0, hs0, hbb0⟩ := info_parts u8_info
  have KA := kept hKA
  have HGL := kept hKA.lt
  have HKL := kept hK
  have HNL := kept hN
  have HCB := kept hc
  have hd : decide ((500 : Int) < (b.length : Int)) = false := by rw [decide_eq_false_iff_not]; omega
  have MB := kept hm
  have HR := kept hr
  have hrk : (κ.toNat : Int).tmod 5 = 1 := by
    rw [Int.tmod_eq_emod_of_nonneg (by omega)]
    omega
  clear hKA hK hN hm hc hr
  go_enter Tryd.func5, Tryd.ntmps5
  go_upto_region 1 with (fail)
  go_name_world W0 hW0
  have H0 := kept (show Blk W0 w.heap.size 22 (bA 16 (ofL K)) by rw [← hW0]; exact (Blk.new w _ _).alloc _)
  have H1 := kept (show Blk W0 (w.heap.size + 1) 23 (bA 8 (ofL N)) by
    rw [← hW0]
    have n1 := Blk.new (w.alloc (.cells (bA 16 (ofL K)) 22)) 23 (bA 8 (ofL N))
    simpa only [World.size_alloc] using n1)
  have HW := kept (show Below w.heap.size w W0 by rw [← hW0]; exact ((Below.refl _ w).alloc (Nat.le_refl _) _).alloc (by simp) _)
  clear hW0
  replace KA := kept (KA.out.below0 HW.out)
  replace MB := kept (MB.out.below0 HW.out)
  go_wp2_with fail
  refine (sawake_any W0 KA.out).mono ?_
  rintro e W1 ⟨rfl, k⟩
  replace H0 := kept (H0.out.below k H0.out.lt)
  replace H1 := kept (H1.out.below k H1.out.lt)
  replace MB := kept (MB.out.below0 k)
  replace KA := kept (KA.out.below0 k)
  replace HW := kept (below_next HW.out k)
  clear k
  go_wp2_with (first | (refine wpList_load_row rfl 22 (.tmp 6) rfl w.heap.size rfl 22 (bA 16 (ofL K)) (0, 0) _ H0.out Tryd.underlying22 rfl (by rw [b16_size, bA_size]) ?_) | (refine wpList_load_row rfl 23 (.tmp 8) rfl (w.heap.size + 1) rfl 23 (bA 8 (ofL N)) (0, 0) _ H1.out Tryd.underlying23 rfl (by rw [b8_size, bA_size]) ?_))
  refine (rseal_any W1 K N b u q b.length c A HKL.out HNL.out rfl MB.out (by omega)).mono ?_
  rintro e W2 ⟨v2, rfl, ho2, k⟩
  have hsl := sealS_len K u N b HNL.out
  have hfl := sealF_len K N b
  have hcl := sealC_len K u (sealF K N b)
  have hlt : w.heap.size + 1 < W1.heap.size := H1.out.lt
  have hk12 := k.size
  replace H0 := kept (H0.out.below k H0.out.lt)
  replace H1 := kept (H1.out.below k H1.out.lt)
  replace MB := kept (MB.out.below0 k)
  replace KA := kept (KA.out.below0 k)
  replace HW := kept (below_next HW.out k)
  obtain ⟨A2, q2, c2, hv2, hc2, hcm2, mo2, hf2, _⟩ := ho2.form
  obtain ⟨hq2, hA2, _⟩ := hf2 (fun e => by rw [e] at hsl; simp at hsl)
  subst hA2 hv2
  obtain ⟨S, hS⟩ : ∃ S, sealS K u N b = S := ⟨_, rfl⟩
  obtain ⟨F, hF⟩ : ∃ F, sealF K N b = F := ⟨_, rfl⟩
  obtain ⟨C, hC⟩ : ∃ C, sealC K u F = C := ⟨_, rfl⟩
  have hSF : S = F ++ C := by rw [← hS, ← hC, ← hF]; rfl
  rw [hF, hC] at hcl
  rw [hF, HNL.out] at hfl
  rw [hS] at ho2 hc2 hsl ⊢
  have HO := kept ho2
  have HSL := kept hsl
  have HC2 := kept hc2
  have HSF := kept hSF
  have HFL := kept hfl
  have HCL := kept hcl
  have HCC := kept hC
  have hq1 : w.heap.size + 1 < q2 := by omega
  have hlen : 24 ≤ S.length ∧ S.length ≤ 524 := by omega
  have hB12 : W1.heap.size ≤ W2.heap.size := hk12
  have hq12 : W1.heap.size ≤ q2 := hq2
  clear k ho2 hc2 hsl mo2 hf2 hq2 hS hF hC hSF hfl hcl hcm2
  obtain ⟨i, hi⟩ : ∃ i, a % S.length = i := ⟨_, rfl⟩
  have him : (a : Int).tmod (S.length : Int) = (i : Int) := by
    rw [Int.tmod_eq_emod_of_nonneg (by omega)]
    omega
  have hil : i < S.length := by rw [← hi]; exact Nat.mod_lt _ (by omega)
  have hiI : (i : Int) < (S.length : Int) := by omega
  have hne0 : ((S.length : Nat) : Int) ≠ 0 := by omega
  clear hi
  have hsub : IntKind.i64.wrap ((S.length : Int) - 1) = ((S.length - 1 : Nat) : Int) := by
    rw [IntWalk.i64_in _ (by omega)]
    omega
  have HSUB := kept hsub
  have hle : ((S.length - 1 : Nat) : Int) ≤ (c2 : Int) := by have := HC2.out; omega
  replace HO := kept (own_take HO.out (S.length - 1) (by omega))
  obtain ⟨T, hT⟩ : ∃ T, S.take (S.length - 1) = T := ⟨_, rfl⟩
  rw [hT] at HO
  have htl : T.length = S.length - 1 := by rw [← hT, List.length_take]; omega
  rw [← htl] at HO hsub hle
  have HTL := kept htl
  have HCT := kept (show T.length ≤ c2 by have := HC2.out; omega)
  have hN3 : T.length ≤ 525 := by omega
  clear hT htl
  go_upto_region 15 with (fail)
  obtain ⟨A6, q6, c6, hv6, _, _, hm6, _, _⟩ := HO.out.form
  injection hv6 with e1 e2 e3
  rw [← e1] at hm6
  have HT := kept hm6
  clear hm6 e1 e2 e3 HO
  have HLO := kept (sealO_len K u T)
  have HOA := kept (fun w' hk hm' => open_any w' K T u q6 T.length c2 (some ⟨q2, 0, none⟩) hk HKL.out rfl hm' HCT.out (by omega))
  have HOR := kept (fun w' hm' => ropen_any w' K T u q6 T.length c2 (some ⟨q2, 0, none⟩) HKL.out rfl hm' HCT.out (by omega))
  obtain ⟨O, hO⟩ : ∃ O, sealO K u T = O := ⟨_, rfl⟩
  rw [hO] at HLO HOA HOR
  clear hO
  go_wp2_with (first | (refine wpList_load_row rfl 22 (.tmp 6) rfl w.heap.size rfl 22 (bA 16 (ofL K)) (0, 0) _ H0.out Tryd.underlying22 rfl (by rw [b16_size, bA_size]) ?_))
  refine (HOA.out W2 KA.out HT.out).mono ?_
  rintro e W4 ⟨v4, rfl, o4, k⟩
  replace H0 := kept (H0.out.below k H0.out.lt)
  replace HT := kept (HT.out.below0 k)
  replace KA := kept (KA.out.below0 k)
  replace HW := kept (below_next HW.out k)
  obtain ⟨A4, q4, c4, hv4, hc4, hcm4, mo4, x4⟩ := o4.form
  subst hv4
  have MX4 := kept mo4
  have HC4 := kept hc4
  clear o4 mo4 x4 hc4 hcm4
  clear k HOA
  go_wp2_with (first | (refine wpList_load_row rfl 22 (.tmp 6) rfl w.heap.size rfl 22 (bA 16 (ofL K)) (0, 0) _ H0.out Tryd.underlying22 rfl (by rw [b16_size, bA_size]) ?_))
  refine (HOR.out W4 HT.out).mono ?_
  rintro e W5 ⟨v5, rfl, o5, k⟩
  replace H0 := kept (H0.out.below k H0.out.lt)
  replace HT := kept (HT.out.below0 k)
  replace MX4 := kept (MX4.out.below0 k)
  replace KA := kept (KA.out.below0 k)
  replace HW := kept (below_next HW.out k)
  obtain ⟨A5, q5, c5, hv5, hc5, hcm5, mo5, x5⟩ := o5.form
  subst hv5
  have MX5 := kept mo5
  have HC5 := kept hc5
  clear o5 mo5 x5 hc5 hcm5
  clear k HOR
  have hb1 : (O.isSome == O.isSome) = true := by simp
  go_wp2_with fail
  refine (same_b W5 q4 q5 A4 A5 _ _ c4 c5 (O.getD []) rfl rfl (by have := HLO.out; omega) MX4.out MX5.out).mono ?_
  rintro e W6 ⟨rfl, k⟩
  replace HW := kept (below_next HW.out k)
  clear k
  go_wp2_with fail
  go_ret
  exact ⟨rfl, HW.out⟩
set_option maxHeartbeats 4000000 in
set_option maxRecDepth 100000 in
theorem walk_2 (w : World) (K N b : List UInt8) (u κ : UInt8) (a q c : Nat) (A : Option Addr) (ha : a < 65536) (hKA : KAt w) (hK : K.length = 16) (hN : N.length = 8) (hm : Mem w q A b) (hc : b.length ≤ c) (h : b.length ≤ 500) (hr : κ.toNat % 5 = 2) :
    Calls Tryd.prog 5 #[.agg (bA 16 (ofL K)), .int .u8 (u.toNat : Int), .agg (bA 8 (ofL N)), .slice A b.length c, .int .u16 (a : Int), .int .u8 (κ.toNat : Int)] w fun e w' => e = .returned (.bool true) ∧ Below w.heap.size w w' := by
  obtain ⟨i0, hi0, hz0, hs0, hbb0⟩ := info_parts u8_info
  have KA := kept hKA
  have HGL := kept hKA.lt
  have HKL := kept hK
  have HNL := kept hN
  have HCB := kept hc
  have hd : decide ((500 : Int) < (b.length : Int)) = false := by rw [decide_eq_false_iff_not]; omega
  have MB := kept hm
  have HR := kept hr
  have hrk : (κ.toNat : Int).tmod 5 = 2 := by
    rw [Int.tmod_eq_emod_of_nonneg (by omega)]
    omega
  clear hKA hK hN hm hc hr
  go_enter Tryd.func5, Tryd.ntmps5
  go_upto_region 1 with (fail)
  go_name_world W0 hW0
  have H0 := kept (show Blk W0 w.heap.size 22 (bA 16 (ofL K)) by rw [← hW0]; exact (Blk.new w _ _).alloc _)
  have H1 := kept (show Blk W0 (w.heap.size + 1) 23 (bA 8 (ofL N)) by
    rw [← hW0]
    have n1 := Blk.new (w.alloc (.cells (bA 16 (ofL K)) 22)) 23 (bA 8 (ofL N))
    simpa only [World.size_alloc] using n1)
  have HW := kept (show Below w.heap.size w W0 by rw [← hW0]; exact ((Below.refl _ w).alloc (Nat.le_refl _) _).alloc (by simp) _)
  clear hW0
  replace KA := kept (KA.out.below0 HW.out)
  replace MB := kept (MB.out.below0 HW.out)
  go_wp2_with fail
  refine (sawake_any W0 KA.out).mono ?_
  rintro e W1 ⟨rfl, k⟩
  replace H0 := kept (H0.out.below k H0.out.lt)
  replace H1 := kept (H1.out.below k H1.out.lt)
  replace MB := kept (MB.out.below0 k)
  replace KA := kept (KA.out.below0 k)
  replace HW := kept (below_next HW.out k)
  clear k
  go_wp2_with (first | (refine wpList_load_row rfl 22 (.tmp 6) rfl w.heap.size rfl 22 (bA 16 (ofL K)) (0, 0) _ H0.out Tryd.underlying22 rfl (by rw [b16_size, bA_size]) ?_) | (refine wpList_load_row rfl 23 (.tmp 8) rfl (w.heap.size + 1) rfl 23 (bA 8 (ofL N)) (0, 0) _ H1.out Tryd.underlying23 rfl (by rw [b8_size, bA_size]) ?_))
  refine (rseal_any W1 K N b u q b.length c A HKL.out HNL.out rfl MB.out (by omega)).mono ?_
  rintro e W2 ⟨v2, rfl, ho2, k⟩
  have hsl := sealS_len K u N b HNL.out
  have hfl := sealF_len K N b
  have hcl := sealC_len K u (sealF K N b)
  have hlt : w.heap.size + 1 < W1.heap.size := H1.out.lt
  have hk12 := k.size
  replace H0 := kept (H0.out.below k H0.out.lt)
  replace H1 := kept (H1.out.below k H1.out.lt)
  replace MB := kept (MB.out.below0 k)
  replace KA := kept (KA.out.below0 k)
  replace HW := kept (below_next HW.out k)
  obtain ⟨A2, q2, c2, hv2, hc2, hcm2, mo2, hf2, _⟩ := ho2.form
  obtain ⟨hq2, hA2, _⟩ := hf2 (fun e => by rw [e] at hsl; simp at hsl)
  subst hA2 hv2
  obtain ⟨S, hS⟩ : ∃ S, sealS K u N b = S := ⟨_, rfl⟩
  obtain ⟨F, hF⟩ : ∃ F, sealF K N b = F := ⟨_, rfl⟩
  obtain ⟨C, hC⟩ : ∃ C, sealC K u F = C := ⟨_, rfl⟩
  have hSF : S = F ++ C := by rw [← hS, ← hC, ← hF]; rfl
  rw [hF, hC] at hcl
  rw [hF, HNL.out] at hfl
  rw [hS] at ho2 hc2 hsl ⊢
  have HO := kept ho2
  have HSL := kept hsl
  have HC2 := kept hc2
  have HSF := kept hSF
  have HFL := kept hfl
  have HCL := kept hcl
  have HCC := kept hC
  have hq1 : w.heap.size + 1 < q2 := by omega
  have hlen : 24 ≤ S.length ∧ S.length ≤ 524 := by omega
  have hB12 : W1.heap.size ≤ W2.heap.size := hk12
  have hq12 : W1.heap.size ≤ q2 := hq2
  clear k ho2 hc2 hsl mo2 hf2 hq2 hS hF hC hSF hfl hcl hcm2
  obtain ⟨i, hi⟩ : ∃ i, a % S.length = i := ⟨_, rfl⟩
  have him : (a : Int).tmod (S.length : Int) = (i : Int) := by
    rw [Int.tmod_eq_emod_of_nonneg (by omega)]
    omega
  have hil : i < S.length := by rw [← hi]; exact Nat.mod_lt _ (by omega)
  have hiI : (i : Int) < (S.length : Int) := by omega
  have hne0 : ((S.length : Nat) : Int) ≠ 0 := by omega
  clear hi
  have hwx : IntKind.u8.wrap (a : Int) = ((UInt8.ofNat (a % 256)).toNat : Int) := by
    rw [IntKind.wrap_u8, ofNat_toNat]
    omega
  obtain ⟨x, hx⟩ : ∃ x, UInt8.ofNat (a % 256) = x := ⟨_, rfl⟩
  rw [hx] at hwx
  clear hx
  have hO1 := HO.out.alloc (.cells #[.int .u8 (x.toNat : Int)] 5)
  have hM1 : Mem (W2.alloc (.cells #[.int .u8 (x.toNat : Int)] 5)) W2.heap.size (some ⟨W2.heap.size, 0, none⟩) [x] := mem_lit (l := [x]) rfl
  have hl1 : S.length + ([x] : List UInt8).length ≤ 140737488355328 := by simp; omega
  have hB1 : W1.heap.size ≤ (W2.alloc (.cells #[.int .u8 (x.toNat : Int)] 5)).heap.size := by have := hB12; simp; omega
  go_upto_region 15 with (at_builtin; refine wpList_append_bytes rfl (.tmp 65) (.tmp 68) 24 rfl W1.heap.size i0 Tryd.underlying24 hi0 hz0 hs0 hbb0 (.slice (some ⟨q2, 0, none⟩) S.length c2) S rfl hO1 W2.heap.size (some ⟨W2.heap.size, 0, none⟩) 1 1 [x] rfl rfl hM1 hl1 hB1 ?_; intro v3 W3 ho3 hg3)
  have k : Below W1.heap.size W2 W3 := ((Below.refl _ W2).alloc hB12 _).grown hg3 hB1 (fun k hk => by cases hk; exact hq12)
  have k3 : W2.grownBy W3 (some q2) := gb_then (gb_alloc (World.grownBy.refl W2 _) _) hg3 (.inl rfl)
  obtain ⟨A3, q3, c3, hv3, hc3, _, _, hf3, _⟩ := ho3.form
  obtain ⟨_, hA3, _⟩ := hf3 (by simp)
  subst hA3 hv3
  replace H0 := kept (H0.out.grown k3 (fun e => by injection e; omega))
  replace KA := kept (KA.out.keep (k3.block _ KA.out.lt (fun e => by injection e; have := HGL.out; omega)))
  replace HW := kept (HW.out.grown k3 HW.out.size (fun j hj => by cases hj; omega))
  obtain ⟨T, hT⟩ : ∃ T, S ++ [x] = T := ⟨_, rfl⟩
  rw [hT] at ho3 hc3 ⊢
  have htl : T.length = S.length + 1 := by rw [← hT, List.length_append]; rfl
  have HCT := kept hc3
  have hN3 : T.length ≤ 525 := by omega
  replace HO := kept ho3
  clear hT htl hO1 hM1 hl1 hB1 hg3 k k3 ho3 hc3 hf3
  obtain ⟨A6, q6, c6, hv6, _, _, hm6, _, _⟩ := HO.out.form
  injection hv6 with e1 e2 e3
  rw [← e1] at hm6
  have HT := kept hm6
  clear hm6 e1 e2 e3 HO
  have HLO := kept (sealO_len K u T)
  have HOA := kept (fun w' hk hm' => open_any w' K T u q6 T.length c3 (some ⟨q3, 0, none⟩) hk HKL.out rfl hm' HCT.out (by omega))
  have HOR := kept (fun w' hm' => ropen_any w' K T u q6 T.length c3 (some ⟨q3, 0, none⟩) HKL.out rfl hm' HCT.out (by omega))
  obtain ⟨O, hO⟩ : ∃ O, sealO K u T = O := ⟨_, rfl⟩
  rw [hO] at HLO HOA HOR
  clear hO
  go_wp2_with (first | (refine wpList_load_row rfl 22 (.tmp 6) rfl w.heap.size rfl 22 (bA 16 (ofL K)) (0, 0) _ H0.out Tryd.underlying22 rfl (by rw [b16_size, bA_size]) ?_))
  refine (HOA.out W3 KA.out HT.out).mono ?_
  rintro e W4 ⟨v4, rfl, o4, k⟩
  replace H0 := kept (H0.out.below k H0.out.lt)
  replace HT := kept (HT.out.below0 k)
  replace KA := kept (KA.out.below0 k)
  replace HW := kept (below_next HW.out k)
  obtain ⟨A4, q4, c4, hv4, hc4, hcm4, mo4, x4⟩ := o4.form
  subst hv4
  have MX4 := kept mo4
  have HC4 := kept hc4
  clear o4 mo4 x4 hc4 hcm4
  clear k HOA
  go_wp2_with (first | (refine wpList_load_row rfl 22 (.tmp 6) rfl w.heap.size rfl 22 (bA 16 (ofL K)) (0, 0) _ H0.out Tryd.underlying22 rfl (by rw [b16_size, bA_size]) ?_))
  refine (HOR.out W4 HT.out).mono ?_
  rintro e W5 ⟨v5, rfl, o5, k⟩
  replace H0 := kept (H0.out.below k H0.out.lt)
  replace HT := kept (HT.out.below0 k)
  replace MX4 := kept (MX4.out.below0 k)
  replace KA := kept (KA.out.below0 k)
  replace HW := kept (below_next HW.out k)
  obtain ⟨A5, q5, c5, hv5, hc5, hcm5, mo5, x5⟩ := o5.form
  subst hv5
  have MX5 := kept mo5
  have HC5 := kept hc5
  clear o5 mo5 x5 hc5 hcm5
  clear k HOR
  have hb1 : (O.isSome == O.isSome) = true := by simp
  go_wp2_with fail
  refine (same_b W5 q4 q5 A4 A5 _ _ c4 c5 (O.getD []) rfl rfl (by have := HLO.out; omega) MX4.out MX5.out).mono ?_
  rintro e W6 ⟨rfl, k⟩
  replace HW := kept (below_next HW.out k)
  clear k
  go_wp2_with fail
  go_ret
  exact ⟨rfl, HW.out⟩
set_option maxHeartbeats 4000000 in
set_option maxRecDepth 100000 in
theorem walk_3 (w : World) (K N b : List UInt8) (u κ : UInt8) (a q c : Nat) (A : Option Addr) (ha : a < 65536) (hKA : KAt w) (hK : K.length = 16) (hN : N.length = 8) (hm : Mem w q A b) (hc : b.length ≤ c) (h : b.length ≤ 500) (hr : κ.toNat % 5 = 3) :
    Calls Tryd.prog 5 #[.agg (bA 16 (ofL K)), .int .u8 (u.toNat : Int), .agg (bA 8 (ofL N)), .slice A b.length c, .int .u16 (a : Int), .int .u8 (κ.toNat : Int)] w fun e w' => e = .returned (.bool true) ∧ Below w.heap.size w w' := by
  obtain ⟨i0, hi0, hz0, hs0, hbb0⟩ := info_parts u8_info
  have KA := kept hKA
  have HGL := kept hKA.lt
  have HKL := kept hK
  have HNL := kept hN
  have HCB := kept hc
  have hd : decide ((500 : Int) < (b.length : Int)) = false := by rw [decide_eq_false_iff_not]; omega
  have MB := kept hm
  have HR := kept hr
  have hrk : (κ.toNat : Int).tmod 5 = 3 := by
    rw [Int.tmod_eq_emod_of_nonneg (by omega)]
    omega
  clear hKA hK hN hm hc hr
  go_enter Tryd.func5, Tryd.ntmps5
  go_upto_region 1 with (fail)
  go_name_world W0 hW0
  have H0 := kept (show Blk W0 w.heap.size 22 (bA 16 (ofL K)) by rw [← hW0]; exact (Blk.new w _ _).alloc _)
  have H1 := kept (show Blk W0 (w.heap.size + 1) 23 (bA 8 (ofL N)) by
    rw [← hW0]
    have n1 := Blk.new (w.alloc (.cells (bA 16 (ofL K)) 22)) 23 (bA 8 (ofL N))
    simpa only [World.size_alloc] using n1)
  have HW := kept (show Below w.heap.size w W0 by rw [← hW0]; exact ((Below.refl _ w).alloc (Nat.le_refl _) _).alloc (by simp) _)
  clear hW0
  replace KA := kept (KA.out.below0 HW.out)
  replace MB := kept (MB.out.below0 HW.out)
  go_wp2_with fail
  refine (sawake_any W0 KA.out).mono ?_
  rintro e W1 ⟨rfl, k⟩
  replace H0 := kept (H0.out.below k H0.out.lt)
  replace H1 := kept (H1.out.below k H1.out.lt)
  replace MB := kept (MB.out.below0 k)
  replace KA := kept (KA.out.below0 k)
  replace HW := kept (below_next HW.out k)
  clear k
  go_wp2_with (first | (refine wpList_load_row rfl 22 (.tmp 6) rfl w.heap.size rfl 22 (bA 16 (ofL K)) (0, 0) _ H0.out Tryd.underlying22 rfl (by rw [b16_size, bA_size]) ?_) | (refine wpList_load_row rfl 23 (.tmp 8) rfl (w.heap.size + 1) rfl 23 (bA 8 (ofL N)) (0, 0) _ H1.out Tryd.underlying23 rfl (by rw [b8_size, bA_size]) ?_))
  refine (rseal_any W1 K N b u q b.length c A HKL.out HNL.out rfl MB.out (by omega)).mono ?_
  rintro e W2 ⟨v2, rfl, ho2, k⟩
  have hsl := sealS_len K u N b HNL.out
  have hfl := sealF_len K N b
  have hcl := sealC_len K u (sealF K N b)
  have hlt : w.heap.size + 1 < W1.heap.size := H1.out.lt
  have hk12 := k.size
  replace H0 := kept (H0.out.below k H0.out.lt)
  replace H1 := kept (H1.out.below k H1.out.lt)
  replace MB := kept (MB.out.below0 k)
  replace KA := kept (KA.out.below0 k)
  replace HW := kept (below_next HW.out k)
  obtain ⟨A2, q2, c2, hv2, hc2, hcm2, mo2, hf2, _⟩ := ho2.form
  obtain ⟨hq2, hA2, _⟩ := hf2 (fun e => by rw [e] at hsl; simp at hsl)
  subst hA2 hv2
  obtain ⟨S, hS⟩ : ∃ S, sealS K u N b = S := ⟨_, rfl⟩
  obtain ⟨F, hF⟩ : ∃ F, sealF K N b = F := ⟨_, rfl⟩
  obtain ⟨C, hC⟩ : ∃ C, sealC K u F = C := ⟨_, rfl⟩
  have hSF : S = F ++ C := by rw [← hS, ← hC, ← hF]; rfl
  rw [hF, hC] at hcl
  rw [hF, HNL.out] at hfl
  rw [hS] at ho2 hc2 hsl ⊢
  have HO := kept ho2
  have HSL := kept hsl
  have HC2 := kept hc2
  have HSF := kept hSF
  have HFL := kept hfl
  have HCL := kept hcl
  have HCC := kept hC
  have hq1 : w.heap.size + 1 < q2 := by omega
  have hlen : 24 ≤ S.length ∧ S.length ≤ 524 := by omega
  have hB12 : W1.heap.size ≤ W2.heap.size := hk12
  have hq12 : W1.heap.size ≤ q2 := hq2
  clear k ho2 hc2 hsl mo2 hf2 hq2 hS hF hC hSF hfl hcl hcm2
  obtain ⟨i, hi⟩ : ∃ i, a % S.length = i := ⟨_, rfl⟩
  have him : (a : Int).tmod (S.length : Int) = (i : Int) := by
    rw [Int.tmod_eq_emod_of_nonneg (by omega)]
    omega
  have hil : i < S.length := by rw [← hi]; exact Nat.mod_lt _ (by omega)
  have hiI : (i : Int) < (S.length : Int) := by omega
  have hne0 : ((S.length : Nat) : Int) ≠ 0 := by omega
  clear hi
  obtain ⟨j, hj⟩ : ∃ j, i % 16 = j := ⟨_, rfl⟩
  have hj16 : j < 16 := by omega
  have hjI : (j : Int) < 16 := by omega
  have hjm : (i : Int).tmod 16 = (j : Int) := by
    rw [Int.tmod_eq_emod_of_nonneg (by omega)]
    omega
  have c20 : W2.cell? ⟨w.heap.size, j, none⟩ = some (.int .u8 ((ofL K j).toNat : Int)) := by rw [H0.out.cell]; exact bA_at _ _ hj16
  have f20 := H0.out.frozen j
  obtain ⟨x, hx⟩ : ∃ x, ofL K j = x := ⟨_, rfl⟩
  rw [hx] at c20
  have hwx : IntKind.u8.wrap ((x.toNat : Int) + 1) = ((x + 1).toNat : Int) := by
    rw [IntKind.wrap_u8, UInt8.toNat_add]
    have : (1 : UInt8).toNat = 1 := rfl
    rw [this]
    omega
  obtain ⟨y, hy⟩ : ∃ y, x + 1 = y := ⟨_, rfl⟩
  rw [hy] at hwx
  clear hy
  obtain ⟨W3, hW3⟩ : ∃ W3, W3 = W2.setCell ⟨w.heap.size, j, none⟩ (.int .u8 (y.toNat : Int)) := ⟨_, rfl⟩
  have HW3 := kept hW3.symm
  obtain ⟨K2, hK2⟩ : ∃ K2, K.set j y = K2 := ⟨_, rfl⟩
  have HKL2 := kept (show K2.length = 16 by rw [← hK2, List.length_set]; exact HKL.out)
  replace H0 := kept (show Blk W3 w.heap.size 22 (bA 16 (ofL K2)) by
    rw [hW3]
    refine H0.out.putB j y fun p hp => ?_
    rw [← hK2]
    unfold ofL
    rw [List.getD_eq_getElem?_getD, List.getElem?_set]
    by_cases e : j = p
    · subst e
      rw [if_pos rfl, if_pos (by rw [HKL.out]; exact hj16), if_pos rfl]
      rfl
    · rw [if_neg e, if_neg (fun z => e z.symm)]
      rfl)
  replace KA := kept (show KAt W3 by rw [hW3]; exact KA.out.keep (Below.heap_setCell W2 _ _ _ (by have := HGL.out; show 0 ≠ w.heap.size; omega)))
  replace HW := kept (show Below w.heap.size w W3 by rw [hW3]; exact HW.out.setCell (Nat.le_refl _) _)
  replace HO := kept (show Own W3 W1.heap.size (.slice (some ⟨q2, 0, none⟩) S.length c2) S by rw [hW3]; exact HO.out.setCell (by show w.heap.size < W1.heap.size; omega) _)
  have HCT := HC2
  have hN3 : S.length ≤ 525 := by omega
  clear hW3 hK2 hx hj
  go_upto_region 15 with (fail)
  rw [HW3.out]
  generalize S = T at HO HCT hN3 hil hiI ⊢
  obtain ⟨A6, q6, c6, hv6, _, _, hm6, _, _⟩ := HO.out.form
  injection hv6 with e1 e2 e3
  rw [← e1] at hm6
  have HT := kept hm6
  clear hm6 e1 e2 e3 HO
  have HLO := kept (sealO_len K2 u T)
  have HOA := kept (fun w' hk hm' => open_any w' K2 T u q6 T.length c2 (some ⟨q2, 0, none⟩) hk HKL2.out rfl hm' HCT.out (by omega))
  have HOR := kept (fun w' hm' => ropen_any w' K2 T u q6 T.length c2 (some ⟨q2, 0, none⟩) HKL2.out rfl hm' HCT.out (by omega))
  obtain ⟨O, hO⟩ : ∃ O, sealO K2 u T = O := ⟨_, rfl⟩
  rw [hO] at HLO HOA HOR
  clear hO
  go_wp2_with (first | (refine wpList_load_row rfl 22 (.tmp 6) rfl w.heap.size rfl 22 (bA 16 (ofL K2)) (0, 0) _ H0.out Tryd.underlying22 rfl (by rw [b16_size, bA_size]) ?_))
  refine (HOA.out W3 KA.out HT.out).mono ?_
  rintro e W4 ⟨v4, rfl, o4, k⟩
  replace H0 := kept (H0.out.below k H0.out.lt)
  replace HT := kept (HT.out.below0 k)
  replace KA := kept (KA.out.below0 k)
  replace HW := kept (below_next HW.out k)
  obtain ⟨A4, q4, c4, hv4, hc4, hcm4, mo4, x4⟩ := o4.form
  subst hv4
  have MX4 := kept mo4
  have HC4 := kept hc4
  clear o4 mo4 x4 hc4 hcm4
  clear k HOA
  go_wp2_with (first | (refine wpList_load_row rfl 22 (.tmp 6) rfl w.heap.size rfl 22 (bA 16 (ofL K2)) (0, 0) _ H0.out Tryd.underlying22 rfl (by rw [b16_size, bA_size]) ?_))
  refine (HOR.out W4 HT.out).mono ?_
  rintro e W5 ⟨v5, rfl, o5, k⟩
  replace H0 := kept (H0.out.below k H0.out.lt)
  replace HT := kept (HT.out.below0 k)
  replace MX4 := kept (MX4.out.below0 k)
  replace KA := kept (KA.out.below0 k)
  replace HW := kept (below_next HW.out k)
  obtain ⟨A5, q5, c5, hv5, hc5, hcm5, mo5, x5⟩ := o5.form
  subst hv5
  have MX5 := kept mo5
  have HC5 := kept hc5
  clear o5 mo5 x5 hc5 hcm5
  clear k HOR
  have hb1 : (O.isSome == O.isSome) = true := by simp
  go_wp2_with fail
  refine (same_b W5 q4 q5 A4 A5 _ _ c4 c5 (O.getD []) rfl rfl (by have := HLO.out; omega) MX4.out MX5.out).mono ?_
  rintro e W6 ⟨rfl, k⟩
  replace HW := kept (below_next HW.out k)
  clear k
  go_wp2_with fail
  go_ret
  exact ⟨rfl, HW.out⟩
set_option maxHeartbeats 4000000 in
set_option maxRecDepth 100000 in
theorem walk_4 (w : World) (K N b : List UInt8) (u κ : UInt8) (a q c : Nat) (A : Option Addr) (ha : a < 65536) (hKA : KAt w) (hK : K.length = 16) (hN : N.length = 8) (hm : Mem w q A b) (hc : b.length ≤ c) (h : b.length ≤ 500) (hr : κ.toNat % 5 = 4) :
    Calls Tryd.prog 5 #[.agg (bA 16 (ofL K)), .int .u8 (u.toNat : Int), .agg (bA 8 (ofL N)), .slice A b.length c, .int .u16 (a : Int), .int .u8 (κ.toNat : Int)] w fun e w' => e = .returned (.bool true) ∧ Below w.heap.size w w' := by
  obtain ⟨i0, hi0, hz0, hs0, hbb0⟩ := info_parts u8_info
  have KA := kept hKA
  have HGL := kept hKA.lt
  have HKL := kept hK
  have HNL := kept hN
  have HCB := kept hc
  have hd : decide ((500 : Int) < (b.length : Int)) = false := by rw [decide_eq_false_iff_not]; omega
  have MB := kept hm
  have HR := kept hr
  have hrk : (κ.toNat : Int).tmod 5 = 4 := by
    rw [Int.tmod_eq_emod_of_nonneg (by omega)]
    omega
  clear hKA hK hN hm hc hr
  go_enter Tryd.func5, Tryd.ntmps5
  go_upto_region 1 with (fail)
  go_name_world W0 hW0
  have H0 := kept (show Blk W0 w.heap.size 22 (bA 16 (ofL K)) by rw [← hW0]; exact (Blk.new w _ _).alloc _)
  have H1 := kept (show Blk W0 (w.heap.size + 1) 23 (bA 8 (ofL N)) by
    rw [← hW0]
    have n1 := Blk.new (w.alloc (.cells (bA 16 (ofL K)) 22)) 23 (bA 8 (ofL N))
    simpa only [World.size_alloc] using n1)
  have HW := kept (show Below w.heap.size w W0 by rw [← hW0]; exact ((Below.refl _ w).alloc (Nat.le_refl _) _).alloc (by simp) _)
  clear hW0
  replace KA := kept (KA.out.below0 HW.out)
  replace MB := kept (MB.out.below0 HW.out)
  go_wp2_with fail
  refine (sawake_any W0 KA.out).mono ?_
  rintro e W1 ⟨rfl, k⟩
  replace H0 := kept (H0.out.below k H0.out.lt)
  replace H1 := kept (H1.out.below k H1.out.lt)
  replace MB := kept (MB.out.below0 k)
  replace KA := kept (KA.out.below0 k)
  replace HW := kept (below_next HW.out k)
  clear k
  go_wp2_with (first | (refine wpList_load_row rfl 22 (.tmp 6) rfl w.heap.size rfl 22 (bA 16 (ofL K)) (0, 0) _ H0.out Tryd.underlying22 rfl (by rw [b16_size, bA_size]) ?_) | (refine wpList_load_row rfl 23 (.tmp 8) rfl (w.heap.size + 1) rfl 23 (bA 8 (ofL N)) (0, 0) _ H1.out Tryd.underlying23 rfl (by rw [b8_size, bA_size]) ?_))
  refine (rseal_any W1 K N b u q b.length c A HKL.out HNL.out rfl MB.out (by omega)).mono ?_
  rintro e W2 ⟨v2, rfl, ho2, k⟩
  have hsl := sealS_len K u N b HNL.out
  have hfl := sealF_len K N b
  have hcl := sealC_len K u (sealF K N b)
  have hlt : w.heap.size + 1 < W1.heap.size := H1.out.lt
  have hk12 := k.size
  replace H0 := kept (H0.out.below k H0.out.lt)
  replace H1 := kept (H1.out.below k H1.out.lt)
  replace MB := kept (MB.out.below0 k)
  replace KA := kept (KA.out.below0 k)
  replace HW := kept (below_next HW.out k)
  obtain ⟨A2, q2, c2, hv2, hc2, hcm2, mo2, hf2, _⟩ := ho2.form
  obtain ⟨hq2, hA2, _⟩ := hf2 (fun e => by rw [e] at hsl; simp at hsl)
  subst hA2 hv2
  obtain ⟨S, hS⟩ : ∃ S, sealS K u N b = S := ⟨_, rfl⟩
  obtain ⟨F, hF⟩ : ∃ F, sealF K N b = F := ⟨_, rfl⟩
  obtain ⟨C, hC⟩ : ∃ C, sealC K u F = C := ⟨_, rfl⟩
  have hSF : S = F ++ C := by rw [← hS, ← hC, ← hF]; rfl
  rw [hF, hC] at hcl
  rw [hF, HNL.out] at hfl
  rw [hS] at ho2 hc2 hsl ⊢
  have HO := kept ho2
  have HSL := kept hsl
  have HC2 := kept hc2
  have HSF := kept hSF
  have HFL := kept hfl
  have HCL := kept hcl
  have HCC := kept hC
  have hq1 : w.heap.size + 1 < q2 := by omega
  have hlen : 24 ≤ S.length ∧ S.length ≤ 524 := by omega
  have hB12 : W1.heap.size ≤ W2.heap.size := hk12
  have hq12 : W1.heap.size ≤ q2 := hq2
  clear k ho2 hc2 hsl mo2 hf2 hq2 hS hF hC hSF hfl hcl hcm2
  obtain ⟨i, hi⟩ : ∃ i, a % S.length = i := ⟨_, rfl⟩
  have him : (a : Int).tmod (S.length : Int) = (i : Int) := by
    rw [Int.tmod_eq_emod_of_nonneg (by omega)]
    omega
  have hil : i < S.length := by rw [← hi]; exact Nat.mod_lt _ (by omega)
  have hiI : (i : Int) < (S.length : Int) := by omega
  have hne0 : ((S.length : Nat) : Int) ≠ 0 := by omega
  clear hi
  have hwu : IntKind.u8.wrap ((u.toNat : Int) + 1) = ((u + 1).toNat : Int) := by
    rw [IntKind.wrap_u8, UInt8.toNat_add]
    have : (1 : UInt8).toNat = 1 := rfl
    rw [this]
    omega
  have HCT := HC2
  have hN3 : S.length ≤ 525 := by omega
  obtain ⟨u2, hu2⟩ : ∃ u2, u + 1 = u2 := ⟨_, rfl⟩
  rw [hu2] at hwu
  go_upto_region 15 with (fail)
  generalize S = T at HO HCT hN3 hil hiI ⊢
  obtain ⟨A6, q6, c6, hv6, _, _, hm6, _, _⟩ := HO.out.form
  injection hv6 with e1 e2 e3
  rw [← e1] at hm6
  have HT := kept hm6
  clear hm6 e1 e2 e3 HO
  have HLO := kept (sealO_len K u2 T)
  have HOA := kept (fun w' hk hm' => open_any w' K T u2 q6 T.length c2 (some ⟨q2, 0, none⟩) hk HKL.out rfl hm' HCT.out (by omega))
  have HOR := kept (fun w' hm' => ropen_any w' K T u2 q6 T.length c2 (some ⟨q2, 0, none⟩) HKL.out rfl hm' HCT.out (by omega))
  obtain ⟨O, hO⟩ : ∃ O, sealO K u2 T = O := ⟨_, rfl⟩
  rw [hO] at HLO HOA HOR
  clear hO
  go_wp2_with (first | (refine wpList_load_row rfl 22 (.tmp 6) rfl w.heap.size rfl 22 (bA 16 (ofL K)) (0, 0) _ H0.out Tryd.underlying22 rfl (by rw [b16_size, bA_size]) ?_))
  refine (HOA.out W2 KA.out HT.out).mono ?_
  rintro e W4 ⟨v4, rfl, o4, k⟩
  replace H0 := kept (H0.out.below k H0.out.lt)
  replace HT := kept (HT.out.below0 k)
  replace KA := kept (KA.out.below0 k)
  replace HW := kept (below_next HW.out k)
  obtain ⟨A4, q4, c4, hv4, hc4, hcm4, mo4, x4⟩ := o4.form
  subst hv4
  have MX4 := kept mo4
  have HC4 := kept hc4
  clear o4 mo4 x4 hc4 hcm4
  clear k HOA
  go_wp2_with (first | (refine wpList_load_row rfl 22 (.tmp 6) rfl w.heap.size rfl 22 (bA 16 (ofL K)) (0, 0) _ H0.out Tryd.underlying22 rfl (by rw [b16_size, bA_size]) ?_))
  refine (HOR.out W4 HT.out).mono ?_
  rintro e W5 ⟨v5, rfl, o5, k⟩
  replace H0 := kept (H0.out.below k H0.out.lt)
  replace HT := kept (HT.out.below0 k)
  replace MX4 := kept (MX4.out.below0 k)
  replace KA := kept (KA.out.below0 k)
  replace HW := kept (below_next HW.out k)
  obtain ⟨A5, q5, c5, hv5, hc5, hcm5, mo5, x5⟩ := o5.form
  subst hv5
  have MX5 := kept mo5
  have HC5 := kept hc5
  clear o5 mo5 x5 hc5 hcm5
  clear k HOR
  have hb1 : (O.isSome == O.isSome) = true := by simp
  go_wp2_with fail
  refine (same_b W5 q4 q5 A4 A5 _ _ c4 c5 (O.getD []) rfl rfl (by have := HLO.out; omega) MX4.out MX5.out).mono ?_
  rintro e W6 ⟨rfl, k⟩
  replace HW := kept (below_next HW.out k)
  clear k
  go_wp2_with fail
  go_ret
  exact ⟨rfl, HW.out⟩
theorem walk_any (w : World) (K N b : List UInt8) (u κ : UInt8) (a q c : Nat) (A : Option Addr) (ha : a < 65536) (hKA : KAt w) (hK : K.length = 16) (hN : N.length = 8) (hm : Mem w q A b) (hc : b.length ≤ c) : Calls Tryd.prog 5 #[.agg (bA 16 (ofL K)), .int .u8 (u.toNat : Int), .agg (bA 8 (ofL N)), .slice A b.length c, .int .u16 (a : Int), .int .u8 (κ.toNat : Int)] w fun e w' => e = .returned (.bool true) ∧ Below w.heap.size w w' := by
  by_cases h : 500 < b.length
  · exact walk_long w K N b u κ a q c A ha hKA hK hN hm hc h
  have h5 : b.length ≤ 500 := by omega
  have h0 : κ.toNat % 5 = 0 ∨ κ.toNat % 5 = 1 ∨ κ.toNat % 5 = 2 ∨ κ.toNat % 5 = 3 ∨ κ.toNat % 5 = 4 := by omega
  rcases h0 with h0 | h0 | h0 | h0 | h0
  · exact walk_0 w K N b u κ a q c A ha hKA hK hN hm hc h5 h0
  · exact walk_1 w K N b u κ a q c A ha hKA hK hN hm hc h5 h0
  · exact walk_2 w K N b u κ a q c A ha hKA hK hN hm hc h5 h0
  · exact walk_3 w K N b u κ a q c A ha hKA hK hN hm hc h5 h0
  · exact walk_4 w K N b u κ a q c A ha hKA hK hN hm hc h5 h0
set_option maxRecDepth 100000 in
theorem lifted (os : Os) (started : os.Started) (H : Type) (enc : TypeId × Value → H) :
    ReturnsInHanded {} Tryd.checked os 5 .any (fun w args => (Rows.sealChangesSpec.pre enc Tryd.prog Tryd.f5 [] false w args ∧ laidMetH Tryd.prog laidL w) ∧ sizedMet enc Tryd.prog Tryd.f5 (OpenSpec.ofChange Rows.sealChangesSpec) false w args)
      (Rows.sealChangesSpec.post enc Tryd.prog Tryd.f5 false true false false) := by
  refine returnsInHanded_of_change_and (C := Tryd.checked) (X := fun w _ => laidMetH Tryd.prog laidL w) (fun _ _ _ hh h => h.of_heap hh) own_knob started (by kernel_rfl) Tryd.func5
    (ChangeSpec.witness_at (enc := enc) (C := Tryd.checked) (os := os) (X := fun w _ => laidMetH Tryd.prog laidL w) false (laidWorld os) #[.agg #[.int .u8 0, .int .u8 0, .int .u8 0, .int .u8 0, .int .u8 0, .int .u8 0, .int .u8 0, .int .u8 0, .int .u8 0, .int .u8 0, .int .u8 0, .int .u8 0, .int .u8 0, .int .u8 0, .int .u8 0, .int .u8 0], .int .u8 0, .agg #[.int .u8 0, .int .u8 0, .int .u8 0, .int .u8 0, .int .u8 0, .int .u8 0, .int .u8 0, .int .u8 0], .slice none 0 0, .int .u16 0, .int .u8 0] 8 rfl (by kernel_rfl) (by kernel_rfl) (by kernel_rfl) (by kernel_rfl) (by kernel_rfl) (laidWorld_met os _)) ?_
  intro W base args ds gs before hval0 hW _ _ hL _
  have hval : ∀ (j : Nat) t v, Tryd.f5.params[j]? = some t → args[j]? = some v → Value.okWide Tryd.prog W .any base t v := hval0
  have hW' := hW
  obtain ⟨p, q, hA0, hV, rfl, hfz, hnd⟩ := hW
  have hA : DataW.TrodAll enc Tryd.prog W 0 (fun _ => true) true Tryd.f5.params.toList args.toList ds p := hA0
  rw [Tryd.params5] at hA hval
  obtain ⟨v0, v1, v2, v3, v4, v5, d0, d1, d2, d3, d4, d5, p0, p1, p2, p3, p4, p5, rfl, rfl, rfl, h0, h1, h2, h3, h4, h5⟩ := trodAll_six hA
  obtain ⟨rfl, rfl⟩ := trodVars_none hV
  have hvl0 := hval 0 22 v0 rfl rfl
  have hvl1 := hval 1 5 v1 rfl rfl
  have hvl2 := hval 2 23 v2 rfl rfl
  have hvl3 := hval 3 24 v3 rfl rfl
  have hvl4 := hval 4 34 v4 rfl rfl
  have hvl5 := hval 5 5 v5 rfl rfl
  obtain ⟨f0, hv0, hw0⟩ := open_arrInt _ _ 16 Tryd.underlying22 .u8 Tryd.underlying5 (by kernel_rfl) (by kernel_rfl) hvl0 h0
  obtain ⟨key, hb0⟩ := bytes_of_arr 16 f0 hw0
  rw [hb0, bA_lst] at hv0
  subst hv0
  obtain ⟨z1, rfl, rfl, rfl, w1⟩ := open_int Tryd.underlying5 hvl1 h1
  obtain ⟨u, rfl⟩ := byte_of_lit w1
  obtain ⟨f2, hv2, hw2⟩ := open_arrInt _ _ 8 Tryd.underlying23 .u8 Tryd.underlying5 (by kernel_rfl) (by kernel_rfl) hvl2 h2
  obtain ⟨nonce, hb2⟩ := bytes_of_arr 8 f2 hw2
  rw [hb2, bA_lst] at hv2
  subst hv2
  obtain ⟨A, q, c, b, rfl, hcl, _, hm⟩ := open_bytes hvl3 h3
  obtain ⟨z4, rfl, rfl, rfl, w4⟩ := open_int Tryd.underlying34 hvl4 h4
  have f4 := bounds_u16 w4
  obtain ⟨a, rfl⟩ := Int.eq_ofNat_of_zero_le f4.1
  obtain ⟨z5, rfl, rfl, rfl, w5⟩ := open_int Tryd.underlying5 hvl5 h5
  obtain ⟨κ, rfl⟩ := byte_of_lit w5
  clear hA0 hval0
  refine (walk_any W (lst 16 key) (lst 8 nonce) b u κ a q c A (by omega) (ka_of_laid hL) (lst_len _ _) (lst_len _ _) hm hcl).mono fun e W' ⟨he, bel⟩ => ?_
  subst he
  exact ⟨_, rfl, _, _, _, [], _, [], hW', trodAll_mk1 (shut_bool Tryd.underlying4 _), trodAll_mk6 (keep_arg (by kernel_rfl) (of_decide_eq_true (by kernel_rfl)) h0 bel) (shut_int Tryd.underlying5 w1) (keep_arg (by kernel_rfl) (of_decide_eq_true (by kernel_rfl)) h2 bel) (keep_arg (by kernel_rfl) (of_decide_eq_true (by kernel_rfl)) h3 bel) (shut_int Tryd.underlying34 w4) (shut_int Tryd.underlying5 w5), rfl, bel.frame _, fun h => by cases h⟩

theorem over : Rows.sealChangesRow.holds Tryd.pinned (OpenSpec.ofChange Rows.sealChangesSpec) :=
  OpenClaim.holds_of_wide 5 Tryd.f5 rfl rfl rfl rfl rfl rfl rfl ⟨rfl, rfl, rfl, rfl, rfl⟩ rfl rfl rfl rfl rfl (by kernel_rfl) Tryd.func5 (by kernel_rfl)
    (of_decide_eq_true (by kernel_rfl)) (by unfold Func.isWrapper; first | (rw [if_pos (by decide +kernel)]; kernel_rfl) | (rw [if_neg (by decide +kernel)]; exact ⟨rfl, rfl⟩))
    (fun os started H enc _ => lifted os started H enc)

/-- The statement: the tied card. -/
theorem proved : Rows.SealChangesCardSaid :=
  Claim7.holds_tied_plain_at .later [] _ true _ _ over (fun _ h => by cases h) (by kernel_rfl) (fun _ h => by cases h) sealChanges_row_tie rfl ⟨rfl, rfl⟩ (by kernel_rfl) rfl
    (fun f fn hf hfn => by
      obtain rfl : f = 5 := Option.some.inj ((show Tryd.prog.funcNamed "toll/tolllaw09.SealChanges" = some 5 by kernel_rfl).symm.trans hf) |>.symm
      obtain rfl : fn = Tryd.f5 := (Option.some.inj (Tryd.func5.symm.trans hfn)).symm
      exact ⟨by kernel_rfl, fun j t ht => by
        rw [Tryd.params5] at ht
        have hm : t ∈ [22, 5, 23, 24, 34, 5] := by simpa using Array.mem_of_getElem? ht
        have hall : ([22, 5, 23, 24, 34, 5].all fun u => !Tryd.prog.wantsStandIn u) = true := by kernel_rfl
        exact (show Tryd.prog.wantsStandIn t = false by simpa using List.all_eq_true.1 hall t hm)⟩)
    (by kernel_rfl)
#print axioms proved
end Go.Proofs.YtcjbplgjjhenkaaDoor.sealChanges
