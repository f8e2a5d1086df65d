/-
  Any string is opened exactly if the reference opens it, and then it is the sealed string of the result: the law SealOpens returns true for every input. No condition.
-/
import Derived.Test.YtcjbplgjjhenkaaDoorSm38
import Derived.Test.YtcjbplgjjhenkaaDoorSm15
import Derived.Test.YtcjbplgjjhenkaaDoorSm4
namespace Go.Proofs.YtcjbplgjjhenkaaDoor.sealOpens
open Go.ChangeShapes Go.WideShapes Go.ChangeAt Go.RowKit
set_option linter.unusedVariables false
set_option linter.unusedSimpArgs false

set_option maxHeartbeats 4000000 in
set_option maxRecDepth 100000 in
theorem walk_long (w : World) (K s : List UInt8) (u : UInt8) (q c : Nat) (A : Option Addr) (hKA : KAt w) (hK : K.length = 16) (hm : Mem w q A s) (hc : s.length ≤ c) (h : 1000 < s.length) :
    Calls Tryd.prog 4 #[.agg (bA 16 (ofL K)), .int .u8 (u.toNat : Int), .slice A s.length c] w fun e w' => e = .returned (.bool true) ∧ Below w.heap.size w w' := by
  have KA := kept hKA
  have hd : decide ((1000 : Int) < (s.length : Int)) = true := by rw [decide_eq_true_eq]; omega
  clear hKA
  clear hm
  go_enter Tryd.func4, Tryd.ntmps4
  go_upto_region 1 with (fail)
  go_name_world W0 hW0
  have H0 := kept (show Blk W0 w.heap.size 22 (bA 16 (ofL K)) by rw [← hW0]; exact Blk.new w _ _)
  have HW := kept (show Below w.heap.size w W0 by rw [← hW0]; exact (Below.refl _ w).alloc (Nat.le_refl _) _)
  clear hW0
  replace KA := kept (KA.out.below0 HW.out)
  go_wp2_with fail
  refine (sawake_any W0 KA.out).mono ?_
  rintro e W1 ⟨rfl, k⟩
  replace H0 := kept (H0.out.below k H0.out.lt)
  replace KA := kept (KA.out.below0 k)
  replace HW := kept (below_next HW.out k)
  clear k
  go_wp2_with fail
  refine (sawake_any W1 KA.out).mono ?_
  rintro e W2 ⟨rfl, k⟩
  replace H0 := kept (H0.out.below k H0.out.lt)
  replace KA := kept (KA.out.below0 k)
  replace HW := kept (below_next HW.out k)
  clear k
  go_wp2_with fail
  go_ret
  exact ⟨rfl, HW.out⟩
set_option maxHeartbeats 4000000 in
set_option maxRecDepth 100000 in
theorem walk_in (w : World) (K s : List UInt8) (u : UInt8) (q c : Nat) (A : Option Addr) (hKA : KAt w) (hK : K.length = 16) (hm : Mem w q A s) (hc : s.length ≤ c) (h : s.length ≤ 1000) :
    Calls Tryd.prog 4 #[.agg (bA 16 (ofL K)), .int .u8 (u.toNat : Int), .slice A s.length c] w fun e w' => e = .returned (.bool true) ∧ Below w.heap.size w w' := by
  have KA := kept hKA
  have HKL := kept hK
  have HCB := kept hc
  have hd : decide ((1000 : Int) < (s.length : Int)) = false := by rw [decide_eq_false_iff_not]; omega
  have MB := kept hm
  clear hKA hK hm hc
  go_enter Tryd.func4, Tryd.ntmps4
  go_upto_region 1 with (fail)
  go_name_world W0 hW0
  have H0 := kept (show Blk W0 w.heap.size 22 (bA 16 (ofL K)) by rw [← hW0]; exact Blk.new w _ _)
  have HW := kept (show Below w.heap.size w W0 by rw [← hW0]; exact (Below.refl _ w).alloc (Nat.le_refl _) _)
  clear hW0
  replace KA := kept (KA.out.below0 HW.out)
  replace MB := kept (MB.out.below0 HW.out)
  go_wp2_with fail
  refine (sawake_any W0 KA.out).mono ?_
  rintro e W1 ⟨rfl, k⟩
  replace H0 := kept (H0.out.below k H0.out.lt)
  replace MB := kept (MB.out.below0 k)
  replace KA := kept (KA.out.below0 k)
  replace HW := kept (below_next HW.out k)
  clear k
  have HOS := kept (sealS_of_sealO K u s)
  have HSH := kept (sealO_short K u s)
  have HOA := kept (fun w' hk hm' => open_any w' K s u q s.length c A hk HKL.out rfl hm' HCB.out (by omega))
  have HOR := kept (fun w' hm' => ropen_any w' K s u q s.length c A HKL.out rfl hm' HCB.out (by omega))
  obtain ⟨O, hO⟩ : ∃ O, sealO K u s = O := ⟨_, rfl⟩
  rw [hO] at HOS HSH HOA HOR
  have hol : (O.getD []).length ≤ 1048576 := by
    cases O with
    | none => simp
    | some b =>
      have := HOS.out b rfl
      have h2 : 24 ≤ s.length := by
        rcases Nat.lt_or_ge s.length 24 with h3 | h3
        · have := HSH.out h3
          cases this
        · exact h3
      have h4 := congrArg List.length this
      rw [sealS_len K u _ b (by rw [List.length_take]; omega)] at h4
      show b.length ≤ 1048576
      omega
  have HOL := kept hol
  clear hO hol
  go_wp2_with (first | (refine wpList_load_row rfl 22 (.tmp 3) rfl w.heap.size rfl 22 (bA 16 (ofL K)) (0, 0) _ H0.out Tryd.underlying22 rfl (by rw [b16_size, bA_size]) ?_))
  refine (HOA.out W1 KA.out MB.out).mono ?_
  rintro e W2 ⟨v2, rfl, ho2, k⟩
  replace H0 := kept (H0.out.below k H0.out.lt)
  replace MB := kept (MB.out.below0 k)
  replace KA := kept (KA.out.below0 k)
  replace HW := kept (below_next HW.out k)
  obtain ⟨A2, q2, c2, hv2, hc2, hcm2, mo2, x2⟩ := ho2.form
  subst hv2
  have MX2 := kept mo2
  have HC2 := kept hc2
  clear ho2 mo2 x2 hc2 hcm2
  clear k HOA
  go_wp2_with (first | (refine wpList_load_row rfl 22 (.tmp 3) rfl w.heap.size rfl 22 (bA 16 (ofL K)) (0, 0) _ H0.out Tryd.underlying22 rfl (by rw [b16_size, bA_size]) ?_))
  refine (HOR.out W2 MB.out).mono ?_
  rintro e W3 ⟨v3, rfl, ho3, k⟩
  replace H0 := kept (H0.out.below k H0.out.lt)
  replace MB := kept (MB.out.below0 k)
  replace MX2 := kept (MX2.out.below0 k)
  replace KA := kept (KA.out.below0 k)
  replace HW := kept (below_next HW.out k)
  obtain ⟨A3, q3, c3, hv3, hc3, hcm3, mo3, x3⟩ := ho3.form
  subst hv3
  have MX3 := kept mo3
  have HC3 := kept hc3
  clear ho3 mo3 x3 hc3 hcm3
  clear k HOR
  go_wp2_with fail
  refine (same_b W3 q2 q3 A2 A3 _ _ c2 c3 (O.getD []) rfl rfl (by have := HOL.out; omega) MX2.out MX3.out).mono ?_
  rintro e W4 ⟨rfl, k⟩
  replace H0 := kept (H0.out.below k H0.out.lt)
  replace MB := kept (MB.out.below0 k)
  replace MX2 := kept (MX2.out.below0 k)
  replace MX3 := kept (MX3.out.below0 k)
  replace KA := kept (KA.out.below0 k)
  replace HW := kept (below_next HW.out k)
  clear k MX3
  have hb1 : (O.isSome != O.isSome) = false := by cases O <;> rfl
  go_wp2_with fail
  refine (nonce_any W4 s q s.length c A rfl MB.out HCB.out (by omega)).mono ?_
  rintro e W5 ⟨rfl, k⟩
  replace H0 := kept (H0.out.below k H0.out.lt)
  replace MB := kept (MB.out.below0 k)
  replace MX2 := kept (MX2.out.below0 k)
  replace KA := kept (KA.out.below0 k)
  replace HW := kept (below_next HW.out k)
  clear k
  have hnl : (nonceL s).length = 8 := by
    unfold nonceL
    split
    · rw [List.length_take]; omega
    · simp
  have HNL := kept hnl
  have HNT := kept (show 24 ≤ s.length → nonceL s = s.take 8 from fun e => if_pos e)
  obtain ⟨N, hN⟩ : ∃ N, nonceL s = N := ⟨_, rfl⟩
  rw [hN] at HNL HNT ⊢
  clear hN hnl
  have hlt : w.heap.size < W5.heap.size := H0.out.lt
  go_upto_region 8 with (refine wpList_store_row rfl 23 (.tmp 11) (.tmp 47) rfl W5.heap.size (bA 8 (ofL N)) rfl rfl 23 (bA 8 (fun _ => 0)) (Blk.new W5 _ _) (by rw [b8_size, bA_size]) (by rw [bA_size, bA_size]) (bA_one _ _) ?_)
  go_name_world W6 hW6
  have k : Below W5.heap.size W5 W6 := by rw [← hW6]; exact below_setRow ((Below.refl _ W5).alloc (Nat.le_refl _) _) (Nat.le_refl _) _
  have H1 := kept (show Blk W6 W5.heap.size 23 (bA 8 (ofL N)) by rw [← hW6]; exact setRow_heap _ _ _ _ _ _ (Blk.new W5 _ _))
  replace H0 := kept (H0.out.below k H0.out.lt)
  replace MB := kept (MB.out.below0 k)
  replace MX2 := kept (MX2.out.below0 k)
  replace KA := kept (KA.out.below0 k)
  replace HW := kept (below_next HW.out k)
  clear k hW6
  generalize W5.heap.size = g11 at hlt H1 ⊢
  have hdd : decide (24 ≤ s.length) = decide ((24 : Int) ≤ (s.length : Int)) := by rw [decide_eq_decide]; omega
  rw [hdd]
  have hbb : (decide ((24 : Int) ≤ (s.length : Int)) == decide ((24 : Int) ≤ (s.length : Int))) = true := by simp
  cases O with
  | none =>
    go_wp2_with fail
    go_ret
    exact ⟨rfl, HW.out⟩
  | some b =>
    have h24 : 24 ≤ s.length := by
      rcases Nat.lt_or_ge s.length 24 with h3 | h3
      · have := HSH.out h3
        cases this
      · exact h3
    have hS := HOS.out b rfl
    rw [← HNT.out h24] at hS
    have HLB := kept (show b.length ≤ 1048576 from HOL.out)
    have MXB := kept (show Mem W6 q2 A2 b from MX2.out)
    have HCX := kept (show b.length ≤ c2 from HC2.out)
    clear HOS HSH HNT MX2 HC2 HOL
    rw [show ((some b).getD []).length = b.length from rfl]
    go_wp2_with (first | (refine wpList_load_row_w (by rfl) 22 (.tmp 3) rfl w.heap.size rfl 22 (bA 16 (ofL K)) (0, 0) _ H0.out Tryd.underlying22 rfl (by rw [b16_size, bA_size]) ?_) | (refine wpList_load_row_w (by rfl) 23 (.tmp 11) rfl g11 rfl 23 (bA 8 (ofL N)) (0, 0) _ H1.out Tryd.underlying23 rfl (by rw [b8_size, bA_size]) ?_))
    refine (seal_any W6 K N b u q2 b.length c2 A2 KA.out HKL.out HNL.out rfl MXB.out HCX.out HLB.out).mono ?_
    rw [hS]
    rintro e W7 ⟨v7, rfl, ho7, k⟩
    replace MB := kept (MB.out.below0 k)
    replace HW := kept (below_next HW.out k)
    obtain ⟨A7, q7, c7, hv7, _, _, mo7, _⟩ := ho7.form
    subst hv7
    have MX7 := kept mo7
    clear k ho7 mo7 hS
    go_wp2_with fail
    refine (same_b W7 q7 q A7 A s.length s.length c7 c s rfl rfl (by omega) MX7.out MB.out).mono ?_
    rintro e W8 ⟨rfl, k⟩
    replace HW := kept (below_next HW.out k)
    clear k
    go_wp2_with fail
    go_ret
    exact ⟨rfl, HW.out⟩
theorem walk_any (w : World) (K s : List UInt8) (u : UInt8) (q c : Nat) (A : Option Addr) (hKA : KAt w) (hK : K.length = 16) (hm : Mem w q A s) (hc : s.length ≤ c) : Calls Tryd.prog 4 #[.agg (bA 16 (ofL K)), .int .u8 (u.toNat : Int), .slice A s.length c] w fun e w' => e = .returned (.bool true) ∧ Below w.heap.size w w' := by
  by_cases h : 1000 < s.length
  · exact walk_long w K s u q c A hKA hK hm hc h
  · exact walk_in w K s u q c A hKA hK hm hc (by omega)
set_option maxRecDepth 100000 in
theorem lifted (os : Os) (started : os.Started) (H : Type) (enc : TypeId × Value → H) :
    ReturnsInHanded {} Tryd.checked os 4 .any (fun w args => (Rows.sealOpensSpec.pre enc Tryd.prog Tryd.f4 [] false w args ∧ laidMetH Tryd.prog laidL w) ∧ sizedMet enc Tryd.prog Tryd.f4 (OpenSpec.ofChange Rows.sealOpensSpec) false w args)
      (Rows.sealOpensSpec.post enc Tryd.prog Tryd.f4 false true false false) := by
  refine returnsInHanded_of_change_and (C := Tryd.checked) (X := fun w _ => laidMetH Tryd.prog laidL w) (fun _ _ _ hh h => h.of_heap hh) own_knob started (by kernel_rfl) Tryd.func4
    (ChangeSpec.witness_at (enc := enc) (C := Tryd.checked) (os := os) (X := fun w _ => laidMetH Tryd.prog laidL w) false (laidWorld os) #[.agg #[.int .u8 0, .int .u8 0, .int .u8 0, .int .u8 0, .int .u8 0, .int .u8 0, .int .u8 0, .int .u8 0, .int .u8 0, .int .u8 0, .int .u8 0, .int .u8 0, .int .u8 0, .int .u8 0, .int .u8 0, .int .u8 0], .int .u8 0, .slice none 0 0] 8 rfl (by kernel_rfl) (by kernel_rfl) (by kernel_rfl) (by kernel_rfl) (by kernel_rfl) (laidWorld_met os _)) ?_
  intro W base args ds gs before hval0 hW _ _ hL _
  have hval : ∀ (j : Nat) t v, Tryd.f4.params[j]? = some t → args[j]? = some v → Value.okWide Tryd.prog W .any base t v := hval0
  have hW' := hW
  obtain ⟨p, q, hA0, hV, rfl, hfz, hnd⟩ := hW
  have hA : DataW.TrodAll enc Tryd.prog W 0 (fun _ => true) true Tryd.f4.params.toList args.toList ds p := hA0
  rw [Tryd.params4] at hA hval
  obtain ⟨v0, v1, v2, d0, d1, d2, p0, p1, p2, rfl, rfl, rfl, h0, h1, h2⟩ := trodAll_three hA
  obtain ⟨rfl, rfl⟩ := trodVars_none hV
  have hvl0 := hval 0 22 v0 rfl rfl
  have hvl1 := hval 1 5 v1 rfl rfl
  have hvl2 := hval 2 24 v2 rfl rfl
  obtain ⟨f0, hv0, hw0⟩ := open_arrInt _ _ 16 Tryd.underlying22 .u8 Tryd.underlying5 (by kernel_rfl) (by kernel_rfl) hvl0 h0
  obtain ⟨key, hb0⟩ := bytes_of_arr 16 f0 hw0
  rw [hb0, bA_lst] at hv0
  subst hv0
  obtain ⟨z1, rfl, rfl, rfl, w1⟩ := open_int Tryd.underlying5 hvl1 h1
  obtain ⟨u, rfl⟩ := byte_of_lit w1
  obtain ⟨A, q, c, b, rfl, hcl, _, hm⟩ := open_bytes hvl2 h2
  clear hA0 hval0
  refine (walk_any W (lst 16 key) b u q c A (ka_of_laid hL) (lst_len _ _) hm hcl).mono fun e W' ⟨he, bel⟩ => ?_
  subst he
  exact ⟨_, rfl, _, _, _, [], _, [], hW', trodAll_mk1 (shut_bool Tryd.underlying4 _), trodAll_mk3 (keep_arg (by kernel_rfl) (of_decide_eq_true (by kernel_rfl)) h0 bel) (shut_int Tryd.underlying5 w1) (keep_arg (by kernel_rfl) (of_decide_eq_true (by kernel_rfl)) h2 bel), rfl, bel.frame _, fun h => by cases h⟩

theorem over : Rows.sealOpensRow.holds Tryd.pinned (OpenSpec.ofChange Rows.sealOpensSpec) :=
  OpenClaim.holds_of_wide 4 Tryd.f4 rfl rfl rfl rfl rfl rfl rfl ⟨rfl, rfl, rfl, rfl, rfl⟩ rfl rfl rfl rfl rfl (by kernel_rfl) Tryd.func4 (by kernel_rfl)
    (of_decide_eq_true (by kernel_rfl)) (by unfold Func.isWrapper; first | (rw [if_pos (by decide +kernel)]; kernel_rfl) | (rw [if_neg (by decide +kernel)]; exact ⟨rfl, rfl⟩))
    (fun os started H enc _ => lifted os started H enc)

/-- The statement: the tied card. -/
theorem proved : Rows.SealOpensCardSaid :=
  Claim7.holds_tied_plain_at .later [] _ true _ _ over (fun _ h => by cases h) (by kernel_rfl) (fun _ h => by cases h) sealOpens_row_tie rfl ⟨rfl, rfl⟩ (by kernel_rfl) rfl
    (fun f fn hf hfn => by
      obtain rfl : f = 4 := Option.some.inj ((show Tryd.prog.funcNamed "toll/tolllaw09.SealOpens" = some 4 by kernel_rfl).symm.trans hf) |>.symm
      obtain rfl : fn = Tryd.f4 := (Option.some.inj (Tryd.func4.symm.trans hfn)).symm
      exact ⟨by kernel_rfl, fun j t ht => by
        rw [Tryd.params4] at ht
        have hm : t ∈ [22, 5, 24] := by simpa using Array.mem_of_getElem? ht
        have hall : ([22, 5, 24].all fun u => !Tryd.prog.wantsStandIn u) = true := by kernel_rfl
        exact (show Tryd.prog.wantsStandIn t = false by simpa using List.all_eq_true.1 hall t hm)⟩)
    (by kernel_rfl)
#print axioms proved
end Go.Proofs.YtcjbplgjjhenkaaDoor.sealOpens
