/-
  Strings are equal exactly if they have the same bytes: the law MacEqual returns true for every input. No condition.
-/
import Derived.Test.YtgplkdnffbappaaDoorMacAwk
import Derived.Test.YtgplkdnffbappaaDoorHOpen
import Derived.Test.YtgplkdnffbappaaDoorOpenB
namespace Go.Proofs.YtgplkdnffbappaaDoor.macEqual
open Go.ChangeShapes Go.WideShapes Go.ChangeAt Go.RowKit
set_option linter.unusedVariables false
set_option linter.unusedSimpArgs false

set_option maxHeartbeats 4000000 in
theorem walk_out1 (w : World) (q1 q2 : Nat) (A1 A2 : Option Addr) (c1 c2 : Nat) (l1 l2 : List UInt8) (hK : KAt w) (m1 : Mem w q1 A1 l1) (m2 : Mem w q2 A2 l2) (h : 500 < l1.length) :
    Calls Tryd.prog 6 #[.slice A1 l1.length c1, .slice A2 l2.length c2] w fun e w' => e = .returned (.bool true) ∧ Below w.heap.size w w' := by
  have HK := kept hK
  have hd1 : decide ((500 : Int) < (l1.length : Int)) = true := by rw [decide_eq_true_eq]; omega
  clear hK h
  go_enter Tryd.func6, Tryd.ntmps6
  go_wp2_with fail
  refine (mawake_any _ HK.out).mono ?_
  rintro e w1 ⟨rfl, b1⟩
  go_wp2_with fail
  refine (mawake_any _ (HK.out.below0 b1)).mono ?_
  rintro e w2 ⟨rfl, b2⟩
  have h2 := b1.trans (b2.mono b1.size)
  clear b1 b2
  go_wp2_with fail
  go_ret
  exact ⟨rfl, h2⟩
set_option maxHeartbeats 4000000 in
theorem walk_out2 (w : World) (q1 q2 : Nat) (A1 A2 : Option Addr) (c1 c2 : Nat) (l1 l2 : List UInt8) (hK : KAt w) (m1 : Mem w q1 A1 l1) (m2 : Mem w q2 A2 l2) (h : l1.length ≤ 500 ∧ 500 < l2.length) :
    Calls Tryd.prog 6 #[.slice A1 l1.length c1, .slice A2 l2.length c2] w fun e w' => e = .returned (.bool true) ∧ Below w.heap.size w w' := by
  have HK := kept hK
  have hd1 : decide ((500 : Int) < (l1.length : Int)) = false := by rw [decide_eq_false_iff_not]; omega
  have hd2 : decide ((500 : Int) < (l2.length : Int)) = true := by rw [decide_eq_true_eq]; omega
  clear hK h
  go_enter Tryd.func6, Tryd.ntmps6
  go_wp2_with fail
  refine (mawake_any _ HK.out).mono ?_
  rintro e w1 ⟨rfl, b1⟩
  go_wp2_with fail
  refine (mawake_any _ (HK.out.below0 b1)).mono ?_
  rintro e w2 ⟨rfl, b2⟩
  have h2 := b1.trans (b2.mono b1.size)
  clear b1 b2
  go_wp2_with fail
  go_ret
  exact ⟨rfl, h2⟩
set_option maxHeartbeats 4000000 in
theorem walk_in (w : World) (q1 q2 : Nat) (A1 A2 : Option Addr) (c1 c2 : Nat) (l1 l2 : List UInt8) (hK : KAt w) (m1 : Mem w q1 A1 l1) (m2 : Mem w q2 A2 l2) (h : l1.length ≤ 500 ∧ l2.length ≤ 500) :
    Calls Tryd.prog 6 #[.slice A1 l1.length c1, .slice A2 l2.length c2] w fun e w' => e = .returned (.bool true) ∧ Below w.heap.size w w' := by
  have HK := kept hK
  have hd1 : decide ((500 : Int) < (l1.length : Int)) = false := by rw [decide_eq_false_iff_not]; omega
  have hd2 : decide ((500 : Int) < (l2.length : Int)) = false := by rw [decide_eq_false_iff_not]; omega
  have HM1 := kept m1
  have HM2 := kept m2
  have HE := kept (fun (w' : World) (a : Mem w' q1 A1 l1) (b : Mem w' q2 A2 l2) => equal_any w' q1 q2 A1 A2 l1.length l2.length c1 c2 l1 l2 rfl rfl (by omega) a b)
  have HS := kept (fun (w' : World) (a : Mem w' q1 A1 l1) (b : Mem w' q2 A2 l2) => same_any w' q1 q2 A1 A2 l1.length l2.length c1 c2 l1 l2 rfl rfl (by omega) a b)
  have HF := kept (fun (w' : World) (a : Mem w' q1 A1 l1) => equal_any w' q1 q1 A1 A1 l1.length l1.length c1 c1 l1 l1 rfl rfl (by omega) a a)
  rw [sameB_self] at HF
  clear hK m1 m2 h
  go_enter Tryd.func6, Tryd.ntmps6
  go_wp2_with fail
  refine (mawake_any _ HK.out).mono ?_
  rintro e w1 ⟨rfl, b1⟩
  have HB := kept b1
  have M1 := kept (HM1.out.below0 b1)
  have M2 := kept (HM2.out.below0 b1)
  clear b1
  go_wp2_with fail
  refine (HE.out w1 M1.out M2.out).mono ?_
  rintro e w2 ⟨rfl, n1, rfl⟩
  go_wp2_with fail
  refine (HS.out _ (M1.out.drewN _) (M2.out.drewN _)).mono ?_
  rintro e w3 ⟨rfl, n2, rfl⟩
  go_wp2_with fail
  refine (HF.out _ (M1.out.drewN _)).mono ?_
  rintro e w4 ⟨rfl, n3, rfl⟩
  go_wp2_with fail
  go_ret
  exact ⟨rfl, below_drewN HB.out _⟩
theorem walk (w : World) (q1 q2 : Nat) (A1 A2 : Option Addr) (c1 c2 : Nat) (l1 l2 : List UInt8) (hK : KAt w) (m1 : Mem w q1 A1 l1) (m2 : Mem w q2 A2 l2) :
    Calls Tryd.prog 6 #[.slice A1 l1.length c1, .slice A2 l2.length c2] w fun e w' => e = .returned (.bool true) ∧ Below w.heap.size w w' := by
  by_cases h1 : 500 < l1.length
  · exact walk_out1 w q1 q2 A1 A2 c1 c2 l1 l2 hK m1 m2 h1
  · by_cases h2 : 500 < l2.length
    · exact walk_out2 w q1 q2 A1 A2 c1 c2 l1 l2 hK m1 m2 ⟨by omega, h2⟩
    · exact walk_in w q1 q2 A1 A2 c1 c2 l1 l2 hK m1 m2 ⟨by omega, by omega⟩
set_option maxRecDepth 100000 in
theorem lifted (os : Os) (started : os.Started) (H : Type) (enc : TypeId × Value → H) :
    ReturnsInHanded {} Tryd.checked os 6 .any (fun w args => (Rows.macEqualSpec.pre enc Tryd.prog Tryd.f6 [] false w args ∧ laidMetH Tryd.prog laidL w) ∧ sizedMet enc Tryd.prog Tryd.f6 (OpenSpec.ofChange Rows.macEqualSpec) false w args)
      (Rows.macEqualSpec.post enc Tryd.prog Tryd.f6 false true false false) := by
  refine returnsInHanded_of_change_and (C := Tryd.checked) (X := fun w _ => laidMetH Tryd.prog laidL w) (fun _ _ _ hh h => h.of_heap hh) own_knob started (by kernel_rfl) Tryd.func6
    (ChangeSpec.witness_at (enc := enc) (C := Tryd.checked) (os := os) (X := fun w _ => laidMetH Tryd.prog laidL w) false (laidWorld os) #[.slice none 0 0, .slice none 0 0] 8 rfl (by kernel_rfl) (by kernel_rfl) (by kernel_rfl) (by kernel_rfl) (by kernel_rfl) (laidWorld_met os _)) ?_
  intro W base args ds gs before hval0 hW _ _ hL _
  have hval : ∀ (j : Nat) t v, Tryd.f6.params[j]? = some t → args[j]? = some v → Value.okWide Tryd.prog W .any base t v := hval0
  have hW' := hW
  obtain ⟨p, q, hA0, hV, rfl, hfz, hnd⟩ := hW
  have hA : DataW.TrodAll enc Tryd.prog W 0 (fun _ => true) true Tryd.f6.params.toList args.toList ds p := hA0
  rw [Tryd.params6] at hA hval
  obtain ⟨v0, v1, d0, d1, p0, p1, rfl, rfl, rfl, h0, h1⟩ := trodAll_two hA
  obtain ⟨rfl, rfl⟩ := trodVars_none hV
  have hvl0 := hval 0 22 v0 rfl rfl
  have hvl1 := hval 1 22 v1 rfl rfl
  obtain ⟨A0, q0, c0, l0, rfl, hc0, hm0x, hm0⟩ := open_bytes hvl0 h0
  obtain ⟨A1, q1, c1, l1, rfl, hc1, hm1x, hm1⟩ := open_bytes hvl1 h1
  clear hA0 hval0
  refine (walk W q0 q1 A0 A1 c0 c1 l0 l1 (ka_of_laid hL) hm0 hm1).mono fun e W' ⟨he, bel⟩ => ?_
  subst he
  exact ⟨_, rfl, _, _, _, [], _, [], hW', trodAll_mk1 (shut_bool Tryd.underlying4 _), trodAll_mk2 (keep_arg (by kernel_rfl) (of_decide_eq_true (by kernel_rfl)) h0 bel) (keep_arg (by kernel_rfl) (of_decide_eq_true (by kernel_rfl)) h1 bel), rfl, bel.frame _, fun h => by cases h⟩

theorem over : Rows.macEqualRow.holds Tryd.pinned (OpenSpec.ofChange Rows.macEqualSpec) :=
  OpenClaim.holds_of_wide 6 Tryd.f6 rfl rfl rfl rfl rfl rfl rfl ⟨rfl, rfl, rfl, rfl, rfl⟩ rfl rfl rfl rfl rfl (by kernel_rfl) Tryd.func6 (by kernel_rfl)
    (of_decide_eq_true (by kernel_rfl)) (by unfold Func.isWrapper; first | (rw [if_pos (by decide +kernel)]; kernel_rfl) | (rw [if_neg (by decide +kernel)]; exact ⟨rfl, rfl⟩))
    (fun os started H enc _ => lifted os started H enc)

/-- The statement: the tied card. -/
theorem proved : Rows.MacEqualCardSaid :=
  Claim7.holds_tied_plain_at .later [] _ true _ _ over (fun _ h => by cases h) (by kernel_rfl) (fun _ h => by cases h) macEqual_row_tie rfl ⟨rfl, rfl⟩ (by kernel_rfl) rfl
    (fun f fn hf hfn => by
      obtain rfl : f = 6 := Option.some.inj ((show Tryd.prog.funcNamed "toll/tolllaw05.MacEqual" = some 6 by kernel_rfl).symm.trans hf) |>.symm
      obtain rfl : fn = Tryd.f6 := (Option.some.inj (Tryd.func6.symm.trans hfn)).symm
      exact ⟨by kernel_rfl, fun j t ht => by
        rw [Tryd.params6] at ht
        have hm : t ∈ [22, 22] := by simpa using Array.mem_of_getElem? ht
        have hall : ([22, 22].all fun u => !Tryd.prog.wantsStandIn u) = true := by kernel_rfl
        exact (show Tryd.prog.wantsStandIn t = false by simpa using List.all_eq_true.1 hall t hm)⟩)
    (by kernel_rfl)
#print axioms proved
end Go.Proofs.YtgplkdnffbappaaDoor.macEqual
