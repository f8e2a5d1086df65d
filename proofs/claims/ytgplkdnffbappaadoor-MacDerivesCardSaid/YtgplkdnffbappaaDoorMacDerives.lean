/-
  Derived strings are those of the reference, and begin with shorter ones; changing one does not change the next one: the law MacDerives returns true for every input. No condition.
-/
import Derived.Test.YtgplkdnffbappaaDoorMacDerW
import Derived.Test.YtgplkdnffbappaaDoorOpenB
namespace Go.Proofs.YtgplkdnffbappaaDoor.macDerives
open Go.ChangeShapes Go.WideShapes Go.ChangeAt Go.RowKit
set_option linter.unusedVariables false
set_option linter.unusedSimpArgs false

set_option maxHeartbeats 4000000 in
theorem walk_out1 (w : World) (q : Nat) (A : Option Addr) (c : Nat) (k : List UInt8) (s : ByteArray) (z : Int) (m : Nat) (hK : KAt w) (hm : Mem w q A k) (hc : k.length ≤ c) (hzm : -9223372036854775808 ≤ z) (hm8 : m < 256) (h : 200 < k.length) :
    Calls Tryd.prog 4 #[.slice A k.length c, .string s, .int .i64 z, .int .u8 (m : Int)] w fun e w' => e = .returned (.bool true) ∧ Below w.heap.size w w' := by
  have HK := kept hK
  have hd1 : decide ((200 : Int) < (k.length : Int)) = true := by rw [decide_eq_true_eq]; omega
  clear hK h hm hc hzm hm8
  go_enter Tryd.func4, Tryd.ntmps4
  go_wp2_with fail
  refine (mawake_any _ HK.out).mono ?_
  rintro e w1 ⟨rfl, b1⟩
  go_wp2_with fail
  refine (mawake_any _ (HK.out.below0 b1)).mono ?_
  rintro e w2 ⟨rfl, b2⟩
  have h2 := b1.trans (b2.mono b1.size)
  clear b1 b2
  go_wp2_with fail
  go_ret
  exact ⟨rfl, h2⟩
set_option maxHeartbeats 4000000 in
theorem walk_out2 (w : World) (q : Nat) (A : Option Addr) (c : Nat) (k : List UInt8) (s : ByteArray) (z : Int) (m : Nat) (hK : KAt w) (hm : Mem w q A k) (hc : k.length ≤ c) (hzm : -9223372036854775808 ≤ z) (hm8 : m < 256) (h : k.length ≤ 200 ∧ 100 < s.size) :
    Calls Tryd.prog 4 #[.slice A k.length c, .string s, .int .i64 z, .int .u8 (m : Int)] w fun e w' => e = .returned (.bool true) ∧ Below w.heap.size w w' := by
  have HK := kept hK
  have hd1 : decide ((200 : Int) < (k.length : Int)) = false := by rw [decide_eq_false_iff_not]; omega
  have hd2 : decide ((100 : Int) < (s.size : Int)) = true := by rw [decide_eq_true_eq]; omega
  clear hK h hm hc hzm hm8
  go_enter Tryd.func4, Tryd.ntmps4
  go_wp2_with fail
  refine (mawake_any _ HK.out).mono ?_
  rintro e w1 ⟨rfl, b1⟩
  go_wp2_with fail
  refine (mawake_any _ (HK.out.below0 b1)).mono ?_
  rintro e w2 ⟨rfl, b2⟩
  have h2 := b1.trans (b2.mono b1.size)
  clear b1 b2
  go_wp2_with fail
  go_ret
  exact ⟨rfl, h2⟩
set_option maxHeartbeats 4000000 in
theorem walk_out3 (w : World) (q : Nat) (A : Option Addr) (c : Nat) (k : List UInt8) (s : ByteArray) (z : Int) (m : Nat) (hK : KAt w) (hm : Mem w q A k) (hc : k.length ≤ c) (hzm : -9223372036854775808 ≤ z) (hm8 : m < 256) (h : k.length ≤ 200 ∧ s.size ≤ 100 ∧ 500 < z) :
    Calls Tryd.prog 4 #[.slice A k.length c, .string s, .int .i64 z, .int .u8 (m : Int)] w fun e w' => e = .returned (.bool true) ∧ Below w.heap.size w w' := by
  have HK := kept hK
  have hd1 : decide ((200 : Int) < (k.length : Int)) = false := by rw [decide_eq_false_iff_not]; omega
  have hd2 : decide ((100 : Int) < (s.size : Int)) = false := by rw [decide_eq_false_iff_not]; omega
  have hd3 : decide ((500 : Int) < z) = true := by rw [decide_eq_true_eq]; omega
  clear hK h hm hc hzm hm8
  go_enter Tryd.func4, Tryd.ntmps4
  go_wp2_with fail
  refine (mawake_any _ HK.out).mono ?_
  rintro e w1 ⟨rfl, b1⟩
  go_wp2_with fail
  refine (mawake_any _ (HK.out.below0 b1)).mono ?_
  rintro e w2 ⟨rfl, b2⟩
  have h2 := b1.trans (b2.mono b1.size)
  clear b1 b2
  go_wp2_with fail
  go_ret
  exact ⟨rfl, h2⟩
theorem walk (w : World) (q : Nat) (A : Option Addr) (c : Nat) (k : List UInt8) (s : ByteArray) (z : Int) (m : Nat) (hK : KAt w) (hm : Mem w q A k) (hc : k.length ≤ c) (hzm : -9223372036854775808 ≤ z) (hm8 : m < 256) (hs63 : s.size ≤ maxLen) :
    Calls Tryd.prog 4 #[.slice A k.length c, .string s, .int .i64 z, .int .u8 (m : Int)] w fun e w' => e = .returned (.bool true) ∧ Below w.heap.size w w' := by
  by_cases h1 : 200 < k.length
  · exact walk_out1 w q A c k s z m hK hm hc hzm hm8 h1
  · by_cases h2 : 100 < s.size
    · exact walk_out2 w q A c k s z m hK hm hc hzm hm8 ⟨by omega, h2⟩
    · by_cases h3 : 500 < z
      · exact walk_out3 w q A c k s z m hK hm hc hzm hm8 ⟨by omega, by omega, h3⟩
      · rcases Nat.lt_trichotomy (derZ k s.data.toList z).length m with h | h | h
        · exact walk_neg w q A c k s z m hK hm hc (by omega) (by omega) (by omega) hzm hm8 h
        · exact walk_zero w q A c k s z m hK hm hc (by omega) (by omega) (by omega) hzm hm8 h
        · exact walk_some w q A c k s z m hK hm hc (by omega) (by omega) (by omega) hzm hm8 h
set_option maxRecDepth 100000 in
theorem lifted (os : Os) (started : os.Started) (H : Type) (enc : TypeId × Value → H) :
    ReturnsInHanded {} Tryd.checked os 4 .any (fun w args => (Rows.macDerivesSpec.pre enc Tryd.prog Tryd.f4 [] false w args ∧ laidMetH Tryd.prog laidL w) ∧ sizedMet enc Tryd.prog Tryd.f4 (OpenSpec.ofChange Rows.macDerivesSpec) false w args)
      (Rows.macDerivesSpec.post enc Tryd.prog Tryd.f4 false true false false) := by
  refine returnsInHanded_of_change_and (C := Tryd.checked) (X := fun w _ => laidMetH Tryd.prog laidL w) (fun _ _ _ hh h => h.of_heap hh) own_knob started (by kernel_rfl) Tryd.func4
    (ChangeSpec.witness_at (enc := enc) (C := Tryd.checked) (os := os) (X := fun w _ => laidMetH Tryd.prog laidL w) false (laidWorld os) #[.slice none 0 0, .string ⟨#[]⟩, .int .i64 0, .int .u8 0] 8 rfl (by kernel_rfl) (by kernel_rfl) (by kernel_rfl) (by kernel_rfl) (by kernel_rfl) (laidWorld_met os _)) ?_
  intro W base args ds gs before hval0 hW _ _ hL _
  have hval : ∀ (j : Nat) t v, Tryd.f4.params[j]? = some t → args[j]? = some v → Value.okWide Tryd.prog W .any base t v := hval0
  have hW' := hW
  obtain ⟨p, q, hA0, hV, rfl, hfz, hnd⟩ := hW
  have hA : DataW.TrodAll enc Tryd.prog W 0 (fun _ => true) true Tryd.f4.params.toList args.toList ds p := hA0
  rw [Tryd.params4] at hA hval
  obtain ⟨v0, v1, v2, v3, d0, d1, d2, d3, p0, p1, p2, p3, rfl, rfl, rfl, h0, h1, h2, h3⟩ := trodAll_four hA
  obtain ⟨rfl, rfl⟩ := trodVars_none hV
  have hvl0 := hval 0 22 v0 rfl rfl
  have hvl1 := hval 1 9 v1 rfl rfl
  have hvl2 := hval 2 3 v2 rfl rfl
  have hvl3 := hval 3 5 v3 rfl rfl
  obtain ⟨A0, q0, c0, l0, rfl, hc0, hm0x, hm0⟩ := open_bytes hvl0 h0
  obtain ⟨s1, rfl, rfl, rfl, ws1⟩ := Go.ChangeMaps.open_string Tryd.underlying9 hvl1 h1
  obtain ⟨z2, rfl, rfl, rfl, w2⟩ := open_int Tryd.underlying3 hvl2 h2
  obtain ⟨z3, rfl, rfl, rfl, w3⟩ := open_int Tryd.underlying5 hvl3 h3
  have hz2 : IntKind.i64.min ≤ z2 ∧ z2 ≤ IntKind.i64.max := by simpa [Lit.wf] using w2
  have hz2' : -9223372036854775808 ≤ z2 ∧ z2 ≤ 9223372036854775807 := hz2
  have hz3 : IntKind.u8.min ≤ z3 ∧ z3 ≤ IntKind.u8.max := by simpa [Lit.wf] using w3
  have hz3' : 0 ≤ z3 ∧ z3 ≤ 255 := hz3
  obtain ⟨m, rfl⟩ := Int.eq_ofNat_of_zero_le hz3'.1
  clear hA0 hval0
  refine (walk W q0 A0 c0 l0 s1 z2 m (ka_of_laid hL) hm0 hc0 hz2'.1 (by omega) ws1).mono fun e W' ⟨he, bel⟩ => ?_
  subst he
  exact ⟨_, rfl, _, _, _, [], _, [], hW', trodAll_mk1 (shut_bool Tryd.underlying4 _), trodAll_mk4 (keep_arg (by kernel_rfl) (of_decide_eq_true (by kernel_rfl)) h0 bel) (Go.ChangeMaps.shut_string Tryd.underlying9 ws1) (shut_int Tryd.underlying3 w2) (shut_int Tryd.underlying5 w3), rfl, bel.frame _, fun h => by cases h⟩

theorem over : Rows.macDerivesRow.holds Tryd.pinned (OpenSpec.ofChange Rows.macDerivesSpec) :=
  OpenClaim.holds_of_wide 4 Tryd.f4 rfl rfl rfl rfl rfl rfl rfl ⟨rfl, rfl, rfl, rfl, rfl⟩ rfl rfl rfl rfl rfl (by kernel_rfl) Tryd.func4 (by kernel_rfl)
    (of_decide_eq_true (by kernel_rfl)) (by unfold Func.isWrapper; first | (rw [if_pos (by decide +kernel)]; kernel_rfl) | (rw [if_neg (by decide +kernel)]; exact ⟨rfl, rfl⟩))
    (fun os started H enc _ => lifted os started H enc)

/-- The statement: the tied card. -/
theorem proved : Rows.MacDerivesCardSaid :=
  Claim7.holds_tied_plain_at .later [] _ true _ _ over (fun _ h => by cases h) (by kernel_rfl) (fun _ h => by cases h) macDerives_row_tie rfl ⟨rfl, rfl⟩ (by kernel_rfl) rfl
    (fun f fn hf hfn => by
      obtain rfl : f = 4 := Option.some.inj ((show Tryd.prog.funcNamed "toll/tolllaw05.MacDerives" = some 4 by kernel_rfl).symm.trans hf) |>.symm
      obtain rfl : fn = Tryd.f4 := (Option.some.inj (Tryd.func4.symm.trans hfn)).symm
      exact ⟨by kernel_rfl, fun j t ht => by
        rw [Tryd.params4] at ht
        have hm : t ∈ [22, 9, 3, 5] := by simpa using Array.mem_of_getElem? ht
        have hall : ([22, 9, 3, 5].all fun u => !Tryd.prog.wantsStandIn u) = true := by kernel_rfl
        exact (show Tryd.prog.wantsStandIn t = false by simpa using List.all_eq_true.1 hall t hm)⟩)
    (by kernel_rfl)
#print axioms proved
end Go.Proofs.YtgplkdnffbappaaDoor.macDerives
