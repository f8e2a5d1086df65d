/-
  A code is right exactly if it has 16 to 32 bytes, and that of the bytes begins with it: the law MacChecks returns true for every input. No condition.
-/
import Derived.Test.YtgplkdnffbappaaDoorMacChkW
import Derived.Test.YtgplkdnffbappaaDoorSpread
import Derived.Test.YtgplkdnffbappaaDoorOpenB
import Derived.Test.YtgplkdnffbappaaDoorFive
namespace Go.Proofs.YtgplkdnffbappaaDoor.macChecks
open Go.ChangeShapes Go.WideShapes Go.ChangeAt Go.RowKit
set_option linter.unusedVariables false
set_option linter.unusedSimpArgs false

set_option maxHeartbeats 4000000 in
theorem walk_out1 (w : World) (q1 q2 : Nat) (A1 A2 : Option Addr) (c1 c2 : Nat) (k b : List UInt8) (n at8 : Nat) (c : UInt8) (hK : KAt w) (hm1 : Mem w q1 A1 k) (hc1 : k.length ≤ c1) (hm2 : Mem w q2 A2 b) (hc2 : b.length ≤ c2) (hn : n < 256) (hat : at8 < 256) (h : 200 < k.length) :
    Calls Tryd.prog 5 #[.slice A1 k.length c1, .slice A2 b.length c2, .int .u8 (n : Int), .int .u8 (at8 : Int), .int .u8 (c.toNat : Int)] w fun e w' => e = .returned (.bool true) ∧ Below w.heap.size w w' := by
  have HK := kept hK
  have hd1 : decide ((200 : Int) < (k.length : Int)) = true := by rw [decide_eq_true_eq]; omega
  clear hK h hm1 hm2 hc1 hc2 hn hat
  go_enter Tryd.func5, Tryd.ntmps5
  go_wp2_with fail
  refine (mawake_any _ HK.out).mono ?_
  rintro e w1 ⟨rfl, b1⟩
  go_wp2_with fail
  refine (mawake_any _ (HK.out.below0 b1)).mono ?_
  rintro e w2 ⟨rfl, b2⟩
  have h2 := b1.trans (b2.mono b1.size)
  clear b1 b2
  go_wp2_with fail
  go_ret
  exact ⟨rfl, h2⟩
set_option maxHeartbeats 4000000 in
theorem walk_out2 (w : World) (q1 q2 : Nat) (A1 A2 : Option Addr) (c1 c2 : Nat) (k b : List UInt8) (n at8 : Nat) (c : UInt8) (hK : KAt w) (hm1 : Mem w q1 A1 k) (hc1 : k.length ≤ c1) (hm2 : Mem w q2 A2 b) (hc2 : b.length ≤ c2) (hn : n < 256) (hat : at8 < 256) (h : k.length ≤ 200 ∧ 500 < b.length) :
    Calls Tryd.prog 5 #[.slice A1 k.length c1, .slice A2 b.length c2, .int .u8 (n : Int), .int .u8 (at8 : Int), .int .u8 (c.toNat : Int)] w fun e w' => e = .returned (.bool true) ∧ Below w.heap.size w w' := by
  have HK := kept hK
  have hd1 : decide ((200 : Int) < (k.length : Int)) = false := by rw [decide_eq_false_iff_not]; omega
  have hd2 : decide ((500 : Int) < (b.length : Int)) = true := by rw [decide_eq_true_eq]; omega
  clear hK h hm1 hm2 hc1 hc2 hn hat
  go_enter Tryd.func5, Tryd.ntmps5
  go_wp2_with fail
  refine (mawake_any _ HK.out).mono ?_
  rintro e w1 ⟨rfl, b1⟩
  go_wp2_with fail
  refine (mawake_any _ (HK.out.below0 b1)).mono ?_
  rintro e w2 ⟨rfl, b2⟩
  have h2 := b1.trans (b2.mono b1.size)
  clear b1 b2
  go_wp2_with fail
  go_ret
  exact ⟨rfl, h2⟩
theorem walk (w : World) (q1 q2 : Nat) (A1 A2 : Option Addr) (c1 c2 : Nat) (k b : List UInt8) (n at8 : Nat) (c : UInt8) (hK : KAt w) (hm1 : Mem w q1 A1 k) (hc1 : k.length ≤ c1) (hm2 : Mem w q2 A2 b) (hc2 : b.length ≤ c2) (hn : n < 256) (hat : at8 < 256) :
    Calls Tryd.prog 5 #[.slice A1 k.length c1, .slice A2 b.length c2, .int .u8 (n : Int), .int .u8 (at8 : Int), .int .u8 (c.toNat : Int)] w fun e w' => e = .returned (.bool true) ∧ Below w.heap.size w w' := by
  by_cases h1 : 200 < k.length
  · exact walk_out1 w q1 q2 A1 A2 c1 c2 k b n at8 c hK hm1 hc1 hm2 hc2 hn hat h1
  · by_cases h2 : 500 < b.length
    · exact walk_out2 w q1 q2 A1 A2 c1 c2 k b n at8 c hK hm1 hc1 hm2 hc2 hn hat ⟨by omega, h2⟩
    · by_cases e0 : n % 34 = 0
      · exact walk_nil w q1 q2 A1 A2 c1 c2 k b n at8 c hK hm1 hc1 hm2 hc2 (by omega) (by omega) hn hat e0
      · by_cases e1 : n % 34 < 16
        · exact walk_low w q1 q2 A1 A2 c1 c2 k b n at8 c hK hm1 hc1 hm2 hc2 (by omega) (by omega) hn hat ⟨by omega, e1⟩
        · by_cases e2 : n % 34 = 33
          · exact walk_hi w q1 q2 A1 A2 c1 c2 k b n at8 c hK hm1 hc1 hm2 hc2 (by omega) (by omega) hn hat e2
          · by_cases e3 : ((hmac k b).take (n % 34)).getD (at8 % (n % 34)) 0 = c
            · exact walk_yes w q1 q2 A1 A2 c1 c2 k b n at8 c hK hm1 hc1 hm2 hc2 (by omega) (by omega) hn hat ⟨by omega, by omega⟩ e3
            · exact walk_no w q1 q2 A1 A2 c1 c2 k b n at8 c hK hm1 hc1 hm2 hc2 (by omega) (by omega) hn hat ⟨by omega, by omega⟩ e3
set_option maxRecDepth 100000 in
theorem lifted (os : Os) (started : os.Started) (H : Type) (enc : TypeId × Value → H) :
    ReturnsInHanded {} Tryd.checked os 5 .any (fun w args => (Rows.macChecksSpec.pre enc Tryd.prog Tryd.f5 [] false w args ∧ laidMetH Tryd.prog laidL w) ∧ sizedMet enc Tryd.prog Tryd.f5 (OpenSpec.ofChange Rows.macChecksSpec) false w args)
      (Rows.macChecksSpec.post enc Tryd.prog Tryd.f5 false true false false) := by
  refine returnsInHanded_of_change_and (C := Tryd.checked) (X := fun w _ => laidMetH Tryd.prog laidL w) (fun _ _ _ hh h => h.of_heap hh) own_knob started (by kernel_rfl) Tryd.func5
    (ChangeSpec.witness_at (enc := enc) (C := Tryd.checked) (os := os) (X := fun w _ => laidMetH Tryd.prog laidL w) false (laidWorld os) #[.slice none 0 0, .slice none 0 0, .int .u8 0, .int .u8 0, .int .u8 0] 8 rfl (by kernel_rfl) (by kernel_rfl) (by kernel_rfl) (by kernel_rfl) (by kernel_rfl) (laidWorld_met os _)) ?_
  intro W base args ds gs before hval0 hW _ _ hL _
  have hval : ∀ (j : Nat) t v, Tryd.f5.params[j]? = some t → args[j]? = some v → Value.okWide Tryd.prog W .any base t v := hval0
  have hW' := hW
  obtain ⟨p, q, hA0, hV, rfl, hfz, hnd⟩ := hW
  have hA : DataW.TrodAll enc Tryd.prog W 0 (fun _ => true) true Tryd.f5.params.toList args.toList ds p := hA0
  rw [Tryd.params5] at hA hval
  obtain ⟨v0, v1, v2, v3, v4, d0, d1, d2, d3, d4, p0, p1, p2, p3, p4, rfl, rfl, rfl, h0, h1, h2, h3, h4⟩ := trodAll_five hA
  obtain ⟨rfl, rfl⟩ := trodVars_none hV
  have hvl0 := hval 0 22 v0 rfl rfl
  have hvl1 := hval 1 22 v1 rfl rfl
  have hvl2 := hval 2 5 v2 rfl rfl
  have hvl3 := hval 3 5 v3 rfl rfl
  have hvl4 := hval 4 5 v4 rfl rfl
  obtain ⟨A0, q0, c0, l0, rfl, hc0, hm0x, hm0⟩ := open_bytes hvl0 h0
  obtain ⟨A1, q1, c1, l1, rfl, hc1, hm1x, hm1⟩ := open_bytes hvl1 h1
  obtain ⟨z2, rfl, rfl, rfl, w2⟩ := open_int Tryd.underlying5 hvl2 h2
  have hz2 : IntKind.u8.min ≤ z2 ∧ z2 ≤ IntKind.u8.max := by simpa [Lit.wf] using w2
  have hz2' : 0 ≤ z2 ∧ z2 ≤ 255 := hz2
  obtain ⟨z3, rfl, rfl, rfl, w3⟩ := open_int Tryd.underlying5 hvl3 h3
  have hz3 : IntKind.u8.min ≤ z3 ∧ z3 ≤ IntKind.u8.max := by simpa [Lit.wf] using w3
  have hz3' : 0 ≤ z3 ∧ z3 ≤ 255 := hz3
  obtain ⟨z4, rfl, rfl, rfl, w4⟩ := open_int Tryd.underlying5 hvl4 h4
  have hz4 : IntKind.u8.min ≤ z4 ∧ z4 ≤ IntKind.u8.max := by simpa [Lit.wf] using w4
  have hz4' : 0 ≤ z4 ∧ z4 ≤ 255 := hz4
  obtain ⟨n, rfl⟩ := Int.eq_ofNat_of_zero_le hz2'.1
  obtain ⟨at8, rfl⟩ := Int.eq_ofNat_of_zero_le hz3'.1
  obtain ⟨cb, rfl⟩ := byte_of_int z4 hz4'.1 (by omega)
  clear hA0 hval0
  refine (walk W q0 q1 A0 A1 c0 c1 l0 l1 n at8 cb (ka_of_laid hL) hm0 hc0 hm1 hc1 (by omega) (by omega)).mono fun e W' ⟨he, bel⟩ => ?_
  subst he
  exact ⟨_, rfl, _, _, _, [], _, [], hW', trodAll_mk1 (shut_bool Tryd.underlying4 _), trodAll_mk5 (keep_arg (by kernel_rfl) (of_decide_eq_true (by kernel_rfl)) h0 bel) (keep_arg (by kernel_rfl) (of_decide_eq_true (by kernel_rfl)) h1 bel) (shut_int Tryd.underlying5 w2) (shut_int Tryd.underlying5 w3) (shut_int Tryd.underlying5 w4), rfl, bel.frame _, fun h => by cases h⟩

theorem over : Rows.macChecksRow.holds Tryd.pinned (OpenSpec.ofChange Rows.macChecksSpec) :=
  OpenClaim.holds_of_wide 5 Tryd.f5 rfl rfl rfl rfl rfl rfl rfl ⟨rfl, rfl, rfl, rfl, rfl⟩ rfl rfl rfl rfl rfl (by kernel_rfl) Tryd.func5 (by kernel_rfl)
    (of_decide_eq_true (by kernel_rfl)) (by unfold Func.isWrapper; first | (rw [if_pos (by decide +kernel)]; kernel_rfl) | (rw [if_neg (by decide +kernel)]; exact ⟨rfl, rfl⟩))
    (fun os started H enc _ => lifted os started H enc)

/-- The statement: the tied card. -/
theorem proved : Rows.MacChecksCardSaid :=
  Claim7.holds_tied_plain_at .later [] _ true _ _ over (fun _ h => by cases h) (by kernel_rfl) (fun _ h => by cases h) macChecks_row_tie rfl ⟨rfl, rfl⟩ (by kernel_rfl) rfl
    (fun f fn hf hfn => by
      obtain rfl : f = 5 := Option.some.inj ((show Tryd.prog.funcNamed "toll/tolllaw05.MacChecks" = some 5 by kernel_rfl).symm.trans hf) |>.symm
      obtain rfl : fn = Tryd.f5 := (Option.some.inj (Tryd.func5.symm.trans hfn)).symm
      exact ⟨by kernel_rfl, fun j t ht => by
        rw [Tryd.params5] at ht
        have hm : t ∈ [22, 22, 5, 5, 5] := by simpa using Array.mem_of_getElem? ht
        have hall : ([22, 22, 5, 5, 5].all fun u => !Tryd.prog.wantsStandIn u) = true := by kernel_rfl
        exact (show Tryd.prog.wantsStandIn t = false by simpa using List.all_eq_true.1 hall t hm)⟩)
    (by kernel_rfl)
#print axioms proved
end Go.Proofs.YtgplkdnffbappaaDoor.macChecks
