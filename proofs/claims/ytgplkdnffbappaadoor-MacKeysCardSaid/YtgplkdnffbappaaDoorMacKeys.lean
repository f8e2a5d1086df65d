/-
  A key of more than 64 bytes has the codes of its digest, and a shorter one those of the key with zero bytes: the law MacKeys returns true for every input. No condition.
-/
import Derived.Test.YtgplkdnffbappaaDoorMacKeyW
import Derived.Test.YtgplkdnffbappaaDoorOpenB
namespace Go.Proofs.YtgplkdnffbappaaDoor.macKeys
open Go.ChangeShapes Go.WideShapes Go.ChangeAt Go.RowKit
set_option linter.unusedVariables false
set_option linter.unusedSimpArgs false

set_option maxHeartbeats 4000000 in
theorem walk_out (w : World) (q2 : Nat) (A2 : Option Addr) (c2 : Nat) (z : Int) (n : Nat) (b : List UInt8) (hK : KAt w) (hm2 : Mem w q2 A2 b) (hc2 : b.length ≤ c2) (hz0 : 0 ≤ z) (hz1 : z < 18446744073709551616) (hn : n < 256) (h : 300 < b.length) :
    Calls Tryd.prog 7 #[.int .u64 z, .int .u8 (n : Int), .slice A2 b.length c2] w fun e w' => e = .returned (.bool true) ∧ Below w.heap.size w w' := by
  have HK := kept hK
  have hd1 : decide ((300 : Int) < (b.length : Int)) = true := by rw [decide_eq_true_eq]; omega
  clear hK h hm2 hc2 hz0 hz1 hn
  go_enter Tryd.func7, Tryd.ntmps7
  go_wp2_with fail
  refine (mawake_any _ HK.out).mono ?_
  rintro e w1 ⟨rfl, b1⟩
  go_wp2_with fail
  refine (mawake_any _ (HK.out.below0 b1)).mono ?_
  rintro e w2 ⟨rfl, b2⟩
  have h2 := b1.trans (b2.mono b1.size)
  clear b1 b2
  go_wp2_with fail
  go_ret
  exact ⟨rfl, h2⟩
theorem walk (w : World) (q2 : Nat) (A2 : Option Addr) (c2 : Nat) (z : Int) (n : Nat) (b : List UInt8) (hK : KAt w) (hm2 : Mem w q2 A2 b) (hc2 : b.length ≤ c2) (hz0 : 0 ≤ z) (hz1 : z < 18446744073709551616) (hn : n < 256) :
    Calls Tryd.prog 7 #[.int .u64 z, .int .u8 (n : Int), .slice A2 b.length c2] w fun e w' => e = .returned (.bool true) ∧ Below w.heap.size w w' := by
  by_cases h1 : 300 < b.length
  · exact walk_out w q2 A2 c2 z n b hK hm2 hc2 hz0 hz1 hn h1
  · by_cases h2 : 63 < 40 + n % 50
    · exact walk_big w q2 A2 c2 z n b hK hm2 hc2 hz0 hz1 hn (by omega) h2
    · exact walk_small w q2 A2 c2 z n b hK hm2 hc2 hz0 hz1 hn (by omega) (by omega)
set_option maxRecDepth 100000 in
theorem lifted (os : Os) (started : os.Started) (H : Type) (enc : TypeId × Value → H) :
    ReturnsInHanded {} Tryd.checked os 7 .any (fun w args => (Rows.macKeysSpec.pre enc Tryd.prog Tryd.f7 [] false w args ∧ laidMetH Tryd.prog laidL w) ∧ sizedMet enc Tryd.prog Tryd.f7 (OpenSpec.ofChange Rows.macKeysSpec) false w args)
      (Rows.macKeysSpec.post enc Tryd.prog Tryd.f7 false true false false) := by
  refine returnsInHanded_of_change_and (C := Tryd.checked) (X := fun w _ => laidMetH Tryd.prog laidL w) (fun _ _ _ hh h => h.of_heap hh) own_knob started (by kernel_rfl) Tryd.func7
    (ChangeSpec.witness_at (enc := enc) (C := Tryd.checked) (os := os) (X := fun w _ => laidMetH Tryd.prog laidL w) false (laidWorld os) #[.int .u64 0, .int .u8 0, .slice none 0 0] 8 rfl (by kernel_rfl) (by kernel_rfl) (by kernel_rfl) (by kernel_rfl) (by kernel_rfl) (laidWorld_met os _)) ?_
  intro W base args ds gs before hval0 hW _ _ hL _
  have hval : ∀ (j : Nat) t v, Tryd.f7.params[j]? = some t → args[j]? = some v → Value.okWide Tryd.prog W .any base t v := hval0
  have hW' := hW
  obtain ⟨p, q, hA0, hV, rfl, hfz, hnd⟩ := hW
  have hA : DataW.TrodAll enc Tryd.prog W 0 (fun _ => true) true Tryd.f7.params.toList args.toList ds p := hA0
  rw [Tryd.params7] at hA hval
  obtain ⟨v0, v1, v2, d0, d1, d2, p0, p1, p2, rfl, rfl, rfl, h0, h1, h2⟩ := trodAll_three hA
  obtain ⟨rfl, rfl⟩ := trodVars_none hV
  have hvl0 := hval 0 37 v0 rfl rfl
  have hvl1 := hval 1 5 v1 rfl rfl
  have hvl2 := hval 2 22 v2 rfl rfl
  obtain ⟨z0, rfl, rfl, rfl, w0⟩ := open_int Tryd.underlying37 hvl0 h0
  have hz0 : IntKind.u64.min ≤ z0 ∧ z0 ≤ IntKind.u64.max := by simpa [Lit.wf] using w0
  have hz0' : 0 ≤ z0 ∧ z0 ≤ 18446744073709551615 := hz0
  obtain ⟨z1, rfl, rfl, rfl, w1⟩ := open_int Tryd.underlying5 hvl1 h1
  have hz1 : IntKind.u8.min ≤ z1 ∧ z1 ≤ IntKind.u8.max := by simpa [Lit.wf] using w1
  have hz1' : 0 ≤ z1 ∧ z1 ≤ 255 := hz1
  obtain ⟨n, rfl⟩ := Int.eq_ofNat_of_zero_le hz1'.1
  obtain ⟨A2, q2, c2, l2, rfl, hc2, hm2x, hm2⟩ := open_bytes hvl2 h2
  clear hA0 hval0
  refine (walk W q2 A2 c2 z0 n l2 (ka_of_laid hL) hm2 hc2 hz0'.1 (by omega) (by omega)).mono fun e W' ⟨he, bel⟩ => ?_
  subst he
  exact ⟨_, rfl, _, _, _, [], _, [], hW', trodAll_mk1 (shut_bool Tryd.underlying4 _), trodAll_mk3 (shut_int Tryd.underlying37 w0) (shut_int Tryd.underlying5 w1) (keep_arg (by kernel_rfl) (of_decide_eq_true (by kernel_rfl)) h2 bel), rfl, bel.frame _, fun h => by cases h⟩

theorem over : Rows.macKeysRow.holds Tryd.pinned (OpenSpec.ofChange Rows.macKeysSpec) :=
  OpenClaim.holds_of_wide 7 Tryd.f7 rfl rfl rfl rfl rfl rfl rfl ⟨rfl, rfl, rfl, rfl, rfl⟩ rfl rfl rfl rfl rfl (by kernel_rfl) Tryd.func7 (by kernel_rfl)
    (of_decide_eq_true (by kernel_rfl)) (by unfold Func.isWrapper; first | (rw [if_pos (by decide +kernel)]; kernel_rfl) | (rw [if_neg (by decide +kernel)]; exact ⟨rfl, rfl⟩))
    (fun os started H enc _ => lifted os started H enc)

/-- The statement: the tied card. -/
theorem proved : Rows.MacKeysCardSaid :=
  Claim7.holds_tied_plain_at .later [] _ true _ _ over (fun _ h => by cases h) (by kernel_rfl) (fun _ h => by cases h) macKeys_row_tie rfl ⟨rfl, rfl⟩ (by kernel_rfl) rfl
    (fun f fn hf hfn => by
      obtain rfl : f = 7 := Option.some.inj ((show Tryd.prog.funcNamed "toll/tolllaw05.MacKeys" = some 7 by kernel_rfl).symm.trans hf) |>.symm
      obtain rfl : fn = Tryd.f7 := (Option.some.inj (Tryd.func7.symm.trans hfn)).symm
      exact ⟨by kernel_rfl, fun j t ht => by
        rw [Tryd.params7] at ht
        have hm : t ∈ [37, 5, 22] := by simpa using Array.mem_of_getElem? ht
        have hall : ([37, 5, 22].all fun u => !Tryd.prog.wantsStandIn u) = true := by kernel_rfl
        exact (show Tryd.prog.wantsStandIn t = false by simpa using List.all_eq_true.1 hall t hm)⟩)
    (by kernel_rfl)
#print axioms proved
end Go.Proofs.YtgplkdnffbappaaDoor.macKeys
