/-
  The padding of any number of bytes is that of the reference, and fills whole blocks: the law ShaPaddings returns true for every input. No condition.
-/
import Derived.Test.YtgjnmoonceeenaaDoorHOpen
import Derived.Test.YtgjnmoonceeenaaDoorSame
namespace Go.Proofs.YtgjnmoonceeenaaDoor.shaPaddings
open Go.ChangeShapes Go.WideShapes Go.ChangeAt Go.RowKit
set_option linter.unusedVariables false
set_option linter.unusedSimpArgs false

theorem nat_of_lituint32 {n : Int} (h : (Lit.int .u32 n).wf = true) : ∃ k : Nat, n = (k : Int) ∧ k < 4294967296 := by
  have h1 : IntKind.u32.min ≤ n ∧ n ≤ IntKind.u32.max := by simpa [Lit.wf] using h
  have h2 : 0 ≤ n ∧ n ≤ 4294967295 := h1
  exact ⟨n.toNat, by omega, by omega⟩
set_option maxHeartbeats 1000000 in
theorem walk (w : World) (n : Nat) (hn : n < 4294967296) (hK : KAt w) :
    Calls Tryd.prog 6 #[.int .u32 (n : Int)] w fun e w' => e = .returned (.bool true) ∧ Below w.heap.size w w' := by
  have HK := kept hK
  have hfill := padded_len n
  have ht : ((n : Int) + ((padL n).length : Int)) % 64 = 0 := by omega
  have hl : (padL n).length ≤ 80 := by
    have := padZ_lt n
    rw [padL_len]
    omega
  clear hK hfill
  go_enter Tryd.func6, Tryd.ntmps6
  go_wp2_with fail
  refine (awake_any _ HK.out).mono ?_
  rintro e w1 ⟨rfl, b1⟩
  go_wp2_with fail
  refine (spad_any _ n (by omega)).mono ?_
  rintro e w2 ⟨v2, rfl, o2, b2⟩
  have h2 := b1.trans (b2.mono b1.size)
  obtain ⟨A2, q2, c2, rfl, _, _, m2, _⟩ := o2.form
  clear b1 b2 o2
  go_wp2_with fail
  refine (rpad_any _ n (by omega)).mono ?_
  rintro e w3 ⟨v3, rfl, o3, b3⟩
  have h3 := h2.trans (b3.mono h2.size)
  have m3 := m2.below0 b3
  obtain ⟨A4, q4, c4, rfl, _, _, m4, _⟩ := o3.form
  clear b3 o3 h2 m2
  go_wp2_with fail
  refine (same_b _ q2 q4 A2 A4 _ _ c2 c4 (padL n) rfl rfl (by omega) m3 m4).mono ?_
  rintro e w5 ⟨rfl, b5⟩
  have h5 := h3.trans (b5.mono h3.size)
  clear b5 m3 m4 h3
  go_wp2_with fail
  go_ret
  exact ⟨rfl, h5⟩

set_option maxRecDepth 100000 in
theorem lifted (os : Os) (started : os.Started) (H : Type) (enc : TypeId × Value → H) :
    ReturnsInHanded {} Tryd.checked os 6 .any (fun w args => (Rows.shaPaddingsSpec.pre enc Tryd.prog Tryd.f6 [] false w args ∧ laidMetH Tryd.prog laidL w) ∧ sizedMet enc Tryd.prog Tryd.f6 (OpenSpec.ofChange Rows.shaPaddingsSpec) false w args)
      (Rows.shaPaddingsSpec.post enc Tryd.prog Tryd.f6 false true false false) := by
  refine returnsInHanded_of_change_and (C := Tryd.checked) (X := fun w _ => laidMetH Tryd.prog laidL w) (fun _ _ _ hh h => h.of_heap hh) own_knob started (by kernel_rfl) Tryd.func6
    (ChangeSpec.witness_at (enc := enc) (C := Tryd.checked) (os := os) (X := fun w _ => laidMetH Tryd.prog laidL w) false (laidWorld os) #[.int .u32 0] 8 rfl (by kernel_rfl) (by kernel_rfl) (by kernel_rfl) (by kernel_rfl) (by kernel_rfl) (laidWorld_met os _)) ?_
  intro W base args ds gs before hval0 hW _ _ hL _
  have hval : ∀ (j : Nat) t v, Tryd.f6.params[j]? = some t → args[j]? = some v → Value.okWide Tryd.prog W .any base t v := hval0
  have hW' := hW
  obtain ⟨p, q, hA0, hV, rfl, hfz, hnd⟩ := hW
  have hA : DataW.TrodAll enc Tryd.prog W 0 (fun _ => true) true Tryd.f6.params.toList args.toList ds p := hA0
  rw [Tryd.params6] at hA hval
  obtain ⟨v0, d0, rfl, rfl, h0⟩ := trodAll_one hA
  obtain ⟨rfl, rfl⟩ := trodVars_none hV
  have hvl0 := hval 0 31 v0 rfl rfl
  obtain ⟨z0, rfl, rfl, rfl, w0⟩ := open_int Tryd.underlying31 hvl0 h0
  obtain ⟨n, rfl, hb0⟩ := nat_of_lituint32 w0
  clear hA0 hval0
  refine (walk W n hb0 (ka_of_laid hL)).mono fun e W' ⟨he, bel⟩ => ?_
  subst he
  exact ⟨_, rfl, _, _, _, [], _, [], hW', trodAll_mk1 (shut_bool Tryd.underlying4 _), trodAll_mk1 (shut_int Tryd.underlying31 w0), rfl, bel.frame _, fun h => by cases h⟩

theorem over : Rows.shaPaddingsRow.holds Tryd.pinned (OpenSpec.ofChange Rows.shaPaddingsSpec) :=
  OpenClaim.holds_of_wide 6 Tryd.f6 rfl rfl rfl rfl rfl rfl rfl ⟨rfl, rfl, rfl, rfl, rfl⟩ rfl rfl rfl rfl rfl (by kernel_rfl) Tryd.func6 (by kernel_rfl)
    (of_decide_eq_true (by kernel_rfl)) (by unfold Func.isWrapper; first | (rw [if_pos (by decide +kernel)]; kernel_rfl) | (rw [if_neg (by decide +kernel)]; exact ⟨rfl, rfl⟩))
    (fun os started H enc _ => lifted os started H enc)

/-- The statement: the tied card. -/
theorem proved : Rows.ShaPaddingsCardSaid :=
  Claim7.holds_tied_plain_at .later [] _ true _ _ over (fun _ h => by cases h) (by kernel_rfl) (fun _ h => by cases h) shaPaddings_row_tie rfl ⟨rfl, rfl⟩ (by kernel_rfl) rfl
    (fun f fn hf hfn => by
      obtain rfl : f = 6 := Option.some.inj ((show Tryd.prog.funcNamed "toll/tolllaw04.ShaPaddings" = some 6 by kernel_rfl).symm.trans hf) |>.symm
      obtain rfl : fn = Tryd.f6 := (Option.some.inj (Tryd.func6.symm.trans hfn)).symm
      exact ⟨by kernel_rfl, fun j t ht => by
        rw [Tryd.params6] at ht
        have hm : t ∈ [31] := by simpa using Array.mem_of_getElem? ht
        have hall : ([31].all fun u => !Tryd.prog.wantsStandIn u) = true := by kernel_rfl
        exact (show Tryd.prog.wantsStandIn t = false by simpa using List.all_eq_true.1 hall t hm)⟩)
    (by kernel_rfl)
#print axioms proved
end Go.Proofs.YtgjnmoonceeenaaDoor.shaPaddings
