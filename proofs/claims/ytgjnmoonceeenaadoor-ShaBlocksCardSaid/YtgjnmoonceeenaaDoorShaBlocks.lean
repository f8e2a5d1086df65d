/-
  The state after any block is that of the reference: the law ShaBlocks returns true for every input. No condition.
-/
import Derived.Test.YtgjnmoonceeenaaDoorBlocksW
import Derived.Test.YtgjnmoonceeenaaDoorOpenArr
namespace Go.Proofs.YtgjnmoonceeenaaDoor.shaBlocks
open Go.ChangeShapes Go.WideShapes Go.ChangeAt Go.RowKit
set_option linter.unusedVariables false
set_option linter.unusedSimpArgs false

/-- A state whose words are given numbers. -/
theorem st_of (f : Nat → Int) (h : ∀ i, i < 8 → (Lit.int .u32 (f i)).wf = true) : ∃ st : St, gA 8 (fun i => .int .u32 (f i)) = stA st := by
  refine ⟨⟨BitVec.ofInt 32 (f 0), BitVec.ofInt 32 (f 1), BitVec.ofInt 32 (f 2), BitVec.ofInt 32 (f 3), BitVec.ofInt 32 (f 4), BitVec.ofInt 32 (f 5), BitVec.ofInt 32 (f 6), BitVec.ofInt 32 (f 7)⟩, ?_⟩
  have e : ∀ i, i < 8 → Value.int .u32 (f i) = wv (BitVec.ofInt 32 (f i)) := by
    intro i hi
    have h1 : IntKind.u32.min ≤ f i ∧ f i ≤ IntKind.u32.max := by simpa [Lit.wf] using h i hi
    have h2 : 0 ≤ f i ∧ f i ≤ 4294967295 := h1
    unfold wv wi
    congr 1
    rw [BitVec.toNat_ofInt]
    omega
  have e2 : gA 8 (fun i => .int .u32 (f i)) = #[.int .u32 (f 0), .int .u32 (f 1), .int .u32 (f 2), .int .u32 (f 3), .int .u32 (f 4), .int .u32 (f 5), .int .u32 (f 6), .int .u32 (f 7)] := rfl
  rw [e2, e 0 (by omega), e 1 (by omega), e 2 (by omega), e 3 (by omega), e 4 (by omega), e 5 (by omega), e 6 (by omega), e 7 (by omega)]
  rfl
set_option maxRecDepth 100000 in
theorem lifted (os : Os) (started : os.Started) (H : Type) (enc : TypeId × Value → H) :
    ReturnsInHanded {} Tryd.checked os 4 .any (fun w args => (Rows.shaBlocksSpec.pre enc Tryd.prog Tryd.f4 [] false w args ∧ laidMetH Tryd.prog laidL w) ∧ sizedMet enc Tryd.prog Tryd.f4 (OpenSpec.ofChange Rows.shaBlocksSpec) false w args)
      (Rows.shaBlocksSpec.post enc Tryd.prog Tryd.f4 false true false false) := by
  refine returnsInHanded_of_change_and (C := Tryd.checked) (X := fun w _ => laidMetH Tryd.prog laidL w) (fun _ _ _ hh h => h.of_heap hh) own_knob started (by kernel_rfl) Tryd.func4
    (ChangeSpec.witness_at (enc := enc) (C := Tryd.checked) (os := os) (X := fun w _ => laidMetH Tryd.prog laidL w) false (laidWorld os) #[.int .u64 0, .agg #[.int .u32 0, .int .u32 0, .int .u32 0, .int .u32 0, .int .u32 0, .int .u32 0, .int .u32 0, .int .u32 0]] 8 rfl (by kernel_rfl) (by kernel_rfl) (by kernel_rfl) (by kernel_rfl) (by kernel_rfl) (laidWorld_met os _)) ?_
  intro W base args ds gs before hval0 hW _ _ hL _
  have hval : ∀ (j : Nat) t v, Tryd.f4.params[j]? = some t → args[j]? = some v → Value.okWide Tryd.prog W .any base t v := hval0
  have hW' := hW
  obtain ⟨p, q, hA0, hV, rfl, hfz, hnd⟩ := hW
  have hA : DataW.TrodAll enc Tryd.prog W 0 (fun _ => true) true Tryd.f4.params.toList args.toList ds p := hA0
  rw [Tryd.params4] at hA hval
  obtain ⟨v0, v1, d0, d1, p0, p1, rfl, rfl, rfl, h0, h1⟩ := trodAll_two hA
  obtain ⟨rfl, rfl⟩ := trodVars_none hV
  have hvl0 := hval 0 30 v0 rfl rfl
  have hvl1 := hval 1 32 v1 rfl rfl
  obtain ⟨z0, rfl, rfl, rfl, w0⟩ := open_int Tryd.underlying30 hvl0 h0
  have hz0 : IntKind.u64.min ≤ z0 ∧ z0 ≤ IntKind.u64.max := by simpa [Lit.wf] using w0
  have hz1 : 0 ≤ z0 ∧ z0 ≤ 18446744073709551615 := hz0
  obtain ⟨f, hv1, hf⟩ := open_arrInt _ _ 8 Tryd.underlying32 .u32 Tryd.underlying31 (by kernel_rfl) (by kernel_rfl) hvl1 h1
  obtain ⟨st, hst⟩ := st_of f hf
  rw [hst] at hv1
  subst hv1
  clear hA0 hval0
  refine (walk W z0 st hz1.1 (by omega) (ka_of_laid hL)).mono fun e W' ⟨he, bel⟩ => ?_
  subst he
  exact ⟨_, rfl, _, _, _, [], _, [], hW', trodAll_mk1 (shut_bool Tryd.underlying4 _), trodAll_mk2 (shut_int Tryd.underlying30 w0) (keep_arg (by kernel_rfl) (of_decide_eq_true (by kernel_rfl)) h1 bel), rfl, bel.frame _, fun h => by cases h⟩

theorem over : Rows.shaBlocksRow.holds Tryd.pinned (OpenSpec.ofChange Rows.shaBlocksSpec) :=
  OpenClaim.holds_of_wide 4 Tryd.f4 rfl rfl rfl rfl rfl rfl rfl ⟨rfl, rfl, rfl, rfl, rfl⟩ rfl rfl rfl rfl rfl (by kernel_rfl) Tryd.func4 (by kernel_rfl)
    (of_decide_eq_true (by kernel_rfl)) (by unfold Func.isWrapper; first | (rw [if_pos (by decide +kernel)]; kernel_rfl) | (rw [if_neg (by decide +kernel)]; exact ⟨rfl, rfl⟩))
    (fun os started H enc _ => lifted os started H enc)

/-- The statement: the tied card. -/
theorem proved : Rows.ShaBlocksCardSaid :=
  Claim7.holds_tied_plain_at .later [] _ true _ _ over (fun _ h => by cases h) (by kernel_rfl) (fun _ h => by cases h) shaBlocks_row_tie rfl ⟨rfl, rfl⟩ (by kernel_rfl) rfl
    (fun f fn hf hfn => by
      obtain rfl : f = 4 := Option.some.inj ((show Tryd.prog.funcNamed "toll/tolllaw04.ShaBlocks" = some 4 by kernel_rfl).symm.trans hf) |>.symm
      obtain rfl : fn = Tryd.f4 := (Option.some.inj (Tryd.func4.symm.trans hfn)).symm
      exact ⟨by kernel_rfl, fun j t ht => by
        rw [Tryd.params4] at ht
        have hm : t ∈ [30, 32] := by simpa using Array.mem_of_getElem? ht
        have hall : ([30, 32].all fun u => !Tryd.prog.wantsStandIn u) = true := by kernel_rfl
        exact (show Tryd.prog.wantsStandIn t = false by simpa using List.all_eq_true.1 hall t hm)⟩)
    (by kernel_rfl)
#print axioms proved
end Go.Proofs.YtgjnmoonceeenaaDoor.shaBlocks
