/-
  An array of numbers that came in by value.
-/
import Derived.Test.YtcjbplgjjhenkaaDoorSm4
import Derived.ProofKit
import Derived.OpenShut
namespace Go.Proofs.YtcjbplgjjhenkaaDoor
open Go.ChangeShapes Go.WideShapes Go.ChangeAt Go.RowKit
set_option linter.unusedVariables false

theorem open_arrInt {P : Program} {H : Type} {enc : TypeId × Value → H} {W : World} {r : Reach} {b0 b2 : Nat} {sp : Nat → Bool} {held : Bool} {v : Value} {d : DataW H} {p : List MemPlace} (t e : TypeId) (n : Nat) (ht : P.underlying t = some (.array n e)) (k : IntKind)
    (he : P.underlying e = some (.int k)) (c1 : P.cellsOf e = 1) (cn : P.cellsOf t = n) (hv : Value.okWide P W r b0 t v) (h : DataW.Trod enc P W b2 sp held t v d p) :
    ∃ f : Nat → Int, v = .agg (gA n fun i => .int k (f i)) ∧ ∀ i, i < n → (Lit.int k (f i)).wf = true := by
  simp only [Value.okWide, ht] at hv
  obtain ⟨cs, rfl, hsz, _⟩ := hv
  rw [cn] at hsz
  obtain ⟨fuel, hf⟩ := h
  obtain ⟨xs, m, rfl, hx, hlen, hn, hel⟩ := DataW.trod_array ht hf
  have hcell : ∀ i, i < n → ∃ z, cs[i]? = some (.int k z) ∧ (Lit.int k z).wf = true := by
    intro i hi
    have h1 := hel i hi
    rw [c1, Nat.mul_one] at h1
    obtain ⟨x, hxi⟩ : ∃ x, xs[i]? = some x := ⟨_, List.getElem?_eq_getElem (by omega)⟩
    rw [hxi] at h1
    obtain ⟨s, hs1, hs2, hs3⟩ := DataW.trod_int he h1
    refine ⟨s, ?_, hs3⟩
    have := congrArg (fun l : List Value => l[0]?) hs1
    simpa [Value.cells] using this
  refine ⟨fun i => if h : i < n then Classical.choose (hcell i h) else 0, ?_, fun i hi => ?_⟩
  · congr 1
    apply Array.ext_getElem?
    intro i
    by_cases hi : i < n
    · rw [gA_at _ _ hi, (Classical.choose_spec (hcell i hi)).1]
      simp [hi]
    · rw [Array.getElem?_eq_none (by omega), Array.getElem?_eq_none (by rw [gA_size]; omega)]
  · simp only [hi, dif_pos]
    exact (Classical.choose_spec (hcell i hi)).2
end Go.Proofs.YtcjbplgjjhenkaaDoor
