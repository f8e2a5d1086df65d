/-
  A name that came in.
-/
import Derived.Test.YtnejidaplbonoaaOpen
import Derived.Test.YtnejidaplbonoaaNameM
import Derived.SliceStrings
import Derived.Lib.SmallJoins
namespace Go.Proofs.Ytnejidaplbonoaa
open Go.ChangeShapes Go.WideShapes Go.ChangeAt Go.RowKit
set_option maxRecDepth 100000
set_option linter.unusedVariables false

/-- A value of api.Name that came in. -/
theorem open_name {H : Type} {enc : TypeId × Value → H} {W : World} {base b2 : Nat} {sp : Nat → Bool} {held : Bool} {v : Value} {d : DataW H} {p : List MemPlace}
    (hv : Value.okWide Try.prog W .any base 24 v) (h : DataW.Trod enc Try.prog W b2 sp held 24 v d p) :
    ∃ R A q c L, v = .agg #[.string R, .slice A L.length c] ∧ R.size ≤ maxLen ∧ (∀ s ∈ L, s.size ≤ maxLen) ∧ L.length ≤ c ∧ c ≤ maxLen ∧ MemS W q A L := by
  obtain ⟨v0, v1, y0, y1, n, rfl, _, _, h0, h1⟩ := Go.Joins.open_agg2 Try.underlying24 (by kernel_rfl) (by kernel_rfl) hv h
  obtain ⟨R, hR, _, hRs⟩ := DataW.trod_string Try.underlying9 h0
  simp at hR
  subst hR
  rcases open_strings Try.underlying22 Try.underlying9 (by kernel_rfl) h1 with ⟨hcs, _⟩ | ⟨a, len, cap, ss, hcs, _, hl, hm, hz, _, hcell, hsz⟩
  · simp at hcs
    subst hcs
    exact ⟨R, none, 0, 0, [], rfl, hRs, (fun s hs => by cases hs), Nat.le_refl _, (by unfold maxLen; omega), .inl rfl⟩
  · simp at hcs
    subst hcs
    have hzl : len ≤ ss.length := by rw [hz]; split <;> omega
    have hlen : (ss.take len).length = len := by rw [List.length_take]; omega
    obtain ⟨b, off, spot⟩ := a
    refine ⟨R, _, b, cap, ss.take len, by rw [hlen], hRs, fun s hs => hsz s (List.mem_of_mem_take hs), by omega, hm, ?_⟩
    by_cases h0 : ss.take len = []
    · exact .inl h0
    · have hp : 0 < len := by
        have := List.length_pos_iff.2 h0
        omega
      have hc0 := hcell 0 (by omega)
      have hspot : spot = none := by simpa [Addr.add] using World.cell?_spot hc0
      subst hspot
      refine .inr ⟨off, rfl, fun j y hj => ?_⟩
      have hjl : j < len := by
        have := (List.getElem?_eq_some_iff.1 hj).1
        omega
      have hcj := hcell j (by omega)
      have e1 : ss.getD j ByteArray.empty = y := by
        rw [List.getElem?_take, if_pos hjl] at hj
        simp [List.getD, hj]
      rw [e1] at hcj
      rw [← hcj]
      congr 1
      unfold Addr.add
      split
      · rename_i hj0; subst hj0; rfl
      · rfl
end Go.Proofs.Ytnejidaplbonoaa
