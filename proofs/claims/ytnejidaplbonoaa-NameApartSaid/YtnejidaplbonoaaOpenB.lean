/-
  A slice of bytes that came in.
-/
import Derived.Test.YtnejidaplbonoaaOpenRows
import Derived.ShutString
namespace Go.Proofs.Ytnejidaplbonoaa
open Go.ChangeShapes Go.WideShapes Go.ChangeAt Go.RowKit
set_option maxRecDepth 100000
set_option linter.unusedVariables false

/-- A slice of bytes that came in. -/
theorem open_bytes {H : Type} {enc : TypeId × Value → H} {W : World} {base b2 : Nat} {sp : Nat → Bool} {held : Bool} {v : Value} {d : DataW H} {p : List MemPlace}
    (hv : Value.okWide Try.prog W .any base 28 v) (h : DataW.Trod enc Try.prog W b2 sp held 28 v d p) :
    ∃ A q c l, v = .slice A l.length c ∧ l.length ≤ c ∧ c ≤ maxLen ∧ Mem W q A l := by
  obtain ⟨A, n, c, rfl⟩ := okWide_slice Try.underlying28 hv
  obtain ⟨fuel, hf⟩ := h
  rcases open_ints Try.underlying28 Try.underlying5 (by kernel_rfl) hf with ⟨hcs, _⟩ | ⟨x, l, c', zs, hcs, _, hl, hm, hz, _, hcell, hwz⟩
  · simp [Value.cells] at hcs
    obtain ⟨rfl, rfl, rfl⟩ := hcs
    exact ⟨none, 0, 0, [], rfl, Nat.le_refl _, by unfold maxLen; omega, Mem.nil_ _ _ _⟩
  · simp [Value.cells] at hcs
    obtain ⟨rfl, rfl, rfl⟩ := hcs
    obtain ⟨bs, hbs⟩ := bytes_of_ints (zs.take n) fun m hm => hwz m (List.mem_of_mem_take hm)
    obtain ⟨b, off, spot⟩ := x
    have hzl : n ≤ zs.length := by
      have hz' : zs.length = if sp b = true then c else n := by simpa using hz
      split at hz' <;> omega
    have hlen : n = bs.length := by
      have := congrArg List.length hbs
      rw [List.length_take, List.length_map] at this
      omega
    refine ⟨_, b, c, bs, by rw [hlen], by omega, hm, ?_⟩
    by_cases h0 : bs = []
    · exact .inl h0
    · have hp : 0 < bs.length := List.length_pos_iff.2 h0
      have hc0 := hcell 0 (by omega)
      have hspot : spot = none := by simpa [Addr.add] using World.cell?_spot hc0
      subst hspot
      refine .inr ⟨off, rfl, fun j y hj => ?_⟩
      have hjl : j < bs.length := (List.getElem?_eq_some_iff.1 hj).1
      have hcj := hcell j (by omega)
      have e1 : zs.getD j 0 = (y.toNat : Int) := by
        have e2 : (zs.take n)[j]? = some (y.toNat : Int) := by rw [hbs, List.getElem?_map, hj]; rfl
        rw [List.getElem?_take, if_pos (by omega)] at e2
        simp [List.getD, e2]
      rw [e1] at hcj
      rw [← hcj]
      congr 1
      unfold Addr.add
      split
      · rename_i hj0; subst hj0; rfl
      · rfl
end Go.Proofs.Ytnejidaplbonoaa
