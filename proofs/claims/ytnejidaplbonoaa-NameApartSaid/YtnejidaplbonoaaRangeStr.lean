/-
  A range over a string whose runes are tested one by one: small laws (no function of the program is named here).
-/
import Derived.Test.YtnejidaplbonoaaNameM
import Derived.Laws.RangeAny
namespace Go.Proofs.Ytnejidaplbonoaa
open Go.RowKit
set_option linter.unusedVariables false
set_option linter.unusedSimpArgs false

theorem iter_below (w : World) (s : ByteArray) (pos : Nat) : Below w.heap.size w (w.iter s pos) := by
  have h := (Below.refl w.heap.size w).alloc (Nat.le_refl _) (.stringIter s pos)
  exact h
/-- All bytes in front of a place are right. -/
def okTo (s : ByteArray) (k : Nat) : Prop := ∀ j, ∀ h : j < s.size, j < k → okB s[j] = true
theorem okTo_zero (s : ByteArray) : okTo s 0 := fun j h hk => by omega
theorem okTo_next (s : ByteArray) (k : Nat) (hk : k < s.size) (h : okTo s k) (hb : okB s[k] = true) : okTo s (k + 1) := fun j hj hk2 => by
  by_cases e : j = k
  · subst e; exact hb
  · exact h j hj (by omega)
theorem isW_all (s : ByteArray) (h1 : 1 ≤ s.size) (h2 : s.size ≤ 100) (h : okTo s s.size) : isW s = true := by
  unfold isW
  rw [decide_eq_true h1, decide_eq_true h2, Bool.and_self, Bool.true_and, List.all_eq_true]
  intro x hx
  obtain ⟨j, hj, rfl⟩ := List.getElem_of_mem hx
  have hj2 : j < s.size := by simpa using hj
  exact h j hj2 hj2
/-- The rune at a place: that of the byte, if it is right; else none that is right. -/
theorem rune_ok (s : ByteArray) (k : Nat) (hk : k < s.size) (h : okB s[k] = true) : Utf8.decode s k = (s[k].toNat, 1) ∧ 33 ≤ s[k].toNat ∧ s[k].toNat ≤ 126 := by
  unfold okB at h
  simp only [Bool.and_eq_true, decide_eq_true_eq] at h
  exact ⟨decode_ascii s k hk (by omega), h⟩
theorem rune_bad (s : ByteArray) (k : Nat) (hk : k < s.size) (h : okB s[k] = false) : (Utf8.decode s k).1 < 33 ∨ 126 < (Utf8.decode s k).1 := by
  unfold okB at h
  by_cases ha : s[k].toNat < 128
  · rw [decode_ascii s k hk ha]
    have : ¬ (33 ≤ s[k].toNat ∧ s[k].toNat ≤ 126) := by simpa using h
    show s[k].toNat < 33 ∨ 126 < s[k].toNat
    omega
  · have := (decode_high s k hk (by omega)).1
    omega
theorem isW_long (s : ByteArray) (h : s.size < 1 ∨ 100 < s.size) : isW s = false := by
  unfold isW
  rcases h with h | h
  · rw [decide_eq_false (by omega : ¬ 1 ≤ s.size)]; rfl
  · rw [decide_eq_false (by omega : ¬ s.size ≤ 100), Bool.and_false]; rfl
end Go.Proofs.Ytnejidaplbonoaa
