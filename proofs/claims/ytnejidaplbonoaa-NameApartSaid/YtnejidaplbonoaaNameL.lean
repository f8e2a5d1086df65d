/-
  Texts and bytes of names lead back to them: plain mathematics.
-/
import Derived.Test.YtnejidaplbonoaaNameQ
import Derived.Test.YtnejidaplbonoaaMath
namespace Go.Proofs.Ytnejidaplbonoaa
open Go.RowKit
set_option linter.unusedVariables false
set_option linter.unusedSimpArgs false

/-! ### Texts -/
theorem escL_cons (b : UInt8) (l : List UInt8) : escL (b :: l) = (if isM b then [92, b] else [b]) ++ escL l := by unfold escL; rw [List.flatMap_cons]
theorem isM_ne {b : UInt8} (h : isM b = false) : b ≠ 47 ∧ b ≠ 64 ∧ b ≠ 92 := by
  unfold isM at h
  simp only [Bool.or_eq_false_iff, beq_eq_false_iff_ne] at h
  exact ⟨h.1.1, h.1.2, h.2⟩
theorem plainL_cons (b : UInt8) (l : List UInt8) (h : b ≠ 92) : plainL (b :: l) = b :: plainL l := by
  cases l with
  | nil => simp [plainL]
  | cons c r => rw [plainL, if_neg h]
theorem plainL_escL (l : List UInt8) : plainL (escL l) = l := by
  induction l with
  | nil => rfl
  | cons b l ih =>
    rw [escL_cons]
    by_cases h : isM b = true
    · rw [if_pos h]
      show plainL (92 :: b :: escL l) = _
      rw [plainL, if_pos rfl, ih]
    · have hf : isM b = false := by simpa using h
      rw [if_neg h]
      show plainL (b :: escL l) = _
      rw [plainL_cons b _ (isM_ne hf).2.2, ih]
theorem splitL_escL (c : UInt8) (hc : c = 47 ∨ c = 64) (l : List UInt8) : ∀ (cur r : List UInt8), splitL c cur (escL l ++ r) = splitL c (cur ++ escL l) r := by
  induction l with
  | nil => intro cur r; simp [escL]
  | cons b l ih =>
    intro cur r
    rw [escL_cons]
    by_cases h : isM b = true
    · rw [if_pos h]
      show splitL c cur (92 :: b :: (escL l ++ r)) = _
      rw [splitL_mark, ih, List.append_assoc]
    · have hf : isM b = false := by simpa using h
      rw [if_neg h]
      show splitL c cur (b :: (escL l ++ r)) = _
      rw [splitL_next c cur b _ (isM_ne hf).2.2 (by rcases hc with rfl | rfl; exact (isM_ne hf).1; exact (isM_ne hf).2.1), ih, List.append_assoc]
theorem splitL_joinP (L : List ByteArray) (r : List UInt8) : splitL 64 [] (joinP L ++ r) = splitL 64 (joinP L) r := by
  cases L with
  | nil => simp [joinP]
  | cons s L =>
    rw [joinP, List.append_assoc, splitL_escL 64 (.inr rfl), List.nil_append]
    have key : ∀ (M : List ByteArray) (cur : List UInt8), splitL 64 cur ((M.flatMap fun t => 47 :: escL t.data.toList) ++ r) = splitL 64 (cur ++ M.flatMap fun t => 47 :: escL t.data.toList) r := by
      intro M
      induction M with
      | nil => intro cur; simp
      | cons t M ih =>
        intro cur
        rw [List.flatMap_cons]
        show splitL 64 cur (47 :: ((escL t.data.toList ++ M.flatMap fun t => 47 :: escL t.data.toList) ++ r)) = _
        rw [splitL_next 64 cur 47 _ (by decide) (by decide), List.append_assoc, splitL_escL 64 (.inr rfl), ih]
        simp
    rw [key L]
theorem splitL_parts (s : ByteArray) (L : List ByteArray) : splitL 47 [] (joinP (s :: L)) = escL s.data.toList :: L.map fun t => escL t.data.toList := by
  have key : ∀ (M : List ByteArray) (cur : List UInt8), splitL 47 cur (M.flatMap fun t => 47 :: escL t.data.toList) = cur :: M.map fun t => escL t.data.toList := by
    intro M
    induction M with
    | nil => intro cur; simp [splitL]
    | cons t M ih =>
      intro cur
      rw [List.flatMap_cons]
      show splitL 47 cur (47 :: (escL t.data.toList ++ M.flatMap fun t => 47 :: escL t.data.toList)) = _
      rw [splitL_sign 47 cur _ (by decide), splitL_escL 47 (.inl rfl), List.nil_append, ih, List.map_cons]
  rw [joinP, splitL_escL 47 (.inl rfl), List.nil_append, key]
/-- The text of a name leads back to it. -/
theorem parseL_textL (n : Nm) (h : isN n = true) : parseL (textL n) = some n := by
  obtain ⟨R, L⟩ := n
  have hp := isN_parts h
  have hs : splitL 64 [] (textL (R, L)) = [joinP L, escL R.data.toList] := by
    unfold textL
    rw [if_pos h, splitL_joinP, splitL_sign 64 _ _ (by decide)]
    have := splitL_escL 64 (.inr rfl) R.data.toList [] []
    rw [List.append_nil, List.nil_append] at this
    rw [this]
    simp [splitL]
  have hm : (splitL 47 [] (joinP L)).map (fun x => strOf (plainL x)) = L := by
    cases L with
    | nil => exact absurd hp.2.2.1 (by simp)
    | cons s L =>
      rw [splitL_parts, List.map_cons, List.map_map, plainL_escL, strOf_of]
      congr 1
      conv => rhs; rw [← List.map_id L]
      apply List.map_congr_left
      intro t _
      show strOf (plainL (escL t.data.toList)) = t
      rw [plainL_escL, strOf_of]
  unfold parseL
  rw [hs]
  simp only [hm, plainL_escL, strOf_of, h, decide_true, Bool.true_and, if_true]
/-- A string has a name exactly if it is its text. -/
theorem parseL_iff (l : List UInt8) (n : Nm) : parseL l = some n ↔ isN n = true ∧ textL n = l := by
  constructor
  · intro h
    unfold parseL at h
    split at h
    · split at h
      · rename_i hc
        simp only [Bool.and_eq_true, decide_eq_true_eq] at hc
        injection h with h
        subst h
        exact hc
      · cases h
    · cases h
  · rintro ⟨h, rfl⟩
    exact parseL_textL n h

end Go.Proofs.Ytnejidaplbonoaa
