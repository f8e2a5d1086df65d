/-
  What Parse of package name computes, word by word, is the name with the text: plain mathematics.
-/
import Derived.Test.YtnejidaplbonoaaNcCut
import Derived.Test.YtnejidaplbonoaaNameL
namespace Go.Proofs.Ytnejidaplbonoaa
open Go.RowKit
set_option linter.unusedVariables false
set_option linter.unusedSimpArgs false

theorem isM_nine {b : UInt8} (h : isM b = true) : b = 47 ∨ b = 64 ∨ b = 92 := by
  unfold isM at h
  simp only [Bool.or_eq_true, beq_iff_eq] at h
  rcases h with (h | h) | h
  · exact .inl h
  · exact .inr (.inl h)
  · exact .inr (.inr h)
/-- A word that is cut off leads back to the text. -/
theorem wcut_back : ∀ (n : Nat) (l P : List UInt8), l.length ≤ n → ∃ O, (wcut P l).1 = P ++ O ∧ (((wcut P l).2.1 = 0 ∧ l = escL O ∧ (wcut P l).2.2 = []) ∨ (isM (wcut P l).2.1 = true ∧ l = escL O ++ (wcut P l).2.1 :: (wcut P l).2.2)) := by
  intro n
  induction n using Nat.strongRecOn with
  | _ n ih =>
    intro l P hl
    match l, hl with
    | [], _ => exact ⟨[], by simp [wcut], .inl ⟨by simp [wcut], rfl, by simp [wcut]⟩⟩
    | b :: r, hl =>
      rw [List.length_cons] at hl
      cases hM : isM b with
      | false =>
        obtain ⟨O, h1, h2⟩ := ih (n - 1) (by omega) r (P ++ [b]) (by omega)
        rw [wcut_word _ _ _ hM]
        refine ⟨b :: O, by rw [h1]; simp, ?_⟩
        have e : escL (b :: O) = b :: escL O := by rw [escL_cons, if_neg (by rw [hM]; simp)]; rfl
        rcases h2 with ⟨h2, h3, h4⟩ | ⟨h2, h3⟩
        · exact .inl ⟨h2, by rw [e, ← h3], h4⟩
        · exact .inr ⟨h2, by rw [e, List.cons_append, ← h3]⟩
      | true =>
        by_cases hc : b = 92 ∧ ∃ c r', r = c :: r' ∧ isM c = true
        · obtain ⟨rfl, c, r', rfl, hc⟩ := hc
          rw [List.length_cons] at hl
          obtain ⟨O, h1, h2⟩ := ih (n - 2) (by omega) r' (P ++ [c]) (by omega)
          rw [wcut_mark _ _ _ hc]
          refine ⟨c :: O, by rw [h1]; simp, ?_⟩
          have e : escL (c :: O) = 92 :: c :: escL O := by rw [escL_cons, if_pos hc]; rfl
          rcases h2 with ⟨h2, h3, h4⟩ | ⟨h2, h3⟩
          · exact .inl ⟨h2, by rw [e, ← h3], h4⟩
          · exact .inr ⟨h2, by rw [e, List.cons_append, List.cons_append, ← h3]⟩
        · have hw := wcut_end P b r hM (by
            by_cases h92 : b = 92
            · match r with
              | [] => exact .inr (.inl rfl)
              | c :: r' =>
                refine .inr (.inr ⟨c, r', rfl, ?_⟩)
                cases h3 : isM c with
                | false => rfl
                | true => exact absurd ⟨h92, c, r', rfl, h3⟩ hc
            · exact .inl h92)
          rw [hw]
          exact ⟨[], by simp, .inr ⟨hM, rfl⟩⟩
/-- The text of a word is cut off whole. -/
theorem wcut_esc (O : List UInt8) : ∀ (P r : List UInt8), wcut P (escL O ++ r) = wcut (P ++ O) r := by
  induction O with
  | nil => intro P r; simp [escL]
  | cons b O ih =>
    intro P r
    rw [escL_cons]
    cases hM : isM b with
    | true =>
      rw [if_pos rfl]
      show wcut P (92 :: b :: (escL O ++ r)) = _
      rw [wcut_mark _ _ _ hM, ih, List.append_assoc]
      rfl
    | false =>
      rw [if_neg (by simp)]
      show wcut P (b :: (escL O ++ r)) = _
      rw [wcut_word _ _ _ hM, ih, List.append_assoc]
      rfl
theorem wcut_sign (O : List UInt8) (e : UInt8) (r : List UInt8) (h : e = 47 ∨ e = 64) : wcut [] (escL O ++ e :: r) = (O, e, r) := by
  rw [wcut_esc, List.nil_append]
  exact wcut_end _ _ _ (by rcases h with rfl | rfl <;> rfl) (.inl (by rcases h with rfl | rfl <;> decide))
theorem wcut_all (O : List UInt8) : wcut [] (escL O) = (O, 0, []) := by
  have h := wcut_esc O [] []
  rw [List.append_nil, List.nil_append] at h
  rw [h, wcut]
/-- Behind the at sign: the parts D were read, r is left. -/
def pFin (D : List (List UInt8)) (r : List UInt8) : Option Nm :=
  if (wcut [] r).2.1 = 0 ∧ isN (strOf (wcut [] r).1, D.map strOf) = true then some (strOf (wcut [] r).1, D.map strOf) else none
/-- What Parse computes: at most f parts more, the parts D were read, l is left. -/
def pGo : Nat → List (List UInt8) → List UInt8 → Option Nm
  | 0, _, _ => none
  | f + 1, D, l => if (wcut [] l).2.1 = 64 then pFin (D ++ [(wcut [] l).1]) (wcut [] l).2.2 else if (wcut [] l).2.1 = 47 ∧ f ≠ 0 then pGo f (D ++ [(wcut [] l).1]) (wcut [] l).2.2 else none
/-- Parts with a slash behind each. -/
def pfx (D : List (List UInt8)) : List UInt8 := D.flatMap fun x => escL x ++ [47]
theorem pfx_snoc (D : List (List UInt8)) (x : List UInt8) : pfx (D ++ [x]) = pfx D ++ escL x ++ [47] := by
  unfold pfx
  rw [List.flatMap_append, List.flatMap_cons, List.flatMap_nil, List.append_nil, List.append_assoc]
theorem joinP_pfx (D : List (List UInt8)) (x : List UInt8) : joinP ((D ++ [x]).map strOf) = pfx D ++ escL x := by
  induction D with
  | nil => simp [joinP, pfx, strOf_list]
  | cons d D ih =>
    have e : pfx (d :: D) = escL d ++ 47 :: pfx D := by unfold pfx; rw [List.flatMap_cons]; simp
    rw [e, List.cons_append, List.map_cons]
    have k : ∀ (a : ByteArray) (L : List ByteArray), L ≠ [] → joinP (a :: L) = escL a.data.toList ++ 47 :: joinP L := by
      intro a L hL
      cases L with
      | nil => exact absurd rfl hL
      | cons b L => simp [joinP]
    rw [k _ _ (by simp), ih, strOf_list]
    simp
theorem joinP_cons (a b : ByteArray) (L : List ByteArray) : joinP (a :: b :: L) = escL a.data.toList ++ 47 :: joinP (b :: L) := by simp [joinP]
theorem pGo_parse : ∀ (f : Nat) (D : List (List UInt8)) (l S : List UInt8), f + D.length = 8 → S = pfx D ++ l →
    (∀ n, isN n = true → textL n = S → ∃ L, L ≠ [] ∧ n.2 = D.map strOf ++ L ∧ l = joinP L ++ 64 :: escL n.1.data.toList) → pGo f D l = parseL S := by
  intro f
  induction f with
  | zero =>
    intro D l S hf hS hC
    show none = _
    cases h : parseL S with
    | none => rfl
    | some n =>
      exfalso
      obtain ⟨h1, h2⟩ := (parseL_iff S n).1 h
      obtain ⟨L, hL, h3, _⟩ := hC n h1 h2
      have h8 := (isN_parts (R := n.1) (L := n.2) h1).2.2.2
      have hp := List.length_pos_iff.2 hL
      rw [h3, List.length_append, List.length_map] at h8
      omega
  | succ f ih =>
    intro D l S hf hS hC
    obtain ⟨O, hO, hl⟩ := wcut_back l.length l [] (Nat.le_refl _)
    rw [List.nil_append] at hO
    obtain ⟨⟨O', e, r⟩, hw⟩ : ∃ p, wcut [] l = p := ⟨_, rfl⟩
    rw [hw] at hO hl
    simp only at hO hl
    subst hO
    unfold pGo
    rw [hw]
    simp only
    -- what a name with this text would be
    have hX : ∀ n, isN n = true → textL n = S → (e = 64 ∧ n.2 = (D ++ [O']).map strOf ∧ r = escL n.1.data.toList) ∨ (e = 47 ∧ ∃ L, L ≠ [] ∧ n.2 = (D ++ [O']).map strOf ++ L ∧ r = joinP L ++ 64 :: escL n.1.data.toList) := by
      intro n h1 h2
      obtain ⟨L, hL, h3, h4⟩ := hC n h1 h2
      match L, hL with
      | [a], _ =>
        have e2 : l = escL a.data.toList ++ 64 :: escL n.1.data.toList := by rw [h4]; simp [joinP]
        have e3 := wcut_sign a.data.toList 64 (escL n.1.data.toList) (.inr rfl)
        rw [← e2, hw] at e3
        injection e3 with e4 e5
        injection e5 with e5 e6
        refine .inl ⟨e5, ?_, e6⟩
        rw [h3, e4, List.map_append, List.map_cons, strOf_of]
        rfl
      | a :: b :: L, _ =>
        have e2 : l = escL a.data.toList ++ 47 :: (joinP (b :: L) ++ 64 :: escL n.1.data.toList) := by rw [h4, joinP_cons]; simp
        have e3 := wcut_sign a.data.toList 47 (joinP (b :: L) ++ 64 :: escL n.1.data.toList) (.inl rfl)
        rw [← e2, hw] at e3
        injection e3 with e4 e5
        injection e5 with e5 e6
        refine .inr ⟨e5, b :: L, by simp, ?_, e6⟩
        rw [h3, e4, List.map_append, List.map_cons, strOf_of]
        simp
    by_cases h64 : e = 64
    · rw [if_pos h64]
      subst h64
      have hl2 : l = escL O' ++ 64 :: r := by
        rcases hl with ⟨h, _⟩ | ⟨_, h⟩
        · exact absurd h (by decide)
        · exact h
      obtain ⟨O2, hO2, hr⟩ := wcut_back r.length r [] (Nat.le_refl _)
      rw [List.nil_append] at hO2
      unfold pFin
      obtain ⟨⟨O2', e2, r2⟩, hw2⟩ : ∃ p, wcut [] r = p := ⟨_, rfl⟩
      rw [hw2] at hO2 hr ⊢
      simp only at hO2 hr ⊢
      subst hO2
      have hY : ∀ n, isN n = true → textL n = S → e2 = 0 ∧ n = (strOf O2', (D ++ [O']).map strOf) := by
        intro n h1 h2
        rcases hX n h1 h2 with ⟨_, h3, h4⟩ | ⟨h, _⟩
        · have e3 := wcut_all n.1.data.toList
          rw [← h4, hw2] at e3
          injection e3 with e4 e5
          injection e5 with e5 e6
          exact ⟨e5, by rw [e4, strOf_of, ← h3]⟩
        · exact absurd h (by decide)
      by_cases hc : e2 = 0 ∧ isN (strOf O2', (D ++ [O']).map strOf) = true
      · rw [if_pos hc]
        refine Eq.symm ((parseL_iff S _).2 ⟨hc.2, ?_⟩)
        have hr2 : r = escL O2' := by
          rcases hr with ⟨_, h, _⟩ | ⟨h, _⟩
          · exact h
          · rw [hc.1] at h
            exact absurd h (by decide)
        unfold textL
        rw [if_pos hc.2, joinP_pfx, hS, hl2, hr2, strOf_list]
        simp
      · rw [if_neg hc]
        cases h : parseL S with
        | none => rfl
        | some n =>
          exfalso
          obtain ⟨h1, h2⟩ := (parseL_iff S n).1 h
          obtain ⟨h3, h4⟩ := hY n h1 h2
          exact hc ⟨h3, h4 ▸ h1⟩
    · rw [if_neg h64]
      by_cases hc : e = 47 ∧ f ≠ 0
      · rw [if_pos hc]
        obtain ⟨rfl, hf0⟩ := hc
        have hl2 : l = escL O' ++ 47 :: r := by
          rcases hl with ⟨h, _⟩ | ⟨_, h⟩
          · exact absurd h (by decide)
          · exact h
        refine ih (D ++ [O']) r S (by rw [List.length_append, List.length_cons, List.length_nil]; omega) (by rw [hS, hl2, pfx_snoc]; simp) fun n h1 h2 => ?_
        rcases hX n h1 h2 with ⟨h, _⟩ | ⟨_, L, h3, h4, h5⟩
        · exact absurd h (by decide)
        · exact ⟨L, h3, h4, h5⟩
      · rw [if_neg hc]
        cases h : parseL S with
        | none => rfl
        | some n =>
          exfalso
          obtain ⟨h1, h2⟩ := (parseL_iff S n).1 h
          rcases hX n h1 h2 with ⟨h3, _⟩ | ⟨h3, L, h4, h5, _⟩
          · exact h64 h3
          · have h8 := (isN_parts (R := n.1) (L := n.2) h1).2.2.2
            have hp := List.length_pos_iff.2 h4
            rw [h5, List.length_append, List.length_map, List.length_append, List.length_cons, List.length_nil] at h8
            exact hc ⟨h3, by omega⟩
theorem pGo_all (S : List UInt8) : pGo 8 [] S = parseL S := pGo_parse 8 [] S S rfl rfl fun n h1 h2 => by
  have hp := isN_parts (R := n.1) (L := n.2) h1
  refine ⟨n.2, fun e => by have := hp.2.2.1; rw [e] at this; simp at this, by simp, ?_⟩
  rw [← h2]
  show textL (n.1, n.2) = _
  unfold textL
  rw [if_pos h1]
end Go.Proofs.Ytnejidaplbonoaa
