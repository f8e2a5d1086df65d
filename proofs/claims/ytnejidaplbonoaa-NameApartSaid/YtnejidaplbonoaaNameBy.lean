/-
  Bytes of names lead back to them: plain mathematics.
-/
import Derived.Test.YtnejidaplbonoaaNameM
import Derived.Test.YtnejidaplbonoaaMath
namespace Go.Proofs.Ytnejidaplbonoaa
open Go.RowKit
set_option linter.unusedVariables false
set_option linter.unusedSimpArgs false

/-! ### Bytes -/
/-- A word with its length in front. -/
def lenL (s : ByteArray) : List UInt8 := UInt8.ofNat s.size :: s.data.toList
def bytesN (n : Nm) : List UInt8 := lenL n.1 ++ UInt8.ofNat n.2.length :: n.2.flatMap lenL
/-- What Bytes returns. -/
def bytesO (n : Nm) : List UInt8 := if isN n then bytesN n else []
/-- So many strings. -/
def rParts : Nat → RS → RS × List (List UInt8)
  | 0, s => (s, [])
  | k + 1, s => ((rParts k (rStr s 1).1).1, (rStr s 1).2 :: (rParts k (rStr s 1).1).2)
/-- What the reader is behind the bytes of a name, and the name, if there is one. -/
def rName (s : RS) : RS × Nm :=
  ((rParts (min (rNum (rStr s 1).1 1).2 9) (rNum (rStr s 1).1 1).1).1, (strOf (rStr s 1).2, (rParts (min (rNum (rStr s 1).1 1).2 9) (rNum (rStr s 1).1 1).1).2.map strOf))
def rNameB (s : RS) : Bool := !(rName s).1.1 && isN (rName s).2
theorem beNum_one (b : UInt8) : beNum [b] = b.toNat := by simp [beNum]
theorem rNum_one (b : UInt8) (r : List UInt8) : rNum (false, b :: r) 1 = ((false, r), b.toNat) := by
  have e : rTake (false, b :: r) 1 = ((false, r), [b]) := by
    unfold rTake
    rw [if_pos ⟨rfl, by omega, by rw [List.length_cons]; omega⟩]
    rfl
  unfold rNum
  rw [if_pos (by omega), e, beNum_one]
theorem rStr_lenL (s : ByteArray) (r : List UInt8) (h : s.size ≤ 255) : rStr (false, lenL s ++ r) 1 = ((false, r), s.data.toList) := by
  have hb : (UInt8.ofNat s.size).toNat = s.size := by rw [UInt8.toNat_ofNat']; omega
  have hsz : s.data.toList.length = s.size := by simp
  unfold rStr lenL
  rw [List.cons_append, rNum_one, if_pos ⟨rfl, by rw [hb, List.length_append]; omega⟩]
  show rTake (false, s.data.toList ++ r) (((UInt8.ofNat s.size).toNat : Nat) : Int) = _
  rw [hb]
  unfold rTake
  rw [if_pos ⟨rfl, by omega, by rw [List.length_append]; omega⟩, show (s.size : Int).toNat = s.size by omega, ← hsz, List.drop_left' rfl, List.take_left' rfl]
theorem rParts_lenL (L : List ByteArray) (r : List UInt8) (h : ∀ s ∈ L, s.size ≤ 255) : rParts L.length (false, L.flatMap lenL ++ r) = ((false, r), L.map fun s => s.data.toList) := by
  induction L with
  | nil => rfl
  | cons s L ih =>
    rw [List.flatMap_cons, List.append_assoc, List.length_cons, rParts, rStr_lenL s _ (h s List.mem_cons_self), ih (fun t ht => h t (List.mem_cons_of_mem _ ht))]
    rfl
/-- The bytes of a name lead back to it. -/
theorem rName_bytesN (n : Nm) (r : List UInt8) (h : isN n = true) : rName (false, bytesN n ++ r) = ((false, r), n) := by
  obtain ⟨R, L⟩ := n
  obtain ⟨h1, h2, h3, h4⟩ := isN_parts h
  have hL : ∀ s ∈ L, s.size ≤ 255 := fun s hs => by have := isW_size (h1 s hs); omega
  have hR := isW_size h2
  have e1 : rStr (false, bytesN (R, L) ++ r) 1 = ((false, UInt8.ofNat L.length :: (L.flatMap lenL ++ r)), R.data.toList) := by
    unfold bytesN
    rw [List.append_assoc, rStr_lenL R _ (by omega), List.cons_append]
  have hb : (UInt8.ofNat L.length).toNat = L.length := by rw [UInt8.toNat_ofNat']; omega
  have e2 : rParts (min L.length 9) (false, L.flatMap lenL ++ r) = ((false, r), L.map fun s => s.data.toList) := by
    rw [show min L.length 9 = L.length by omega]
    exact rParts_lenL L r hL
  unfold rName
  rw [e1, rNum_one, hb, e2]
  simp only [strOf_of, List.map_map]
  congr 2
  conv => rhs; rw [← List.map_id L]
  apply List.map_congr_left
  intro t _
  rfl
theorem bytesO_len (n : Nm) : (bytesO n).length ≤ 10000 := by
  unfold bytesO
  split
  · rename_i h
    obtain ⟨h1, h2, h3, h4⟩ := isN_parts (R := n.1) (L := n.2) h
    have hk : ∀ L : List ByteArray, (∀ s ∈ L, isW s = true) → (L.flatMap lenL).length ≤ 101 * L.length := by
      intro L
      induction L with
      | nil => intro _; simp
      | cons s L ih =>
        intro h
        have e1 := ih fun t ht => h t (List.mem_cons_of_mem _ ht)
        have e2 := (isW_size (h s List.mem_cons_self)).2
        have e3 : (lenL s).length = s.size + 1 := by unfold lenL; simp
        rw [List.flatMap_cons, List.length_append, List.length_cons]
        omega
    have h5 := hk n.2 h1
    have h6 := (isW_size h2).2
    have h7 : (lenL n.1).length = n.1.size + 1 := by unfold lenL; simp
    unfold bytesN
    rw [List.length_append, List.length_cons]
    omega
  · simp
theorem bytesN_inj {a b : Nm} (ha : isN a = true) (hb : isN b = true) (h : bytesN a = bytesN b) : a = b := by
  have e1 := rName_bytesN a [] ha
  have e2 := rName_bytesN b [] hb
  rw [h, e2] at e1
  exact (congrArg Prod.snd e1).symm
/-- The bytes of one name are no beginning of those of another one. -/
theorem bytesN_apart {a b : Nm} (ha : isN a = true) (hb : isN b = true) (m : Nat) (h : (bytesN a).take m = (bytesN b).take m) (hm : m = min (bytesN a).length (bytesN b).length) : a = b := by
  have key : ∀ {a b : Nm}, isN a = true → isN b = true → bytesN a = (bytesN b).take (bytesN a).length → a = b := by
    intro a b ha hb h
    have e : bytesN b = bytesN a ++ (bytesN b).drop (bytesN a).length := by
      conv => lhs; rw [← List.take_append_drop (bytesN a).length (bytesN b), ← h]
    have e1 := rName_bytesN a ((bytesN b).drop (bytesN a).length) ha
    have e2 := rName_bytesN b [] hb
    rw [← e] at e1
    rw [List.append_nil, e1] at e2
    exact congrArg Prod.snd e2
  rcases Nat.le_total (bytesN a).length (bytesN b).length with hl | hl
  · rw [hm, show min (bytesN a).length (bytesN b).length = (bytesN a).length by omega, List.take_length] at h
    exact key ha hb h
  · rw [hm, show min (bytesN a).length (bytesN b).length = (bytesN b).length by omega, List.take_length] at h
    exact (key hb ha h.symm).symm
end Go.Proofs.Ytnejidaplbonoaa
