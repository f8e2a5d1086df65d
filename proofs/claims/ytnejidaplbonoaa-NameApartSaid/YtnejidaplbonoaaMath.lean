/-
  Numbers of bytes, the highest one first: plain functions and their laws.
-/
import Derived.Test.YtnejidaplbonoaaRead
namespace Go.Proofs.Ytnejidaplbonoaa
open Go.RowKit
set_option linter.unusedVariables false

/-- The number x (its lowest k bytes) in k bytes. -/
def beBytes : Nat → Nat → List UInt8
  | 0, _ => []
  | k + 1, x => beBytes k (x / 256) ++ [UInt8.ofNat (x % 256)]
theorem beBytes_len (k : Nat) : ∀ x, (beBytes k x).length = k := by
  induction k with
  | zero => intro x; rfl
  | succ k ih => intro x; simp [beBytes, ih]
theorem beNum_beBytes (k : Nat) : ∀ x, beNum (beBytes k x) = x % 256 ^ k := by
  induction k with
  | zero => intro x; simp [beBytes, beNum, Nat.mod_one]
  | succ k ih =>
    intro x
    rw [beBytes, beNum_snoc, ih, ofNat_toNat, Nat.pow_succ, Nat.mul_comm (256 ^ k) 256, Nat.mod_mul]
    omega
theorem beBytes_beNum (l : List UInt8) : beBytes l.length (beNum l) = l := by
  obtain ⟨r, rfl⟩ : ∃ r : List UInt8, l = r.reverse := ⟨l.reverse, by simp⟩
  induction r with
  | nil => rfl
  | cons b r ih =>
    have hb := byte_lt b
    have h1 : (beNum r.reverse * 256 + b.toNat) / 256 = beNum r.reverse := by omega
    have h2 : (beNum r.reverse * 256 + b.toNat) % 256 = b.toNat := by omega
    rw [List.reverse_cons, beNum_snoc, List.length_append, List.length_singleton, beBytes, h1, h2, ih]
    simp
theorem beBytes_cons (k : Nat) : ∀ x, beBytes (k + 1) x = UInt8.ofNat (x / 256 ^ k % 256) :: beBytes k x := by
  induction k with
  | zero => intro x; simp [beBytes]
  | succ k ih =>
    intro x
    rw [beBytes, ih, Nat.div_div_eq_div_mul, ← Nat.pow_add_one']
    rfl
/-- What is in the block after j rounds: the last j bytes are there. -/
def putRow (k j x : Nat) : List UInt8 := List.replicate (k - j) 0 ++ beBytes j x
theorem putRow_step (k j x : Nat) (h : j < k) : (putRow k j x).set (k - 1 - j) (UInt8.ofNat (x / 256 ^ j % 256)) = putRow k (j + 1) x := by
  unfold putRow
  rw [beBytes_cons, List.set_append_left _ _ (by simp; omega)]
  have e : k - j = (k - 1 - j) + 1 := by omega
  have e2 : k - (j + 1) = k - 1 - j := by omega
  rw [e2, e, List.replicate_succ']
  rw [List.set_append_right _ _ (by simp)]
  simp
theorem putRow_get (k j x i : Nat) (h : i < k - j) : (putRow k j x)[i]? = some 0 := by
  unfold putRow
  rw [List.getElem?_append_left (by rw [List.length_replicate]; exact h), List.getElem?_replicate, if_pos h]
theorem fits_test (k x : Nat) (h : x < 256 ^ k) : ((x : Int) / 2 ^ (8 * k) != 0) = false := by
  have e : ((x : Int) / 2 ^ (8 * k)) = ((x / 256 ^ k : Nat) : Int) := by rw [← pow8]; norm_cast
  rw [e, Nat.div_eq_of_lt h]
  rfl
theorem fits_test_no (k x : Nat) (h : ¬ x < 256 ^ k) : ((x : Int) / 2 ^ (8 * k) != 0) = true := by
  have e : ((x : Int) / 2 ^ (8 * k)) = ((x / 256 ^ k : Nat) : Int) := by rw [← pow8]; norm_cast
  have hp : 0 < 256 ^ k := Nat.pow_pos (by omega)
  have h1 : 1 ≤ x / 256 ^ k := (Nat.le_div_iff_mul_le hp).2 (by omega)
  rw [e, bne_iff_ne]
  omega
end Go.Proofs.Ytnejidaplbonoaa
