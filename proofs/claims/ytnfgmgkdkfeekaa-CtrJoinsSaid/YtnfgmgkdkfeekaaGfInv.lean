/-
  The field of 256 elements: powers, inverses, the substitution, as plain functions on bytes.
-/
import Derived.Test.YtnfgmgkdkfeekaaGfMath
namespace Go.Proofs.Ytnfgmgkdkfeekaa
set_option linter.unusedVariables false

theorem gf_swap (a b c d : UInt8) : gf (gf a b) (gf c d) = gf (gf a c) (gf b d) := by
  rw [gf_assoc, gf_assoc]
  congr 1
  rw [← gf_assoc, ← gf_assoc, gf_comm b c]
/-! ### Powers -/
def gpow (a : UInt8) : Nat → UInt8
  | 0 => 1
  | n + 1 => gf (gpow a n) a
theorem gpow_add (a : UInt8) (m n : Nat) : gpow a (m + n) = gf (gpow a m) (gpow a n) := by
  induction n with
  | zero => exact (gf_one _).symm
  | succ n ih => rw [← Nat.add_assoc, gpow, ih, gpow, gf_assoc]
theorem gpow_mul (a b : UInt8) (n : Nat) : gpow (gf a b) n = gf (gpow a n) (gpow b n) := by
  induction n with
  | zero => exact (gf_one _).symm
  | succ n ih => rw [gpow, gpow, gpow, ih, gf_swap]
theorem gpow_one (n : Nat) : gpow 1 n = 1 := by
  induction n with
  | zero => rfl
  | succ n ih => rw [gpow, ih, gf_one]
theorem gpow_pow (a : UInt8) (m n : Nat) : gpow (gpow a m) n = gpow a (m * n) := by
  induction n with
  | zero => rfl
  | succ n ih => rw [gpow, ih, Nat.mul_succ, gpow_add]
theorem gpow_zero_l (n : Nat) (h : 0 < n) : gpow 0 n = 0 := by
  cases n with
  | zero => omega
  | succ n => rw [gpow, gf_zero]
/-- Powers by squares. -/
def sq (a : UInt8) : UInt8 := gf a a
def inv8 (a : UInt8) : UInt8 :=
  gf (gf (gf (sq a) (sq (sq a))) (gf (sq (sq (sq a))) (sq (sq (sq (sq a)))))) (gf (gf (sq (sq (sq (sq (sq a))))) (sq (sq (sq (sq (sq (sq a))))))) (sq (sq (sq (sq (sq (sq (sq a))))))))
theorem sq_pow (a : UInt8) (n : Nat) : sq (gpow a n) = gpow a (n + n) := (gpow_add a n n).symm
theorem inv8_pow (a : UInt8) : inv8 a = gpow a 254 := by
  have h1 : gpow a 1 = a := gf_one_l a
  unfold inv8
  have h : ∀ n, sq (gpow a n) = gpow a (n + n) := sq_pow a
  conv => lhs; rw [← h1]
  simp only [h, ← gpow_add]
/-- The inverse of a byte; that of 0 is 0. -/
def ginv (a : UInt8) : UInt8 := gpow a 254
theorem ginv_eq (a : UInt8) : ginv a = inv8 a := (inv8_pow a).symm
theorem ginv_zero : ginv 0 = 0 := gpow_zero_l 254 (by omega)
theorem gf_ginv (a : UInt8) (h : a ≠ 0) : gf a (ginv a) = 1 := by
  rw [ginv_eq]
  exact of_all (P := fun a => a ≠ 0 → gf a (inv8 a) = 1) (by decide +kernel) a h
theorem gf_ginv_zero (a : UInt8) : gf a (ginv a) = if a = 0 then 0 else 1 := by
  split
  · rename_i h; subst h; exact gf_zero_l _
  · rename_i h; exact gf_ginv a h
theorem gpow_255 (a : UInt8) (h : a ≠ 0) : gpow a 255 = 1 := by
  show gf (gpow a 254) a = 1
  rw [gf_comm]
  exact gf_ginv a h
theorem gf_cancel (a b c : UInt8) (h : a ≠ 0) (e : gf a b = gf a c) : b = c := by
  have := congrArg (gf (ginv a)) e
  rw [← gf_assoc, ← gf_assoc, gf_comm (ginv a) a, gf_ginv a h, gf_one_l, gf_one_l] at this
  exact this
theorem ginv_of (a b : UInt8) (h : gf a b = 1) : b = ginv a := by
  have ha : a ≠ 0 := by
    rintro rfl
    rw [gf_zero_l] at h
    exact absurd h (by decide)
  exact gf_cancel a b (ginv a) ha (by rw [h, gf_ginv a ha])
theorem ginv_ne (a : UInt8) (h : a ≠ 0) : ginv a ≠ 0 := by
  intro e
  have := gf_ginv a h
  rw [e, gf_zero] at this
  exact absurd this (by decide)
theorem ginv_ginv (a : UInt8) : ginv (ginv a) = a := by
  by_cases h : a = 0
  · subst h; rw [ginv_zero, ginv_zero]
  · exact (ginv_of (ginv a) a (by rw [gf_comm]; exact gf_ginv a h)).symm
theorem ginv_gf (a b : UInt8) : ginv (gf a b) = gf (ginv a) (ginv b) := gpow_mul a b 254
theorem gf_ne (a b : UInt8) (ha : a ≠ 0) (hb : b ≠ 0) : gf a b ≠ 0 := by
  intro e
  exact hb (gf_cancel a b 0 ha (by rw [e, gf_zero]))
theorem gpow_ne (a : UInt8) (n : Nat) (h : a ≠ 0) : gpow a n ≠ 0 := by
  induction n with
  | zero => exact (by decide : (1 : UInt8) ≠ 0)
  | succ n ih => exact gf_ne _ _ ih h
theorem gpow_mod (a : UInt8) (n : Nat) (h : a ≠ 0) : gpow a n = gpow a (n % 255) := by
  conv => lhs; rw [← Nat.div_add_mod n 255]
  rw [gpow_add, ← gpow_pow, gpow_255 a h, gpow_one, gf_one_l]
/-- Powers with any number. -/
def gpowZ (a : UInt8) (z : Int) : UInt8 := if z < 0 then gpow (ginv a) (-z).toNat else gpow a z.toNat
theorem gpow_ginv (a : UInt8) (m n : Nat) (h : a ≠ 0) : gf (gpow a (m + n)) (gpow (ginv a) n) = gpow a m := by
  rw [gpow_add, gf_assoc, ← gpow_mul, gf_ginv a h, gpow_one, gf_one]
theorem gpowZ_add (a : UInt8) (y z : Int) (h : a ≠ 0) : gf (gpowZ a y) (gpowZ a z) = gpowZ a (y + z) := by
  unfold gpowZ
  have hi := ginv_ne a h
  have key : ∀ (b : UInt8) (p q : Nat), b ≠ 0 → gf (gpow b p) (gpow (ginv b) q) = if p < q then gpow (ginv b) (q - p) else gpow b (p - q) := by
    intro b p q hb
    split
    · rename_i hpq
      have e := gpow_ginv (ginv b) (q - p) p (ginv_ne b hb)
      rw [ginv_ginv, show q - p + p = q by omega] at e
      rw [gf_comm]
      exact e
    · have e := gpow_ginv b (p - q) q hb
      rw [show p - q + q = p by omega] at e
      exact e
  by_cases h1 : y < 0
  · by_cases h2 : z < 0
    · rw [if_pos h1, if_pos h2, if_pos (by omega), ← gpow_add]
      congr 1
      omega
    · rw [if_pos h1, if_neg h2, gf_comm, key a _ _ h]
      split
      · rw [if_pos (by omega)]; congr 1; omega
      · rw [if_neg (by omega)]; congr 1; omega
  · by_cases h2 : z < 0
    · rw [if_neg h1, if_pos h2, key a _ _ h]
      split
      · rw [if_pos (by omega)]; congr 1; omega
      · rw [if_neg (by omega)]; congr 1; omega
    · rw [if_neg h1, if_neg h2, if_neg (by omega), ← gpow_add]
      congr 1
      omega
theorem gpowZ_255 (a : UInt8) (h : a ≠ 0) : gpowZ a 255 = 1 := gpow_255 a h

/-! ### The substitution -/
def gxb (b : UInt8) (i : Nat) : Bool := gbit b i ^^ gbit b ((i + 4) % 8) ^^ gbit b ((i + 5) % 8) ^^ gbit b ((i + 6) % 8) ^^ gbit b ((i + 7) % 8) ^^ Nat.testBit 99 i
def byteOf (f : Nat → Bool) : UInt8 := ((gsel (f 0) 1 ^^^ gsel (f 1) 2) ^^^ (gsel (f 2) 4 ^^^ gsel (f 3) 8)) ^^^ ((gsel (f 4) 16 ^^^ gsel (f 5) 32) ^^^ (gsel (f 6) 64 ^^^ gsel (f 7) 128))
/-- The second part of a substitution, and what leads back from it. -/
def gaff (b : UInt8) : UInt8 := byteOf (gxb b)
def gunaff (s : UInt8) : UInt8 := byteOf fun i => gbit s ((i + 2) % 8) ^^ gbit s ((i + 5) % 8) ^^ gbit s ((i + 7) % 8) ^^ Nat.testBit 5 i
theorem gunaff_gaff (b : UInt8) : gunaff (gaff b) = b := of_all (P := fun b => gunaff (gaff b) = b) (by decide +kernel) b
theorem gaff_gunaff (b : UInt8) : gaff (gunaff b) = b := of_all (P := fun b => gaff (gunaff b) = b) (by decide +kernel) b
def gsub (a : UInt8) : UInt8 := gaff (ginv a)
def gunsub (s : UInt8) : UInt8 := ginv (gunaff s)
theorem gunsub_gsub (a : UInt8) : gunsub (gsub a) = a := by unfold gunsub gsub; rw [gunaff_gaff, ginv_ginv]
theorem gsub_gunsub (a : UInt8) : gsub (gunsub a) = a := by unfold gunsub gsub; rw [ginv_ginv, gaff_gunaff]
theorem gf_awake : gf 0x57 0x83 = 0xc1 ∧ inv8 0x53 = 0xca ∧ gaff (inv8 0x53) = 0xed := by decide +kernel
end Go.Proofs.Ytnfgmgkdkfeekaa
