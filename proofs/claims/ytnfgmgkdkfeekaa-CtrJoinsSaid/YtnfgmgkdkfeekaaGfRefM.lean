/-
  The reference's way to a product: the sum of shifted bytes, then the division by 283: it is the product of the field.
-/
import Derived.Test.YtnfgmgkdkfeekaaGfInv
namespace Go.Proofs.Ytnfgmgkdkfeekaa
set_option linter.unusedVariables false

def nsel (c : Bool) (x : Nat) : Nat := if c then x else 0
theorem nsel_xor (c d : Bool) (x : Nat) : nsel (c ^^ d) x = nsel c x ^^^ nsel d x := by
  cases c <;> cases d <;> simp [nsel]
theorem nsel_lin (c : Bool) (x y : Nat) : nsel c (x ^^^ y) = nsel c x ^^^ nsel c y := by
  cases c <;> simp [nsel]
theorem nxor4 (a b c d : Nat) : (a ^^^ b) ^^^ (c ^^^ d) = (a ^^^ c) ^^^ (b ^^^ d) := by
  rw [Nat.xor_assoc, Nat.xor_assoc]
  congr 1
  rw [← Nat.xor_assoc, ← Nat.xor_assoc, Nat.xor_comm b c]
/-- The first i terms of the sum. -/
def rP (a b : Nat) : Nat → Nat
  | 0 => 0
  | i + 1 => rP a b i ^^^ nsel (b.testBit i) (a <<< i)
/-- The remainder behind k steps of the division. -/
def rR (p : Nat) : Nat → Nat
  | 0 => p
  | k + 1 => rR p k ^^^ nsel ((rR p k).testBit (14 - k)) (283 <<< (6 - k))
theorem rP_lin_l (a c b i : Nat) : rP (a ^^^ c) b i = rP a b i ^^^ rP c b i := by
  induction i with
  | zero => simp [rP]
  | succ i ih => rw [rP, rP, rP, ih, Nat.shiftLeft_xor_distrib, nsel_lin, nxor4]
theorem rP_lin_r (a b c i : Nat) : rP a (b ^^^ c) i = rP a b i ^^^ rP a c i := by
  induction i with
  | zero => simp [rP]
  | succ i ih => rw [rP, rP, rP, ih, Nat.testBit_xor, nsel_xor, nxor4]
theorem rR_lin (p q k : Nat) : rR (p ^^^ q) k = rR p k ^^^ rR q k := by
  induction k with
  | zero => rfl
  | succ k ih => rw [rR, rR, rR, ih, Nat.testBit_xor, nsel_xor, nxor4]
theorem nsel_lt (c : Bool) (x n : Nat) (h : x < 2 ^ n) : nsel c x < 2 ^ n := by
  cases c
  · exact Nat.two_pow_pos n
  · exact h
theorem rP_lt (a b i : Nat) (ha : a < 256) (hi : i ≤ 8) : rP a b i < 2 ^ 15 := by
  induction i with
  | zero => exact Nat.two_pow_pos 15
  | succ i ih =>
    rw [rP]
    refine Nat.xor_lt_two_pow (ih (by omega)) (nsel_lt _ _ _ ?_)
    rw [Nat.shiftLeft_eq]
    have : 2 ^ i ≤ 2 ^ 7 := Nat.pow_le_pow_right (by omega) (by omega)
    calc a * 2 ^ i ≤ 255 * 2 ^ 7 := Nat.mul_le_mul (by omega) this
      _ < 2 ^ 15 := by decide
theorem rR_lt (p k : Nat) (hp : p < 2 ^ 15) (hk : k ≤ 7) : rR p k < 2 ^ 15 := by
  induction k with
  | zero => exact hp
  | succ k ih =>
    rw [rR]
    refine Nat.xor_lt_two_pow (ih (by omega)) (nsel_lt _ _ _ ?_)
    rw [Nat.shiftLeft_eq]
    have : 2 ^ (6 - k) ≤ 2 ^ 6 := Nat.pow_le_pow_right (by omega) (by omega)
    calc 283 * 2 ^ (6 - k) ≤ 283 * 2 ^ 6 := Nat.mul_le_mul (by omega) this
      _ < 2 ^ 15 := by decide
/-- The reference's product. -/
def rmul (a b : UInt8) : UInt8 := UInt8.ofNat (rR (rP a.toNat b.toNat 8) 7)
theorem ofNat_xor8 (x y : Nat) : UInt8.ofNat (x ^^^ y) = UInt8.ofNat x ^^^ UInt8.ofNat y := by
  apply UInt8.toNat_inj.1
  rw [UInt8.toNat_xor, UInt8.toNat_ofNat', UInt8.toNat_ofNat', UInt8.toNat_ofNat']
  exact Nat.xor_mod_two_pow
theorem rmul_eq (a b : UInt8) : rmul a b = gf a b := by
  have l : ∀ b, Lin fun a => rmul a b := fun b x y => by
    show UInt8.ofNat (rR (rP (x ^^^ y).toNat b.toNat 8) 7) = _
    rw [UInt8.toNat_xor, rP_lin_l, rR_lin, ofNat_xor8]
    rfl
  have r : ∀ a, Lin fun b => rmul a b := fun a x y => by
    show UInt8.ofNat (rR (rP a.toNat (x ^^^ y).toNat 8) 7) = _
    rw [UInt8.toNat_xor, rP_lin_r, rR_lin, ofNat_xor8]
    rfl
  refine lin_ext (f := fun a => rmul a b) (g := fun a => gf a b) (l b) (lin_l b) ?_ a
  refine ⟨?_, ?_, ?_, ?_, ?_, ?_, ?_, ?_⟩ <;> exact lin_ext (f := fun b => rmul _ b) (r _) (lin_r _) (by decide +kernel) b
/-- The reference's inverse: the first byte whose product is 1. -/
theorem first_inv (a : UInt8) (h : a ≠ 0) (b : UInt8) (hb : gf a b = 1) : b = ginv a := ginv_of a b hb

/-! ### Bits of 64-bit integers -/
open Go.RowKit in
theorem ofInt_64 (x : Nat) : BitVec.ofInt 64 (x : Int) = BitVec.ofNat 64 x := by
  apply BitVec.eq_of_toNat_eq
  rw [BitVec.toNat_ofInt, BitVec.toNat_ofNat]
  omega
theorem wrap_64 (x : Nat) (h : x < 2 ^ 63) : IntKind.i64.wrap (x : Int) = (x : Int) := by
  rw [IntKind.wrap_i64]
  omega
theorem x64 (x y : Nat) (hx : x < 2 ^ 62) (hy : y < 2 ^ 62) : bits .xor .i64 (x : Int) (y : Int) = ((x ^^^ y : Nat) : Int) := by
  show IntKind.i64.wrap ((BitVec.ofInt 64 (x : Int) ^^^ BitVec.ofInt 64 (y : Int)).toNat : Int) = _
  have hxy := Nat.xor_lt_two_pow hx hy
  rw [ofInt_64, ofInt_64, BitVec.toNat_xor, BitVec.toNat_ofNat, BitVec.toNat_ofNat, Nat.mod_eq_of_lt (by omega), Nat.mod_eq_of_lt (by omega), wrap_64 _ (by omega)]
theorem a64 (x y : Nat) (hx : x < 2 ^ 62) (hy : y < 2 ^ 62) : bits .and .i64 (x : Int) (y : Int) = ((x &&& y : Nat) : Int) := by
  show IntKind.i64.wrap ((BitVec.ofInt 64 (x : Int) &&& BitVec.ofInt 64 (y : Int)).toNat : Int) = _
  have hxy := Nat.and_lt_two_pow x hy
  rw [ofInt_64, ofInt_64, BitVec.toNat_and, BitVec.toNat_ofNat, BitVec.toNat_ofNat, Nat.mod_eq_of_lt (by omega), Nat.mod_eq_of_lt (by omega), wrap_64 _ (by omega)]
/-- A bit, as the walk asks for it. -/
theorem bit64 (x i : Nat) (hx : x < 2 ^ 62) : bits .and .i64 ((x : Int) / (2 : Int) ^ i) 1 = if x.testBit i then 1 else 0 := by
  have e : (x : Int) / (2 : Int) ^ i = ((x / 2 ^ i : Nat) : Int) := by
    rw [Int.natCast_ediv, Int.natCast_pow]
    rfl
  have h1 : x / 2 ^ i < 2 ^ 62 := Nat.lt_of_le_of_lt (Nat.div_le_self _ _) hx
  rw [e, show (1 : Int) = ((1 : Nat) : Int) from rfl, a64 _ 1 h1 (by omega), Nat.and_one_is_mod]
  have t : x.testBit i = decide (x / 2 ^ i % 2 = 1) := Nat.testBit_eq_decide_div_mod_eq
  rw [t]
  by_cases h : x / 2 ^ i % 2 = 1
  · simp [h]
  · have h0 : x / 2 ^ i % 2 = 0 := by omega
    simp [h0]
end Go.Proofs.Ytnfgmgkdkfeekaa
