/-
  What the laws of package field say in plain mathematics: sums of four products, products in another order, powers. No function of the program is named here.
-/
import Derived.Test.YtnfgmgkdkfeekaaPm2
namespace Go.Proofs.Ytnfgmgkdkfeekaa
open Go.RowKit
set_option linter.unusedVariables false

/-- The sum of the four products of bytes with the same index. -/
def gdot (a b : Nat → UInt8) : UInt8 := ((gf (a 0) (b 0) ^^^ gf (a 1) (b 1)) ^^^ gf (a 2) (b 2)) ^^^ gf (a 3) (b 3)
theorem gdot_comm (a b : Nat → UInt8) : gdot b a = gdot a b := by
  unfold gdot
  rw [gf_comm (b 0), gf_comm (b 1), gf_comm (b 2), gf_comm (b 3)]
/-- The first products of a sum of four. -/
def gdots (a b : Nat → UInt8) : Nat → UInt8
  | 0 => 0
  | k + 1 => gdots a b k ^^^ gf (a k) (b k)
theorem gdots_four (a b : Nat → UInt8) : gdots a b 4 = gdot a b := by
  show (((0 ^^^ _) ^^^ _) ^^^ _) ^^^ _ = _
  rw [UInt8.zero_xor]
  rfl
theorem gf_last (a b c : UInt8) : gf (gf c a) b = gf (gf a b) c := by
  rw [gf_comm (gf a b) c, gf_assoc]
def arr4 (x0 x1 x2 x3 : UInt8) : Nat → UInt8 := fun j => if j = 0 then x0 else if j = 1 then x1 else if j = 2 then x2 else x3
theorem arr4_eq (x0 x1 x2 x3 : UInt8) : bA 4 (arr4 x0 x1 x2 x3) = #[.int .u8 (x0.toNat : Int), .int .u8 (x1.toNat : Int), .int .u8 (x2.toNat : Int), .int .u8 (x3.toNat : Int)] := rfl
theorem gpowZ_mod (a : UInt8) (h : a ≠ 0) (z : Int) : gpowZ a z = gpow a (z % 255).toNat := by
  have h1 : ∀ k : Nat, gpowZ a (255 * (k : Int)) = 1 := by
    intro k
    unfold gpowZ
    rw [if_neg (by omega)]
    have e : (255 * (k : Int)).toNat = 255 * k := by omega
    rw [e, ← gpow_pow, gpow_255 a h, gpow_one]
  have h2 : ∀ k : Int, gpowZ a (255 * k) = 1 := by
    intro k
    rcases Int.le_total 0 k with hk | hk
    · obtain ⟨n, rfl⟩ := Int.eq_ofNat_of_zero_le hk
      exact h1 n
    · obtain ⟨n, hn⟩ := Int.eq_ofNat_of_zero_le (show 0 ≤ -k by omega)
      have e := gpowZ_add a (255 * k) (255 * (n : Int)) h
      rw [h1 n, show 255 * k + 255 * (n : Int) = 0 by omega, gf_one] at e
      rw [e]
      rfl
  have e := gpowZ_add a (z % 255) (255 * (z / 255)) h
  rw [h2, gf_one, Int.emod_add_mul_ediv] at e
  rw [← e]
  unfold gpowZ
  rw [if_neg (by omega)]
theorem fld_awake : gf 0x57 0x83 = 0xc1 ∧ ginv 0x53 = 0xca ∧ gsub 0x53 = 0xed ∧ gunsub 0xed = 0x53 := by
  have h := gf_awake
  have h2 : ginv 0x53 = 0xca := by rw [ginv_eq]; exact h.2.1
  have h3 : gsub 0x53 = 0xed := by unfold gsub; rw [ginv_eq]; exact h.2.2
  exact ⟨h.1, h2, h3, by rw [← h3, gunsub_gsub]⟩
theorem dot_awake : gdot (arr4 1 2 0 0) (arr4 5 1 9 9) = 7 := by
  unfold gdot arr4
  decide +kernel
/-- The exclusive or, not looked into. -/
def gxr (a b : UInt8) : UInt8 := a ^^^ b
theorem gx8 (a b : UInt8) : bits .xor .u8 (a.toNat : Int) (b.toNat : Int) = ((gxr a b).toNat : Int) := by
  show _ = ((a ^^^ b).toNat : Int)
  show IntKind.u8.wrap ((BitVec.ofInt 8 (a.toNat : Int) ^^^ BitVec.ofInt 8 (b.toNat : Int)).toNat : Int) = _
  have e : ∀ c : UInt8, BitVec.ofInt 8 (c.toNat : Int) = BitVec.ofNat 8 c.toNat := fun c => by
    apply BitVec.eq_of_toNat_eq
    rw [BitVec.toNat_ofInt, BitVec.toNat_ofNat]
    omega
  have ha := byte_lt a
  have hb := byte_lt b
  have hx := byte_lt (a ^^^ b)
  rw [e, e, BitVec.toNat_xor, BitVec.toNat_ofNat, BitVec.toNat_ofNat, Nat.mod_eq_of_lt ha, Nat.mod_eq_of_lt hb, UInt8.toNat_xor]
  rw [UInt8.toNat_xor] at hx
  show ((a.toNat ^^^ b.toNat : Nat) : Int) % 256 = _
  omega
theorem gxr_eq (a b : UInt8) : gxr a b = a ^^^ b := rfl
theorem gf_gxr (a b c : UInt8) : gf a (gxr b c) = gxr (gf a b) (gf a c) := gf_lin_r a b c
theorem gdots_gxr (a b : Nat → UInt8) (k : Nat) : gdots a b (k + 1) = gxr (gdots a b k) (gf (a k) (b k)) := rfl
end Go.Proofs.Ytnfgmgkdkfeekaa
