/-
  What the chapter of package mac says, as plain functions: the exclusive or of bytes, a padded key, the code, the derived string.
-/
import Derived.Test.YtgplkdnffbappaaDoorShaMisc
namespace Go.Proofs.YtgplkdnffbappaaDoor
open Go.RowKit
set_option linter.unusedVariables false

/-! ### Bytes -/
theorem wrap_u8_nat (n : Nat) (h : n < 256) : IntKind.u8.wrap (n : Int) = (n : Int) := by
  rw [IntKind.wrap_u8]
  omega
theorem ofInt_b8 (x : UInt8) : BitVec.ofInt 8 (x.toNat : Int) = x.toBitVec := by
  apply BitVec.eq_of_toNat_eq
  have := byte_lt x
  rw [BitVec.toNat_ofInt]
  show _ = x.toNat
  omega
/-- The exclusive or, the or of two bytes: words that the walk does not open. -/
def xr (a b : UInt8) : UInt8 := a ^^^ b
def orr (a b : UInt8) : UInt8 := a ||| b
theorem x8 (a b : UInt8) : bits .xor .u8 (a.toNat : Int) (b.toNat : Int) = ((xr a b).toNat : Int) := by
  show IntKind.u8.wrap ((BitVec.ofInt 8 (a.toNat : Int) ^^^ BitVec.ofInt 8 (b.toNat : Int)).toNat : Int) = _
  rw [ofInt_b8, ofInt_b8, wrap_u8_nat _ (BitVec.isLt _)]
  rfl
theorem o8 (a b : UInt8) : bits .or .u8 (a.toNat : Int) (b.toNat : Int) = ((orr a b).toNat : Int) := by
  show IntKind.u8.wrap ((BitVec.ofInt 8 (a.toNat : Int) ||| BitVec.ofInt 8 (b.toNat : Int)).toNat : Int) = _
  rw [ofInt_b8, ofInt_b8, wrap_u8_nat _ (BitVec.isLt _)]
  rfl
theorem xr_zero_iff (a b : UInt8) : xr a b = 0 ↔ a = b := by
  unfold xr
  constructor
  · intro h
    have : (a ^^^ b) ^^^ b = 0 ^^^ b := by rw [h]
    simpa [UInt8.xor_assoc] using this
  · rintro rfl
    simp
theorem orr_zero_iff (a b : UInt8) : orr a b = 0 ↔ a = 0 ∧ b = 0 := by
  unfold orr
  constructor
  · intro h
    have h1 := congrArg UInt8.toNat h
    rw [UInt8.toNat_or] at h1
    have h2 : a.toNat ||| b.toNat = 0 := h1
    have ha : a.toNat = 0 := by
      have := Nat.left_le_or (n := a.toNat) (m := b.toNat)
      omega
    have hb : b.toNat = 0 := by
      have := Nat.right_le_or (n := a.toNat) (m := b.toNat)
      omega
    exact ⟨UInt8.toNat_inj.1 ha, UInt8.toNat_inj.1 hb⟩
  · rintro ⟨rfl, rfl⟩
    rfl

/-! ### Codes -/
def xorB (m : UInt8) (l : List UInt8) : List UInt8 := l.map (fun x => xr x m)
theorem xorB_len (m : UInt8) (l : List UInt8) : (xorB m l).length = l.length := by simp [xorB]
/-- A key, or its digest if it has more than 64 bytes. -/
def keyS (k : List UInt8) : List UInt8 := if 64 < k.length then digest k else k
theorem keyS_len (k : List UInt8) : (keyS k).length ≤ 64 := by
  unfold keyS
  split
  · rw [dig_len]; omega
  · omega
/-- The key with zero bytes. -/
def padK (k : List UInt8) : List UInt8 := keyS k ++ List.replicate (64 - (keyS k).length) 0
theorem padK_len (k : List UInt8) : (padK k).length = 64 := by
  have := keyS_len k
  unfold padK
  rw [List.length_append, List.length_replicate]
  omega
def hmac (k m : List UInt8) : List UInt8 := digest (xorB 92 (padK k) ++ digest (xorB 54 (padK k) ++ m))
theorem hmac_len (k m : List UInt8) : (hmac k m).length = 32 := dig_len _
/-- A key of more than 64 bytes and its digest, a shorter one and that with a zero byte, have the same codes. -/
theorem hmac_zero (k m : List UInt8) (h : k.length < 64) : hmac (k ++ [0]) m = hmac k m := by
  have e : padK (k ++ [0]) = padK k := by
    unfold padK keyS
    rw [if_neg (by simp; omega), if_neg (by omega), List.length_append, List.length_singleton, List.append_assoc]
    congr 1
    rw [show 64 - k.length = (64 - (k.length + 1)) + 1 by omega, List.replicate_succ]
    rfl
  unfold hmac
  rw [e]

/-! ### Derived strings -/
def codes (k lab : List UInt8) : Nat → List UInt8
  | 0 => []
  | j + 1 => codes k lab j ++ hmac k (UInt8.ofNat (j + 1) :: lab)
theorem codes_len (k lab : List UInt8) (j : Nat) : (codes k lab j).length = 32 * j := by
  induction j with
  | zero => rfl
  | succ j ih => rw [codes, List.length_append, ih, hmac_len]; omega
theorem codes_take (k lab : List UInt8) (n i j : Nat) (hn : n ≤ 32 * i) (hij : i ≤ j) : (codes k lab j).take n = (codes k lab i).take n := by
  induction j with
  | zero => obtain rfl : i = 0 := by omega
            rfl
  | succ j ih =>
    by_cases e : i = j + 1
    · subst e; rfl
    · rw [codes, List.take_append_of_le_length (by rw [codes_len]; omega)]
      exact ih (by omega)
/-- The derived string of n bytes. -/
def derive (k lab : List UInt8) (n : Nat) : List UInt8 := (codes k lab ((n + 31) / 32)).take n
theorem derive_len (k lab : List UInt8) (n : Nat) : (derive k lab n).length = n := by
  unfold derive
  rw [List.length_take, codes_len]
  omega
theorem derive_of (k lab : List UInt8) (n j : Nat) (h : n ≤ 32 * j) : (codes k lab j).take n = derive k lab n := by
  unfold derive
  exact codes_take k lab n _ j (by omega) (by omega)
theorem derive_take (k lab : List UInt8) (n m : Nat) (h : m ≤ n) : (derive k lab n).take m = derive k lab m := by
  rw [← derive_of k lab n ((n + 31) / 32) (by omega), ← derive_of k lab m ((n + 31) / 32) (by omega), List.take_take, Nat.min_eq_left h]
/-- One round of Derive. -/
theorem derive_round (k lab : List UInt8) (n j : Nat) (h : 32 * j < n) : (codes k lab (j + 1)).take n = (codes k lab j).take n ++ (hmac k (UInt8.ofNat (j + 1) :: lab)).take (min 32 (n - 32 * j)) := by
  rw [codes, List.take_append, codes_len, List.take_of_length_le (l := codes k lab j) (by rw [codes_len]; omega)]
  congr 1
  by_cases h32 : 32 ≤ n - 32 * j
  · rw [Nat.min_eq_left h32, List.take_of_length_le (by rw [hmac_len]; omega), List.take_of_length_le (by rw [hmac_len]; omega)]
  · rw [Nat.min_eq_right (by omega)]
theorem derive_len_j (k lab : List UInt8) (n j : Nat) : ((codes k lab j).take n).length = min n (32 * j) := by
  rw [List.length_take, codes_len]
end Go.Proofs.YtgplkdnffbappaaDoor
