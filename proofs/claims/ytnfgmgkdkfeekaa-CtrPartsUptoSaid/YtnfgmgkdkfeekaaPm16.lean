/-
  Rotations of a byte, as the library finds them, by a contract; sums of five of them and of three, as plain functions.
-/
import Derived.Test.YtnfgmgkdkfeekaaPm2
import Derived.Test.YtnfgmgkdkfeekaaPm4
namespace Go.Proofs.Ytnfgmgkdkfeekaa
open Go.RowKit
set_option linter.unusedVariables false
set_option linter.unusedSimpArgs false

/-- A byte rotated to the left by k bits. -/
def rotB (a : UInt8) (k : Nat) : UInt8 := UInt8.ofNat (a.toNat * 2 ^ k % 256 ||| a.toNat / 2 ^ (8 - k))
theorem rotB_num : ∀ k : Nat, k < 8 → ∀ n : Nat, n < 256 → bits .or .u8 ((n : Int) * (2 : Int) ^ k % (256 : Int)) ((n : Int) / (2 : Int) ^ (8 - k)) = ((rotB (UInt8.ofNat n) k).toNat : Int) := by decide +kernel
theorem rotB_bits (a : UInt8) (k : Nat) (hk : k < 8) : bits .or .u8 ((a.toNat : Int) * (2 : Int) ^ k % (256 : Int)) ((a.toNat : Int) / (2 : Int) ^ (8 - k)) = ((rotB a k).toNat : Int) := by
  have h := rotB_num k hk a.toNat (byte_lt a)
  rwa [UInt8.ofNat_toNat] at h
theorem and_seven : ∀ k : Nat, k < 8 → bits .and .u64 (k : Int) 7 = (k : Int) := by decide +kernel
set_option maxHeartbeats 1000000 in
theorem frot8_any (w : World) (a : UInt8) (k : Nat) (hk : k < 8) : Calls Try.prog 50 #[.int .u8 (a.toNat : Int), .int .i64 (k : Int)] w fun e w' => e = .returned (.int .u8 ((rotB a k).toNat : Int)) ∧ w = w' := by
  have ha := byte_lt a
  have hk' : (k : Int) % 18446744073709551616 = k := by omega
  have hk2 := and_seven k hk
  have HR := kept (rotB_bits a k hk)
  go_enter Try.func50, Try.ntmps50
  go_wp2
  go_ret
  exact ⟨congrArg (fun z => Ending.returned (.int .u8 z)) HR.out, rfl⟩
/-- The sum of the first rotations of a list. -/
def rotS (a : UInt8) (L : List Nat) : UInt8 := L.foldl (fun s k => gxr s (rotB a k)) 0
theorem rotS_sub (a : UInt8) : gxr (rotS a [0, 1, 2, 3, 4]) 99 = gaff a := of_all (P := fun a => gxr (rotS a [0, 1, 2, 3, 4]) 99 = gaff a) (by decide +kernel) a
theorem rotS_unsub (a : UInt8) : rotS (gxr a 99) [1, 3, 6] = gunaff a := of_all (P := fun a => rotS (gxr a 99) [1, 3, 6] = gunaff a) (by decide +kernel) a
theorem rotS_take (a : UInt8) (L : List Nat) (n : Nat) (h : n < L.length) : rotS a (L.take (n + 1)) = gxr (rotS a (L.take n)) (rotB a L[n]) := by
  unfold rotS
  rw [List.take_succ_eq_append_getElem h, List.foldl_append]
  rfl
end Go.Proofs.Ytnfgmgkdkfeekaa
