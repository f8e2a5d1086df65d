/-
  The encryption of zero bytes under a key of zero bytes, round by round. No function of the program is named here.
-/
import Derived.Test.YtnfgmgkdkfeekaaPm30
import Derived.Test.YtnfgmgkdkfeekaaPm7
namespace Go.Proofs.Ytnfgmgkdkfeekaa
set_option linter.unusedVariables false

def zr : Nat → UInt8 := fun _ => 0
def zKeys : List UInt8 := [0, 0, 0, 0, 0, 0, 0, 0, 0, 0, 0, 0, 0, 0, 0, 0, 98, 99, 99, 99, 98, 99, 99, 99, 98, 99, 99, 99, 98, 99, 99, 99, 155, 152, 152, 201, 249, 251, 251, 170, 155, 152, 152, 201, 249, 251, 251, 170, 144, 151, 52, 80, 105, 108, 207, 250, 242, 244, 87, 51, 11, 15, 172, 153, 238, 6, 218, 123, 135, 106, 21, 129, 117, 158, 66, 178, 126, 145, 238, 43, 127, 46, 43, 136, 248, 68, 62, 9, 141, 218, 124, 187, 243, 75, 146, 144, 236, 97, 75, 133, 20, 37, 117, 140, 153, 255, 9, 55, 106, 180, 155, 167, 33, 117, 23, 135, 53, 80, 98, 11, 172, 175, 107, 60, 198, 27, 240, 155, 14, 249, 3, 51, 59, 169, 97, 56, 151, 6, 10, 4, 81, 29, 250, 159, 177, 212, 216, 226, 138, 125, 185, 218, 29, 123, 179, 222, 76, 102, 73, 65, 180, 239, 91, 203, 62, 146, 226, 17, 35, 233, 81, 207, 111, 143, 24, 142]
theorem zKeys_ok : ∀ n : Nat, n < 44 → ∀ r : Nat, r < 4 → lf zKeys (4 * n + r) = if n < 4 then zr (4 * n + r) else gxr (lf zKeys (4 * (n - 4) + r)) (if n % 4 = 0 then (if r = 0 then gxr (lf tbl (lf zKeys (4 * (n - 1) + 1)).toNat) (kp ((n - 1) / 4)) else lf tbl (lf zKeys (4 * (n - 1) + (r + 1) % 4)).toNat) else lf zKeys (4 * (n - 1) + r)) := by decide +kernel
theorem zKeys_eq (j : Nat) (hj : j < 176) : aKey zr j = lf zKeys j :=
  aKey_of zr (lf zKeys) (fun n hn r hr => by rw [kT_tbl]; exact zKeys_ok n hn r hr) j hj
theorem zRow (i : Nat) (hi : i < 11) : Eq16 (kRow (aKey zr) i) (kRow (lf zKeys) i) := kRow_cong zKeys_eq i hi
def zs0 : List UInt8 := [0, 0, 0, 0, 0, 0, 0, 0, 0, 0, 0, 0, 0, 0, 0, 0]
def zs1 : List UInt8 := [1, 0, 0, 0, 1, 0, 0, 0, 1, 0, 0, 0, 1, 0, 0, 0]
def zs2 : List UInt8 := [198, 228, 228, 139, 164, 135, 135, 232, 198, 228, 228, 139, 164, 135, 135, 232]
def zs3 : List UInt8 := [40, 45, 243, 196, 106, 243, 134, 37, 74, 78, 144, 167, 8, 144, 229, 70]
def zs4 : List UInt8 := [171, 210, 205, 254, 55, 90, 181, 73, 80, 160, 175, 192, 117, 154, 106, 95]
def zs5 : List UInt8 := [212, 111, 79, 108, 85, 184, 150, 51, 126, 5, 187, 61, 121, 121, 222, 35]
def zs6 : List UInt8 := [4, 242, 202, 151, 7, 120, 40, 69, 226, 47, 1, 150, 73, 197, 215, 16]
def zs7 : List UInt8 := [183, 170, 228, 197, 29, 37, 45, 79, 108, 146, 15, 129, 148, 229, 129, 80]
def zs8 : List UInt8 := [35, 231, 140, 60, 19, 33, 99, 219, 170, 192, 198, 87, 46, 3, 203, 149]
def zs9 : List UInt8 := [127, 254, 14, 149, 81, 165, 102, 53, 14, 52, 124, 71, 41, 41, 236, 203]
def zs10 : List UInt8 := [102, 233, 75, 212, 239, 138, 44, 59, 136, 76, 250, 89, 202, 52, 43, 46]
theorem zS0 : Eq16 (aSt (aKey zr) zr 0) (lf zs0) :=
  Eq16.trans (aXor_cong (fun _ _ => rfl) (zRow 0 (by omega))) (show ∀ j : Nat, j < 16 → aXor zr (kRow (lf zKeys) 0) j = lf zs0 j by decide +kernel)
theorem zR1 : ∀ j : Nat, j < 16 → rndF false (lf tbl) (lf zs0) (kRow (lf zKeys) 1) j = lf zs1 j := by decide +kernel
theorem zS1 : Eq16 (aSt (aKey zr) zr 1) (lf zs1) :=
  Eq16.trans (aRnd_cong false zS0 (zRow 1 (by omega))) (by unfold aRnd; rw [rndF_tbl]; exact zR1)
theorem zR2 : ∀ j : Nat, j < 16 → rndF false (lf tbl) (lf zs1) (kRow (lf zKeys) 2) j = lf zs2 j := by decide +kernel
theorem zS2 : Eq16 (aSt (aKey zr) zr 2) (lf zs2) :=
  Eq16.trans (aRnd_cong false zS1 (zRow 2 (by omega))) (by unfold aRnd; rw [rndF_tbl]; exact zR2)
theorem zR3 : ∀ j : Nat, j < 16 → rndF false (lf tbl) (lf zs2) (kRow (lf zKeys) 3) j = lf zs3 j := by decide +kernel
theorem zS3 : Eq16 (aSt (aKey zr) zr 3) (lf zs3) :=
  Eq16.trans (aRnd_cong false zS2 (zRow 3 (by omega))) (by unfold aRnd; rw [rndF_tbl]; exact zR3)
theorem zR4 : ∀ j : Nat, j < 16 → rndF false (lf tbl) (lf zs3) (kRow (lf zKeys) 4) j = lf zs4 j := by decide +kernel
theorem zS4 : Eq16 (aSt (aKey zr) zr 4) (lf zs4) :=
  Eq16.trans (aRnd_cong false zS3 (zRow 4 (by omega))) (by unfold aRnd; rw [rndF_tbl]; exact zR4)
theorem zR5 : ∀ j : Nat, j < 16 → rndF false (lf tbl) (lf zs4) (kRow (lf zKeys) 5) j = lf zs5 j := by decide +kernel
theorem zS5 : Eq16 (aSt (aKey zr) zr 5) (lf zs5) :=
  Eq16.trans (aRnd_cong false zS4 (zRow 5 (by omega))) (by unfold aRnd; rw [rndF_tbl]; exact zR5)
theorem zR6 : ∀ j : Nat, j < 16 → rndF false (lf tbl) (lf zs5) (kRow (lf zKeys) 6) j = lf zs6 j := by decide +kernel
theorem zS6 : Eq16 (aSt (aKey zr) zr 6) (lf zs6) :=
  Eq16.trans (aRnd_cong false zS5 (zRow 6 (by omega))) (by unfold aRnd; rw [rndF_tbl]; exact zR6)
theorem zR7 : ∀ j : Nat, j < 16 → rndF false (lf tbl) (lf zs6) (kRow (lf zKeys) 7) j = lf zs7 j := by decide +kernel
theorem zS7 : Eq16 (aSt (aKey zr) zr 7) (lf zs7) :=
  Eq16.trans (aRnd_cong false zS6 (zRow 7 (by omega))) (by unfold aRnd; rw [rndF_tbl]; exact zR7)
theorem zR8 : ∀ j : Nat, j < 16 → rndF false (lf tbl) (lf zs7) (kRow (lf zKeys) 8) j = lf zs8 j := by decide +kernel
theorem zS8 : Eq16 (aSt (aKey zr) zr 8) (lf zs8) :=
  Eq16.trans (aRnd_cong false zS7 (zRow 8 (by omega))) (by unfold aRnd; rw [rndF_tbl]; exact zR8)
theorem zR9 : ∀ j : Nat, j < 16 → rndF false (lf tbl) (lf zs8) (kRow (lf zKeys) 9) j = lf zs9 j := by decide +kernel
theorem zS9 : Eq16 (aSt (aKey zr) zr 9) (lf zs9) :=
  Eq16.trans (aRnd_cong false zS8 (zRow 9 (by omega))) (by unfold aRnd; rw [rndF_tbl]; exact zR9)
theorem zR10 : ∀ j : Nat, j < 16 → rndF true (lf tbl) (lf zs9) (kRow (lf zKeys) 10) j = lf zs10 j := by decide +kernel
theorem zS10 : Eq16 (aSt (aKey zr) zr 10) (lf zs10) :=
  Eq16.trans (aRnd_cong true zS9 (zRow 10 (by omega))) (by unfold aRnd; rw [rndF_tbl]; exact zR10)
theorem z_blk : Eq16 (cBlk zr 0) zr := fun j hj => by
  unfold cBlk
  by_cases h : j < 8
  · rw [if_pos h]
  · rw [if_neg h, Nat.zero_div]
    rfl
theorem z_stream : sPart (cStr zr zr) 0 3 = [102, 233, 75] := by
  have h := Eq16.trans (aEnc_cong zr z_blk) (show Eq16 (aEnc zr zr) (lf zs10) from zS10)
  show [cStr zr zr (0 + 0), cStr zr zr (0 + 1), cStr zr zr (0 + 2)] = _
  have e : ∀ p : Nat, p < 16 → cStr zr zr (0 + p) = lf zs10 p := fun p hp => by
    show aEnc zr (cBlk zr ((0 + p) / 16)) ((0 + p) % 16) = _
    rw [show (0 + p) / 16 = 0 by omega, show (0 + p) % 16 = p by omega]
    exact h p hp
  rw [e 0 (by omega), e 1 (by omega), e 2 (by omega)]
  rfl
end Go.Proofs.Ytnfgmgkdkfeekaa
