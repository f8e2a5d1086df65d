/-
  The numbers of the example of layer 7, round by round. No function of the program is named here.
-/
import Derived.Test.YtnfgmgkdkfeekaaPm5
namespace Go.Proofs.Ytnfgmgkdkfeekaa
set_option linter.unusedVariables false

/-- A list as a function. -/
def lf (l : List UInt8) : Nat → UInt8 := fun j => l.getD j 0
def tbl : List UInt8 := [99, 124, 119, 123, 242, 107, 111, 197, 48, 1, 103, 43, 254, 215, 171, 118, 202, 130, 201, 125, 250, 89, 71, 240, 173, 212, 162, 175, 156, 164, 114, 192, 183, 253, 147, 38, 54, 63, 247, 204, 52, 165, 229, 241, 113, 216, 49, 21, 4, 199, 35, 195, 24, 150, 5, 154, 7, 18, 128, 226, 235, 39, 178, 117, 9, 131, 44, 26, 27, 110, 90, 160, 82, 59, 214, 179, 41, 227, 47, 132, 83, 209, 0, 237, 32, 252, 177, 91, 106, 203, 190, 57, 74, 76, 88, 207, 208, 239, 170, 251, 67, 77, 51, 133, 69, 249, 2, 127, 80, 60, 159, 168, 81, 163, 64, 143, 146, 157, 56, 245, 188, 182, 218, 33, 16, 255, 243, 210, 205, 12, 19, 236, 95, 151, 68, 23, 196, 167, 126, 61, 100, 93, 25, 115, 96, 129, 79, 220, 34, 42, 144, 136, 70, 238, 184, 20, 222, 94, 11, 219, 224, 50, 58, 10, 73, 6, 36, 92, 194, 211, 172, 98, 145, 149, 228, 121, 231, 200, 55, 109, 141, 213, 78, 169, 108, 86, 244, 234, 101, 122, 174, 8, 186, 120, 37, 46, 28, 166, 180, 198, 232, 221, 116, 31, 75, 189, 139, 138, 112, 62, 181, 102, 72, 3, 246, 14, 97, 53, 87, 185, 134, 193, 29, 158, 225, 248, 152, 17, 105, 217, 142, 148, 155, 30, 135, 233, 206, 85, 40, 223, 140, 161, 137, 13, 191, 230, 66, 104, 65, 153, 45, 15, 176, 84, 187, 22]
theorem tbl_eq : ∀ n : Nat, n < 256 → gaff (inv8 (UInt8.ofNat n)) = lf tbl n := by decide +kernel
theorem sbx_tbl (a : UInt8) : sbx a.toNat = lf tbl a.toNat := by
  rw [← tbl_eq a.toNat (UInt8.toNat_lt a)]
  unfold sbx gsub
  rw [ginv_eq]
theorem rndF_tbl (last : Bool) (b key : Nat → UInt8) : rndF last sbx b key = rndF last (lf tbl) b key := by
  have e : rndS sbx b = rndS (lf tbl) b := by
    funext j
    exact sbx_tbl _
  unfold rndF
  rw [e]
theorem kT_tbl (s : Nat → UInt8) (n r : Nat) : kT s n r = if n % 4 = 0 then (if r = 0 then gxr (lf tbl (s (4 * (n - 1) + 1)).toNat) (kp ((n - 1) / 4)) else lf tbl (s (4 * (n - 1) + (r + 1) % 4)).toNat) else s (4 * (n - 1) + r) := by
  unfold kT
  rw [sbx_tbl, sbx_tbl]
def exK : Nat → UInt8 := fun j => UInt8.ofNat j
def exB : Nat → UInt8 := fun j => UInt8.ofNat (17 * j)
def exKeys : List UInt8 := [0, 1, 2, 3, 4, 5, 6, 7, 8, 9, 10, 11, 12, 13, 14, 15, 214, 170, 116, 253, 210, 175, 114, 250, 218, 166, 120, 241, 214, 171, 118, 254, 182, 146, 207, 11, 100, 61, 189, 241, 190, 155, 197, 0, 104, 48, 179, 254, 182, 255, 116, 78, 210, 194, 201, 191, 108, 89, 12, 191, 4, 105, 191, 65, 71, 247, 247, 188, 149, 53, 62, 3, 249, 108, 50, 188, 253, 5, 141, 253, 60, 170, 163, 232, 169, 159, 157, 235, 80, 243, 175, 87, 173, 246, 34, 170, 94, 57, 15, 125, 247, 166, 146, 150, 167, 85, 61, 193, 10, 163, 31, 107, 20, 249, 112, 26, 227, 95, 226, 140, 68, 10, 223, 77, 78, 169, 192, 38, 71, 67, 135, 53, 164, 28, 101, 185, 224, 22, 186, 244, 174, 191, 122, 210, 84, 153, 50, 209, 240, 133, 87, 104, 16, 147, 237, 156, 190, 44, 151, 78, 19, 17, 29, 127, 227, 148, 74, 23, 243, 7, 167, 139, 77, 43, 48, 197]
theorem exKeys_ok : ∀ n : Nat, n < 44 → ∀ r : Nat, r < 4 → lf exKeys (4 * n + r) = if n < 4 then exK (4 * n + r) else gxr (lf exKeys (4 * (n - 4) + r)) (if n % 4 = 0 then (if r = 0 then gxr (lf tbl (lf exKeys (4 * (n - 1) + 1)).toNat) (kp ((n - 1) / 4)) else lf tbl (lf exKeys (4 * (n - 1) + (r + 1) % 4)).toNat) else lf exKeys (4 * (n - 1) + r)) := by decide +kernel
theorem exKeys_eq (j : Nat) (hj : j < 176) : aKey exK j = lf exKeys j :=
  aKey_of exK (lf exKeys) (fun n hn r hr => by rw [kT_tbl]; exact exKeys_ok n hn r hr) j hj
theorem exRow (i : Nat) (hi : i < 11) : Eq16 (kRow (aKey exK) i) (kRow (lf exKeys) i) := kRow_cong exKeys_eq i hi
def ex0 : List UInt8 := [0, 16, 32, 48, 64, 80, 96, 112, 128, 144, 160, 176, 192, 208, 224, 240]
def ex1 : List UInt8 := [137, 216, 16, 232, 133, 90, 206, 104, 45, 24, 67, 216, 203, 18, 143, 228]
def ex2 : List UInt8 := [73, 21, 89, 143, 85, 229, 215, 160, 218, 202, 148, 250, 31, 10, 99, 247]
def ex3 : List UInt8 := [250, 99, 106, 40, 37, 179, 57, 201, 64, 102, 138, 49, 87, 36, 77, 23]
def ex4 : List UInt8 := [36, 114, 64, 35, 105, 102, 179, 250, 110, 210, 117, 50, 136, 66, 91, 108]
def ex5 : List UInt8 := [200, 22, 119, 188, 155, 122, 201, 59, 37, 2, 121, 146, 176, 38, 25, 150]
def ex6 : List UInt8 := [198, 47, 225, 9, 247, 94, 237, 195, 204, 121, 57, 93, 132, 249, 207, 93]
def ex7 : List UInt8 := [209, 135, 108, 15, 121, 196, 48, 10, 180, 85, 148, 173, 214, 111, 244, 31]
def ex8 : List UInt8 := [253, 227, 186, 210, 5, 229, 208, 215, 53, 71, 150, 78, 241, 254, 55, 241]
def ex9 : List UInt8 := [189, 110, 124, 61, 242, 181, 119, 158, 11, 97, 33, 110, 139, 16, 182, 137]
def ex10 : List UInt8 := [105, 196, 224, 216, 106, 123, 4, 48, 216, 205, 183, 128, 112, 180, 197, 90]
theorem exS0 : Eq16 (aSt (aKey exK) exB 0) (lf ex0) :=
  Eq16.trans (aXor_cong (fun _ _ => rfl) (exRow 0 (by omega))) (show ∀ j : Nat, j < 16 → aXor exB (kRow (lf exKeys) 0) j = lf ex0 j by decide +kernel)
theorem exR1 : ∀ j : Nat, j < 16 → rndF false (lf tbl) (lf ex0) (kRow (lf exKeys) 1) j = lf ex1 j := by decide +kernel
theorem exS1 : Eq16 (aSt (aKey exK) exB 1) (lf ex1) :=
  Eq16.trans (aRnd_cong false exS0 (exRow 1 (by omega))) (by unfold aRnd; rw [rndF_tbl]; exact exR1)
theorem exR2 : ∀ j : Nat, j < 16 → rndF false (lf tbl) (lf ex1) (kRow (lf exKeys) 2) j = lf ex2 j := by decide +kernel
theorem exS2 : Eq16 (aSt (aKey exK) exB 2) (lf ex2) :=
  Eq16.trans (aRnd_cong false exS1 (exRow 2 (by omega))) (by unfold aRnd; rw [rndF_tbl]; exact exR2)
theorem exR3 : ∀ j : Nat, j < 16 → rndF false (lf tbl) (lf ex2) (kRow (lf exKeys) 3) j = lf ex3 j := by decide +kernel
theorem exS3 : Eq16 (aSt (aKey exK) exB 3) (lf ex3) :=
  Eq16.trans (aRnd_cong false exS2 (exRow 3 (by omega))) (by unfold aRnd; rw [rndF_tbl]; exact exR3)
theorem exR4 : ∀ j : Nat, j < 16 → rndF false (lf tbl) (lf ex3) (kRow (lf exKeys) 4) j = lf ex4 j := by decide +kernel
theorem exS4 : Eq16 (aSt (aKey exK) exB 4) (lf ex4) :=
  Eq16.trans (aRnd_cong false exS3 (exRow 4 (by omega))) (by unfold aRnd; rw [rndF_tbl]; exact exR4)
theorem exR5 : ∀ j : Nat, j < 16 → rndF false (lf tbl) (lf ex4) (kRow (lf exKeys) 5) j = lf ex5 j := by decide +kernel
theorem exS5 : Eq16 (aSt (aKey exK) exB 5) (lf ex5) :=
  Eq16.trans (aRnd_cong false exS4 (exRow 5 (by omega))) (by unfold aRnd; rw [rndF_tbl]; exact exR5)
theorem exR6 : ∀ j : Nat, j < 16 → rndF false (lf tbl) (lf ex5) (kRow (lf exKeys) 6) j = lf ex6 j := by decide +kernel
theorem exS6 : Eq16 (aSt (aKey exK) exB 6) (lf ex6) :=
  Eq16.trans (aRnd_cong false exS5 (exRow 6 (by omega))) (by unfold aRnd; rw [rndF_tbl]; exact exR6)
theorem exR7 : ∀ j : Nat, j < 16 → rndF false (lf tbl) (lf ex6) (kRow (lf exKeys) 7) j = lf ex7 j := by decide +kernel
theorem exS7 : Eq16 (aSt (aKey exK) exB 7) (lf ex7) :=
  Eq16.trans (aRnd_cong false exS6 (exRow 7 (by omega))) (by unfold aRnd; rw [rndF_tbl]; exact exR7)
theorem exR8 : ∀ j : Nat, j < 16 → rndF false (lf tbl) (lf ex7) (kRow (lf exKeys) 8) j = lf ex8 j := by decide +kernel
theorem exS8 : Eq16 (aSt (aKey exK) exB 8) (lf ex8) :=
  Eq16.trans (aRnd_cong false exS7 (exRow 8 (by omega))) (by unfold aRnd; rw [rndF_tbl]; exact exR8)
theorem exR9 : ∀ j : Nat, j < 16 → rndF false (lf tbl) (lf ex8) (kRow (lf exKeys) 9) j = lf ex9 j := by decide +kernel
theorem exS9 : Eq16 (aSt (aKey exK) exB 9) (lf ex9) :=
  Eq16.trans (aRnd_cong false exS8 (exRow 9 (by omega))) (by unfold aRnd; rw [rndF_tbl]; exact exR9)
theorem exR10 : ∀ j : Nat, j < 16 → rndF true (lf tbl) (lf ex9) (kRow (lf exKeys) 10) j = lf ex10 j := by decide +kernel
theorem exS10 : Eq16 (aSt (aKey exK) exB 10) (lf ex10) :=
  Eq16.trans (aRnd_cong true exS9 (exRow 10 (by omega))) (by unfold aRnd; rw [rndF_tbl]; exact exR10)
theorem ex_enc : Eq16 (aEnc exK exB) (lf ex10) := exS10
theorem ex_dec : Eq16 (aDec exK (lf ex10)) exB := (aDec_cong exK ex_enc.symm).trans (aDec_aEnc exK exB)
end Go.Proofs.Ytnfgmgkdkfeekaa
