/-
  The table of substitutions: the powers of 3 are all bytes but 0. No function of the program is named here.
-/
import Derived.Test.YtnfgmgkdkfeekaaGfInv
namespace Go.Proofs.Ytnfgmgkdkfeekaa
set_option linter.unusedVariables false

def pws : Nat → UInt8 → List UInt8
  | 0, _ => []
  | n + 1, x => x :: pws n (gf x 3)
def pw3 : List UInt8 := [1, 3, 5, 15, 17, 51, 85, 255, 26, 46, 114, 150, 161, 248, 19, 53, 95, 225, 56, 72, 216, 115, 149, 164, 247, 2, 6, 10, 30, 34, 102, 170, 229, 52, 92, 228, 55, 89, 235, 38, 106, 190, 217, 112, 144, 171, 230, 49, 83, 245, 4, 12, 20, 60, 68, 204, 79, 209, 104, 184, 211, 110, 178, 205, 76, 212, 103, 169, 224, 59, 77, 215, 98, 166, 241, 8, 24, 40, 120, 136, 131, 158, 185, 208, 107, 189, 220, 127, 129, 152, 179, 206, 73, 219, 118, 154, 181, 196, 87, 249, 16, 48, 80, 240, 11, 29, 39, 105, 187, 214, 97, 163, 254, 25, 43, 125, 135, 146, 173, 236, 47, 113, 147, 174, 233, 32, 96, 160, 251, 22, 58, 78, 210, 109, 183, 194, 93, 231, 50, 86, 250, 21, 63, 65, 195, 94, 226, 61, 71, 201, 64, 192, 91, 237, 44, 116, 156, 191, 218, 117, 159, 186, 213, 100, 172, 239, 42, 126, 130, 157, 188, 223, 122, 142, 137, 128, 155, 182, 193, 88, 232, 35, 101, 175, 234, 37, 111, 177, 200, 67, 197, 84, 252, 31, 33, 99, 165, 244, 7, 9, 27, 45, 119, 153, 176, 203, 70, 202, 69, 207, 74, 222, 121, 139, 134, 145, 168, 227, 62, 66, 198, 81, 243, 14, 18, 54, 90, 238, 41, 123, 141, 140, 143, 138, 133, 148, 167, 242, 13, 23, 57, 75, 221, 124, 132, 151, 162, 253, 28, 36, 108, 180, 199, 82, 246]
set_option maxRecDepth 100000 in
theorem pws_eq : pws 255 1 = pw3 := by decide +kernel
set_option maxRecDepth 100000 in
theorem pw3_all : ∀ b : Nat, b < 256 → b ≠ 0 → UInt8.ofNat b ∈ pw3 := by decide +kernel
theorem pws_mem (n : Nat) (m : Nat) (b : UInt8) (h : b ∈ pws n (gpow 3 m)) : ∃ k, k < m + n ∧ gpow 3 k = b := by
  induction n generalizing m with
  | zero => simp [pws] at h
  | succ n ih =>
    rw [pws, List.mem_cons] at h
    rcases h with h | h
    · exact ⟨m, by omega, h.symm⟩
    · obtain ⟨k, h1, h2⟩ := ih (m + 1) h
      exact ⟨k, by omega, h2⟩
theorem pow3_all (b : UInt8) (h : b ≠ 0) : ∃ k, k < 255 ∧ gpow 3 k = b := by
  have h0 : b.toNat ≠ 0 := fun e => h (UInt8.toNat_inj.1 e)
  have hm := pw3_all b.toNat (UInt8.toNat_lt b) h0
  rw [UInt8.ofNat_toNat, ← pws_eq] at hm
  obtain ⟨k, h1, h2⟩ := pws_mem 255 0 b hm
  exact ⟨k, by omega, h2⟩
/-- What the table of powers holds behind n rounds. -/
def pwF (n : Nat) : Nat → UInt8 := fun j => if j < n then gpow 3 j else 0
/-- What the table of substitutions holds behind n rounds. -/
def bxF : Nat → Nat → UInt8
  | 0 => fun j => if j = 0 then gaff 0 else 0
  | n + 1 => fun j => if j = (gpow 3 n).toNat then gaff (gpow 3 (255 - n)) else bxF n j
theorem bxF_succ (n j : Nat) : bxF (n + 1) j = if j = (gpow 3 n).toNat then gaff (gpow 3 (255 - n)) else bxF n j := rfl
theorem inv_pow3 (n : Nat) (h : n ≤ 255) : gpow 3 (255 - n) = ginv (gpow 3 n) := by
  refine ginv_of _ _ ?_
  rw [← gpow_add, show n + (255 - n) = 255 by omega]
  exact gpow_255 3 (by decide)
theorem bxF_old (n j : Nat) (hn : n ≤ 256) (h : ∃ m, m < n ∧ (gpow 3 m).toNat = j) : bxF n j = gsub (UInt8.ofNat j) := by
  induction n with
  | zero => obtain ⟨m, hm, _⟩ := h; omega
  | succ n ih =>
    rw [bxF_succ]
    by_cases e : j = (gpow 3 n).toNat
    · rw [if_pos e, e, UInt8.ofNat_toNat, inv_pow3 n (by omega)]
      rfl
    · rw [if_neg e]
      obtain ⟨m, hm, hj⟩ := h
      refine ih (by omega) ⟨m, ?_, hj⟩
      by_cases e' : m = n
      · subst e'; exact absurd hj.symm e
      · omega
theorem bxF_zero (n : Nat) : bxF n 0 = gaff 0 := by
  induction n with
  | zero => rfl
  | succ n ih =>
    rw [bxF_succ, if_neg, ih]
    intro e
    exact gpow_ne 3 n (by decide) (UInt8.toNat_inj.1 e.symm)
theorem bxF_all (j : Nat) (hj : j < 256) : bxF 256 j = gsub (UInt8.ofNat j) := by
  by_cases h : j = 0
  · subst h
    rw [bxF_zero]
    show gaff 0 = gaff (ginv 0)
    rw [ginv_zero]
  · obtain ⟨k, h1, h2⟩ := pow3_all (UInt8.ofNat j) (by
      intro e
      have := congrArg UInt8.toNat e
      rw [UInt8.toNat_ofNat'] at this
      have h0 : (0 : UInt8).toNat = 0 := rfl
      omega)
    refine bxF_old 256 j (by omega) ⟨k, by omega, ?_⟩
    rw [h2, UInt8.toNat_ofNat']
    omega
end Go.Proofs.Ytnfgmgkdkfeekaa
