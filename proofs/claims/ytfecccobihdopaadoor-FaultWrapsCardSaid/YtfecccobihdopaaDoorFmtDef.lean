/-
  The digits that formatBase10 of the library's strconv writes, at whatever number of places: a plain function, and the contract by it. No condition on the number's digits.
-/
import Derived.Test.YtfecccobihdopaaDoorWords
import Derived.Lib.ItoaWalk
import Derived.Lib.ItoaMem
import Derived.Lib.Walk
import Derived.Lib.Hide
namespace Go.Proofs.YtfecccobihdopaaDoor
open Go.RowKit Go.Sort Go.Lib
set_option linter.unusedVariables false

/-- A fact that the walk shall not look into. -/
structure Kept (p : Prop) : Prop where
  out : p
theorem kept {p : Prop} (h : p) : Kept p := ⟨h⟩
def s2 (m x : Nat) (d : Array UInt8) : Array UInt8 := (d.setIfInBounds (m + 1) (sm (x % 100 * 2 + 1))).setIfInBounds m (sm (x % 100 * 2))
def s1 (x : Nat) (d : Array UInt8) : Array UInt8 := d.setIfInBounds 0 (UInt8.ofNat (48 + x))
theorem s2_size (m x : Nat) (d : Array UInt8) : (s2 m x d).size = d.size := by simp [s2]
theorem s1_size (x : Nat) (d : Array UInt8) : (s1 x d).size = d.size := by simp [s1]
def t1 (nd x : Nat) (d : Array UInt8) : Array UInt8 := if 0 < nd then s1 x d else d
def t2 (nd x : Nat) (d : Array UInt8) : Array UInt8 := if 2 ≤ nd then t1 (nd - 2) (x / 100) (s2 (nd - 2) x d) else t1 nd x d
def tailA (nd x : Nat) (d : Array UInt8) : Array UInt8 := if 4 ≤ nd then t2 (nd - 4) (x / 10000) (s2 (nd - 4) (x / 100) (s2 (nd - 2) x d)) else t2 nd x d
theorem tail_0 (x : Nat) (d : Array UInt8) : tailA 0 x d = d := rfl
theorem tail_1 (x : Nat) (d : Array UInt8) : tailA 1 x d = s1 x d := rfl
theorem tail_20 (k x : Nat) (d : Array UInt8) (h : k < 1) : tailA (k + 2) x d = s2 k x d := by
  unfold tailA t2 t1
  rw [if_neg (by omega), if_pos (by omega), if_neg (by omega)]
  rfl
theorem tail_21 (k x : Nat) (d : Array UInt8) (h : 0 < k) (h2 : k < 2) : tailA (k + 2) x d = s1 (x / 100) (s2 k x d) := by
  unfold tailA t2 t1
  rw [if_neg (by omega), if_pos (by omega), if_pos (by omega)]
  rfl
theorem tail_40 (k x : Nat) (d : Array UInt8) (h : k < 1) : tailA (k + 4) x d = s2 k (x / 100) (s2 (k + 2) x d) := by
  unfold tailA t2 t1
  rw [if_pos (by omega), if_neg (by omega), if_neg (by omega)]
  rfl
theorem tail_41 (k x : Nat) (d : Array UInt8) (h : 0 < k) (h2 : k < 2) : tailA (k + 4) x d = s1 (x / 10000) (s2 k (x / 100) (s2 (k + 2) x d)) := by
  unfold tailA t2 t1
  rw [if_pos (by omega), if_neg (by omega), if_pos (by omega)]
  rfl
theorem tail_60 (k x : Nat) (d : Array UInt8) (h : k < 1) : tailA (k + 6) x d = s2 k (x / 10000) (s2 (k + 2) (x / 100) (s2 (k + 4) x d)) := by
  unfold tailA t2 t1
  rw [if_pos (by omega), if_pos (by omega), if_neg (by omega)]
  rfl
theorem tail_61 (k x : Nat) (d : Array UInt8) (h : 0 < k) (h2 : k < 2) : tailA (k + 6) x d = s1 (x / 10000 / 100) (s2 k (x / 10000) (s2 (k + 2) (x / 100) (s2 (k + 4) x d))) := by
  unfold tailA t2 t1
  rw [if_pos (by omega), if_pos (by omega), if_pos (by omega)]
  rfl
def fmtA (nd v : Nat) (d : Array UInt8) : Array UInt8 :=
  if 8 ≤ nd then fmtA (nd - 8) (v / 100000000) (s2 (nd - 8) (v / 100 / 100 / 100) (s2 (nd - 6) (v / 100 / 100) (s2 (nd - 4) (v / 100) (s2 (nd - 2) v d)))) else tailA nd (v % 4294967296) d
termination_by nd
decreasing_by omega
theorem fmtA_step (m v : Nat) (d : Array UInt8) : fmtA (m + 8) v d = fmtA m (v / 100000000) (s2 m (v / 100 / 100 / 100) (s2 (m + 2) (v / 100 / 100) (s2 (m + 4) (v / 100) (s2 (m + 6) v d)))) := by
  rw [fmtA, if_pos (by omega)]
  rfl
theorem fmtA_tail (nd v : Nat) (d : Array UInt8) (h : nd < 8) : fmtA nd v d = tailA nd (v % 4294967296) d := by rw [fmtA, if_neg (by omega)]
theorem tailA_size (nd x : Nat) (d : Array UInt8) : (tailA nd x d).size = d.size := by
  unfold tailA t2 t1
  repeat' split
  all_goals simp only [s1_size, s2_size]
theorem fmtA_size (nd : Nat) : ∀ (v : Nat) (d : Array UInt8), (fmtA nd v d).size = d.size := by
  induction nd using Nat.strongRecOn with
  | _ nd ih =>
    intro v d
    by_cases h : 8 ≤ nd
    · rw [fmtA, if_pos h, ih (nd - 8) (by omega)]
      simp only [s2_size]
    · rw [fmtA_tail nd v d (by omega), tailA_size]

end Go.Proofs.YtfecccobihdopaaDoor
