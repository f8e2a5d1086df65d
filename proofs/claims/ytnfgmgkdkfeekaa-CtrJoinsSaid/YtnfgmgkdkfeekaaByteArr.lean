/-
  Arrays of bytes whose cells are given by a function. No function of the program is named here.
-/
import Derived.Test.YtnfgmgkdkfeekaaBytes
namespace Go.Proofs.Ytnfgmgkdkfeekaa
open Go.RowKit
set_option linter.unusedVariables false

theorem zeros_b (n : Nat) : (Array.replicate n (Value.int .u8 0)) = gA n (fun _ => bv 0) := by
  apply Array.ext_getElem?
  intro j
  by_cases h : j < n
  · rw [gA_at _ _ h]; simp [h]; rfl
  · rw [Array.getElem?_eq_none (by simp; omega), Array.getElem?_eq_none (by rw [gA_size]; omega)]
/-- An array of bytes. -/
def bA (n : Nat) (f : Nat → UInt8) : Array Value := gA n fun j => bv (f j)
theorem bA_size (n : Nat) (f : Nat → UInt8) : (bA n f).size = n := gA_size _ _
theorem bA_at (n : Nat) (f : Nat → UInt8) {j : Nat} (h : j < n) : (bA n f)[j]? = some (.int .u8 ((f j).toNat : Int)) := gA_at _ _ h
theorem bA_ext {n : Nat} {f g : Nat → UInt8} (h : ∀ j, j < n → f j = g j) : bA n f = bA n g := gA_ext fun j hj => by rw [h j hj]
theorem bA_one (n : Nat) (f : Nat → UInt8) : (bA n f).all (·.oneCell') = true := by
  rw [Array.all_eq_true_iff_forall_mem]
  intro v hv
  have hv' : v ∈ (List.range n).map (fun j => bv (f j)) := by simpa [bA, gA] using hv
  obtain ⟨i, _, rfl⟩ := List.mem_map.1 hv'
  rfl
theorem bA_zero (n : Nat) : (Array.replicate n (Value.int .u8 0)) = bA n (fun _ => 0) := zeros_b n
theorem Blk.putB {w : World} {g : Nat} {t : TypeId} {n : Nat} {f f' : Nat → UInt8} (h : Blk w g t (bA n f)) (i : Nat) (x : UInt8) (hf : ∀ j, j < n → f' j = if j = i then x else f j) : Blk (w.setCell ⟨g, i, none⟩ (.int .u8 (x.toNat : Int))) g t (bA n f') := by
  refine h.putG i (bv x) fun j hj => ?_
  show bv (f' j) = _
  rw [hf j hj]
  split <;> rfl
end Go.Proofs.Ytnfgmgkdkfeekaa
