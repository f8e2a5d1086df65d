/-
  bytes.Clone, by a contract.
-/
import Derived.Test.YtnejidaplbonoaaBytes
namespace Go.Proofs.Ytnejidaplbonoaa
open Go.RowKit
set_option linter.unusedVariables false
set_option linter.unusedSimpArgs false

theorem eql_nil_bytes (w : World) (a : Option Addr) (n c n' c' : Nat) : (binOp .eql 28 (.slice a n c) (.slice none n' c')).run Try.prog w = .ok (.bool a.isNone) w := Lib.run_eql_slice_nil w _ _ a n c n' c' Try.underlying28
theorem clone_any (w : World) (q : Nat) (A : Option Addr) (n c : Nat) (l : List UInt8) (hn : n = l.length) (hm : Mem w q A l) (hl : l.length ≤ 140737488355328) :
    Calls Try.prog 34 #[.slice A n c] w fun e w' => ∃ v, e = .returned v ∧ Own w' w.heap.size v l ∧ Below w.heap.size w w' := by
  subst hn
  obtain ⟨i0, hi0, hz0, hs0, hb0⟩ := info_parts u8_info
  have hnil := eql_nil_bytes
  cases A with
  | none =>
    have hn : l = [] := by
      rcases hm with h | ⟨o, h, _⟩
      · exact h
      · cases h
    subst hn
    go_enter Try.func34, Try.ntmps34
    go_wp2
    go_ret
    exact ⟨_, rfl, Own.nil_ _ _, Below.refl _ _⟩
  | some ad =>
    have ho : Own (w.alloc (.cells #[] 5)) w.heap.size (.slice (some ⟨w.heap.size, 0, none⟩) 0 0) [] := World.ownsRow_made w #[] 0 (Nat.le_refl _) (by unfold maxLen; omega) (by simp)
    have hm' := hm.alloc (.cells #[] 5)
    go_enter Try.func34, Try.ntmps34
    go_wp2_with (first | (at_builtin; refine wpList_append_bytes rfl _ _ 28 rfl w.heap.size i0 Try.underlying28 hi0 hz0 hs0 hb0 (.slice (some ⟨w.heap.size, 0, none⟩) 0 0) [] rfl ho q (some ad) l.length c l rfl rfl hm' (by simpa using hl) (by simp) ?_; intro v1 w1 hown1 hg1))
    go_ret
    exact ⟨_, rfl, hown1, ((Below.refl _ _).alloc (Nat.le_refl _) _).grown hg1 (by simp) (by simp [Value.ownBlock])⟩
end Go.Proofs.Ytnejidaplbonoaa
