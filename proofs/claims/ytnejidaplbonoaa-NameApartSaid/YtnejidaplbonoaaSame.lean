/-
  The reference's Same, of two slices that hold the same bytes.
-/
import Derived.Test.YtnejidaplbonoaaBytes
namespace Go.Proofs.Ytnejidaplbonoaa
open Go.RowKit
set_option linter.unusedVariables false

theorem same_yes (w : World) (q1 q2 : Nat) (A1 A2 : Option Addr) (n1 n2 c1 c2 : Nat) (l : List UInt8) (hn1 : n1 = l.length) (hn2 : n2 = l.length) (hl : l.length ≤ 140737488355328) (h1 : Mem w q1 A1 l) (h2 : Mem w q2 A2 l) :
    Calls Try.prog 17 #[.slice A1 n1 c1, .slice A2 n2 c2] w fun e w' => e = .returned (.bool true) ∧ ∃ n, w' = w.drewN n := by
  subst hn1
  subst hn2
  go_enter Try.func17, Try.ntmps17
  go_wp2_with fail
  go_loopw [5] (fun i wr => ∃ j n : Nat, j ≤ l.length ∧ i = .int .i64 j ∧ wr = w.drewN n) (fun i _ => l.length - (intOf i).toNat)
  case atStart => exact ⟨0, 0, Nat.zero_le _, rfl, rfl⟩
  case round =>
    obtain ⟨j, nd, hj, rfl, rfl⟩ := hrel
    by_cases hlt : j < l.length
    · obtain ⟨o1, rfl, hc1⟩ := h1.at_ hlt
      obtain ⟨o2, rfl, hc2⟩ := h2.at_ hlt
      have hi0 : (0 : Int) ≤ (j : Int) := by omega
      have hi1 : (j : Int) < (l.length : Int) := by omega
      go_wp2
      go_quiet (fail)
      go_wp2
      go_roundw
      case rel => exact ⟨j + 1, _, by omega, by go_num, rfl⟩
      case measure => simp [intOf]; omega
    · go_wp2
      go_ret
      exact ⟨rfl, _, rfl⟩
theorem same_b (w : World) (q1 q2 : Nat) (A1 A2 : Option Addr) (n1 n2 c1 c2 : Nat) (l : List UInt8) (hn1 : n1 = l.length) (hn2 : n2 = l.length) (hl : l.length ≤ 140737488355328) (h1 : Mem w q1 A1 l) (h2 : Mem w q2 A2 l) :
    Calls Try.prog 17 #[.slice A1 n1 c1, .slice A2 n2 c2] w fun e w' => e = .returned (.bool true) ∧ Below w.heap.size w w' :=
  (same_yes w q1 q2 A1 A2 n1 n2 c1 c2 l hn1 hn2 hl h1 h2).mono fun e w' ⟨he, n, hw⟩ => ⟨he, by rw [hw]; exact below_drewN (Below.refl _ _) n⟩
end Go.Proofs.Ytnejidaplbonoaa
