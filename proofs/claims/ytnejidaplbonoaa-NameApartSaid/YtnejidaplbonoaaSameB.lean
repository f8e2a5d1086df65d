/-
  tollref01.Same by a contract: whether two slices of bytes read as one list.
-/
import Derived.Test.YtnejidaplbonoaaBytes
namespace Go.Proofs.Ytnejidaplbonoaa
open Go.RowKit
set_option linter.unusedVariables false
set_option linter.unusedSimpArgs false

/-- Whether two strings of bytes are the same; a word that the walk does not open. -/
def sameB (a b : List UInt8) : Bool := decide (a = b)
theorem sameB_self (a : List UInt8) : sameB a a = true := by simp [sameB]
theorem sameB_true {a b : List UInt8} (h : a = b) : sameB a b = true := by simp [sameB, h]
theorem sameB_false {a b : List UInt8} (h : a ≠ b) : sameB a b = false := by simp [sameB, h]
theorem take_eq_succ (a b : List UInt8) (j : Nat) (ha : j < a.length) (hb : j < b.length) : a.take (j + 1) = b.take (j + 1) ↔ (a.take j = b.take j ∧ a[j]'ha = b[j]'hb) := by
  rw [List.take_succ_eq_append_getElem ha, List.take_succ_eq_append_getElem hb]
  constructor
  · intro h
    have := List.append_inj h (by simp; omega)
    exact ⟨this.1, by simpa using this.2⟩
  · rintro ⟨h1, h2⟩
    rw [h1, h2]
theorem same_len (w : World) (A1 A2 : Option Addr) (n1 n2 c1 c2 : Nat) (hn : n1 ≠ n2) :
    Calls Try.prog 17 #[.slice A1 n1 c1, .slice A2 n2 c2] w fun e w' => e = .returned (.bool false) ∧ w = w' := by
  have h : ¬ ((n1 : Int) = (n2 : Int)) := by omega
  go_enter Try.func17, Try.ntmps17
  go_wp2
  go_ret
  exact ⟨rfl, rfl⟩
set_option maxHeartbeats 1000000 in
theorem same_same_len (w : World) (q1 q2 : Nat) (A1 A2 : Option Addr) (c1 c2 : Nat) (l1 l2 : List UInt8) (hlen : l1.length = l2.length) (hl : l1.length ≤ 140737488355328) (h1 : Mem w q1 A1 l1) (h2 : Mem w q2 A2 l2) :
    Calls Try.prog 17 #[.slice A1 l1.length c1, .slice A2 l1.length c2] w fun e w' => e = .returned (.bool (sameB l1 l2)) ∧ ∃ n, w' = w.drewN n := by
  have HL := kept hlen
  clear hlen
  go_enter Try.func17, Try.ntmps17
  go_wp2_with fail
  go_loopw [5] (fun i wr => ∃ (j n : Nat), j ≤ l1.length ∧ i = .int .i64 j ∧ Kept (l1.take j = l2.take j) ∧ wr = w.drewN n) (fun i _ => l1.length - (intOf i).toNat)
  case atStart => exact ⟨0, 0, Nat.zero_le _, rfl, kept (by simp), rfl⟩
  case round =>
    obtain ⟨j, nd, hj, rfl, HD, rfl⟩ := hrel
    by_cases hlt : j < l1.length
    · have hlt2 : j < l2.length := by have := HL.out; omega
      obtain ⟨o1, rfl, hc1⟩ := h1.at_ hlt
      obtain ⟨o2, rfl, hc2⟩ := h2.at_ hlt2
      have HT := kept (take_eq_succ l1 l2 j hlt hlt2)
      have hi0 : (0 : Int) ≤ (j : Int) := by omega
      have hi1 : (j : Int) < (l1.length : Int) := by omega
      by_cases hx : (l1[j]'hlt) = (l2[j]'hlt2)
      · have HX := kept hx
        rw [← hx] at hc2
        clear hx
        go_wp2
        go_quiet (fail)
        go_wp2
        go_roundw
        case rel => exact ⟨j + 1, _, by omega, by go_num, kept (HT.out.2 ⟨HD.out, HX.out⟩), rfl⟩
        case measure => simp [intOf]; omega
      · have HX := kept hx
        have hne : ¬ (((l1[j]'hlt).toNat : Int) = ((l2[j]'hlt2).toNat : Int)) := fun e => hx (UInt8.toNat_inj.1 (by omega))
        have hns : l1 ≠ l2 := fun e => HX.out (HT.out.1 (by rw [e])).2
        have HNS := kept (sameB_false hns)
        clear hx hns
        go_wp2
        go_quiet (fail)
        go_wp2
        go_ret
        exact ⟨congrArg (fun b => Ending.returned (.bool b)) HNS.out.symm, _, World.drewN_drewN _ _ _⟩
    · have e1 : l1.take j = l1 := List.take_of_length_le (by omega)
      have e2 : l2.take j = l2 := List.take_of_length_le (by have := HL.out; omega)
      rw [e1, e2] at HD
      have HRR := kept (sameB_true HD.out)
      clear e1 e2
      go_wp2
      go_ret
      exact ⟨congrArg (fun b => Ending.returned (.bool b)) HRR.out.symm, _, rfl⟩
/-- Same, of any two strings. -/
theorem same_any (w : World) (q1 q2 : Nat) (A1 A2 : Option Addr) (n1 n2 c1 c2 : Nat) (l1 l2 : List UInt8) (hn1 : n1 = l1.length) (hn2 : n2 = l2.length) (hl : l1.length ≤ 140737488355328) (h1 : Mem w q1 A1 l1) (h2 : Mem w q2 A2 l2) :
    Calls Try.prog 17 #[.slice A1 n1 c1, .slice A2 n2 c2] w fun e w' => e = .returned (.bool (sameB l1 l2)) ∧ ∃ n, w' = w.drewN n := by
  subst hn1
  by_cases h : l1.length = n2
  · subst h
    exact same_same_len w q1 q2 A1 A2 c1 c2 l1 l2 hn2 hl h1 h2
  · refine (same_len w A1 A2 _ _ c1 c2 h).mono ?_
    rintro e w' ⟨rfl, rfl⟩
    exact ⟨by rw [sameB_false (fun e => h (by rw [e, hn2]))], 0, rfl⟩
end Go.Proofs.Ytnejidaplbonoaa
