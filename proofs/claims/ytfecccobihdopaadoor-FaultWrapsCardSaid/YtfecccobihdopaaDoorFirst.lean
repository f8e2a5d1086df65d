/-
  The least answer: package fault's First and the reference's, by contracts.
-/
import Derived.Test.YtfecccobihdopaaDoorInts
import Derived.Test.YtfecccobihdopaaDoorErrsE
namespace Go.Proofs.YtfecccobihdopaaDoor
open Go.RowKit
set_option linter.unusedVariables false

def firstL (l : List Int) : Int := l.foldl (fun o c => if 1 ≤ c ∧ c < o then c else o) 10
theorem firstL_snoc (l : List Int) (c : Int) : firstL (l ++ [c]) = if 1 ≤ c ∧ c < firstL l then c else firstL l := by
  unfold firstL
  rw [List.foldl_append]
  rfl
theorem firstL_le (l : List Int) : firstL l ≤ 10 ∧ 1 ≤ firstL l := by
  have : ∀ (l : List Int) (o : Int), o ≤ 10 → 1 ≤ o → (l.foldl (fun o c => if 1 ≤ c ∧ c < o then c else o) o) ≤ 10 ∧ 1 ≤ (l.foldl (fun o c => if 1 ≤ c ∧ c < o then c else o) o) := by
    intro l
    induction l with
    | nil => intro o h1 h2; exact ⟨h1, h2⟩
    | cons c r ih =>
      intro o h1 h2
      simp only [List.foldl_cons]
      split
      · exact ih c (by omega) (by omega)
      · exact ih o h1 h2
  exact this l 10 (by omega) (by omega)
theorem take_snocI (l : List Int) (k : Nat) (h : k < l.length) : l.take (k + 1) = l.take k ++ [l[k]'h] := List.take_succ_eq_append_getElem h

theorem isAnswer_yes (c : Int) (w : World) (h1 : 1 ≤ c) (h2 : c ≤ 10) : Calls Tryd.prog 19 #[.int .i64 c] w fun e w' => e = .returned (.bool true) ∧ w = w' := by
  go_enter Tryd.func19, Tryd.ntmps19
  go_wp2
  go_ret
  exact ⟨rfl, rfl⟩
theorem isAnswer_no (c : Int) (w : World) (h : c < 1 ∨ 10 < c) : Calls Tryd.prog 19 #[.int .i64 c] w fun e w' => e = .returned (.bool false) ∧ w = w' := by
  rcases h with h | h
  · go_enter Tryd.func19, Tryd.ntmps19
    go_wp2
    go_ret
    exact ⟨rfl, rfl⟩
  · have h1 : 1 ≤ c := by omega
    have h2 : decide (c ≤ 10) = false := by simp; omega
    go_enter Tryd.func19, Tryd.ntmps19
    go_wp2
    go_ret
    exact ⟨rfl, rfl⟩

theorem first_any (w : World) (q : Nat) (A : Option Addr) (n c : Nat) (l : List Int) (hn : n = l.length) (hm : MemI w q A l) (hl : l.length ≤ 1000000) :
    Calls Tryd.prog 14 #[.slice A n c] w fun e w' => e = .returned (.int .i64 (firstL l)) ∧ w = w' := by
  subst hn
  have HM := Lib.hid hm
  clear hm
  go_enter Tryd.func14, Tryd.ntmps14
  go_wp2
  go_loop [3, 8] (fun o i => ∃ k : Nat, k ≤ l.length ∧ i = .int .i64 k ∧ o = .int .i64 (firstL (l.take k))) (fun _ i => l.length - (intOf i).toNat)
  case atStart => exact ⟨0, Nat.zero_le _, rfl, rfl⟩
  case round =>
    obtain ⟨k, hk, rfl, rfl⟩ := hrel
    by_cases hlt : k < l.length
    · obtain ⟨o, rfl, hc⟩ := HM.out.at_ hlt
      have hlt' : (k : Int) < (l.length : Int) := by omega
      have hi0 : (0 : Int) ≤ (k : Int) := by omega
      have hs : firstL (l.take (k + 1)) = if 1 ≤ l[k] ∧ l[k] < firstL (l.take k) then l[k] else firstL (l.take k) := by rw [take_snocI l k hlt, firstL_snoc]
      have hb := firstL_le (l.take k)
      have HS := Lib.hid hs
      clear hs
      generalize firstL (l.take k) = f at *
      generalize l[k] = x at *
      have hfx : (if 1 ≤ x ∧ x < f then x else f) = if 1 ≤ x ∧ x ≤ 10 then (if x < f then x else f) else f := by
        split <;> split <;> try split
        all_goals omega
      have HF := Lib.hid hfx
      clear hfx
      by_cases ha : 1 ≤ x ∧ x ≤ 10
      · have hmin : (if x < f then x else f) = min f x := by split <;> omega
        have HMN := Lib.hid hmin
        clear hmin
        go_wp2_with (go_at_call 19; refine (isAnswer_yes x _ ha.1 ha.2).mono ?_; rintro e9 w9 ⟨rfl, rfl⟩)
        go_round
        case rel => exact ⟨k + 1, by omega, by go_num, by rw [HS.out, HF.out, if_pos ha, HMN.out]⟩
        case measure => simp [intOf]; omega
      · go_wp2_with (go_at_call 19; refine (isAnswer_no x _ (by omega)).mono ?_; rintro e9 w9 ⟨rfl, rfl⟩)
        go_round
        case rel => exact ⟨k + 1, by omega, by go_num, by rw [HS.out, HF.out, if_neg ha]⟩
        case measure => simp [intOf]; omega
    · go_wp2
      go_ret
      rw [List.take_of_length_le (by omega)]
      exact ⟨rfl, rfl⟩

end Go.Proofs.YtfecccobihdopaaDoor
