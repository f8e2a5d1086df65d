/-
  What the reference has beside the names: Names, Name; the law's own 'has'.
-/
import Derived.Test.YtdbkpmllhdbfbaaDoorNames
namespace Go.Proofs.YtdbkpmllhdbfbaaDoor
open Go.RowKit
set_option linter.unusedVariables false

theorem names_any (w : World) : Calls Tryd.prog 28 #[] w fun e w' => ∃ g, e = .returned (.slice (some ⟨g, 0, none⟩) 17 17) ∧ Blk w' g 9 nmA ∧ Below w.heap.size w w' := by
  go_enter Tryd.func28, Tryd.ntmps28
  go_wp2
  go_ret
  exact ⟨_, rfl, Blk.new w 9 nmA, (Below.refl _ _).alloc (Nat.le_refl _) _⟩
theorem rname_no (c : Int) (w : World) (h : c < 0 ∨ 16 < c) : Calls Tryd.prog 19 #[.int .i64 c] w fun e w' => e = .returned (.string ⟨#[]⟩) ∧ Below w.heap.size w w' := by
  rcases h with h | h
  · go_enter Tryd.func19, Tryd.ntmps19
    go_wp2
    go_ret
    exact ⟨rfl, Below.refl _ _⟩
  · have h0 : decide (c < 0) = false := by simp; omega
    go_enter Tryd.func19, Tryd.ntmps19
    go_wp2
    go_ret
    exact ⟨rfl, Below.refl _ _⟩
theorem rname_yes (k : Nat) (w : World) (h : k < 17) : Calls Tryd.prog 19 #[.int .i64 k] w fun e w' => e = .returned (.string (nmB k)) ∧ Below w.heap.size w w' := by
  have h1 : decide ((16 : Int) < (k : Int)) = false := by simp; omega
  have h2 : (0 : Int) ≤ (k : Int) := by omega
  have h3 : (k : Int) < 17 := by omega
  have HA := Lib.hid (nmA_at h)
  go_enter Tryd.func19, Tryd.ntmps19
  go_wp2_with (first | (go_at_call 28; refine (names_any _).mono ?_; rintro e9 w9 ⟨g, rfl, hb, hbel⟩; have hc := (hb.cell k).trans HA.out; clear hb))
  go_ret
  exact ⟨rfl, hbel⟩
theorem has_any (s : ByteArray) (w : World) (hno : ∀ k, k < 17 → nmB k ≠ s) : Calls Tryd.prog 20 #[.string s] w fun e w' => e = .returned (.bool false) ∧ Below w.heap.size w w' := by
  have HN := Lib.hid hno
  clear hno
  go_enter Tryd.func20, Tryd.ntmps20
  go_wp2_with (first | (go_at_call 28; refine (names_any _).mono ?_; rintro e9 w9 ⟨g, rfl, hb, hbel⟩))
  have HB := Lib.hid hb
  clear hb
  go_loop [4] (fun i => ∃ k : Nat, k ≤ 17 ∧ i = .int .i64 k) (fun i => 17 - (intOf i).toNat)
  case atStart => exact ⟨0, by omega, rfl⟩
  case round =>
    obtain ⟨k, hk, rfl⟩ := hrel
    by_cases hlt : k < 17
    · have hc := (HB.out.cell k).trans (nmA_at hlt)
      have hlt' : (k : Int) < 17 := by omega
      have hte := ne_toList (HN.out k hlt)
      go_wp2
      go_round
      case rel => exact ⟨k + 1, by omega, by go_num⟩
      case measure => simp [intOf]; omega
    · go_wp2
      go_ret
      exact ⟨rfl, hbel⟩

theorem nm_inj {j k : Nat} (hj : j < 17) (hk : k < 17) (h : nmB j = nmB k) : j = k := by
  have hall : ((List.range 17).all fun j => (List.range 17).all fun k => !(nmL.getD j [] == nmL.getD k []) || j == k) = true := by decide
  have h1 := List.all_eq_true.1 (List.all_eq_true.1 hall j (List.mem_range.2 hj)) k (List.mem_range.2 hk)
  have h2 : nmL.getD j [] = nmL.getD k [] := by
    have := congrArg (fun b : ByteArray => b.data.toList) h
    simpa [nmB] using this
  rw [h2] at h1
  simpa using h1
theorem nm_ne {k : Nat} (hk : k < 17) : nmB k ≠ ⟨#[]⟩ := by
  have hall : ((List.range 17).all fun j => !(nmL.getD j [] == [])) = true := by decide
  have h1 := List.all_eq_true.1 hall k (List.mem_range.2 hk)
  intro h
  have h2 : nmL.getD k [] = [] := by
    have := congrArg (fun b : ByteArray => b.data.toList) h
    simpa [nmB] using this
  rw [h2] at h1
  simp at h1

end Go.Proofs.YtdbkpmllhdbfbaaDoor
