/-
  The names of the codes: what the variable of package fault holds; Name and Parse, and what the reference has beside them.
-/
import Derived.Test.YtfecccobihdopaaDoorErrsE
import Derived.Laws.Rows
import Derived.WalkMore
import Derived.ScopeJumps
namespace Go.Proofs.YtfecccobihdopaaDoor
open Go.RowKit
set_option linter.unusedVariables false

/-- The names as bytes. -/
def nmL : List (List UInt8) := [[78, 79, 78, 69], [77, 65, 76, 70, 79, 82, 77, 69, 68], [66, 65, 68, 95, 73, 78, 84, 69, 71, 82, 73, 84, 89], [84, 75, 84, 95, 78, 89, 86], [84, 75, 84, 95, 69, 88, 80, 73, 82, 69, 68], [66, 65, 68, 77, 65, 84, 67, 72], [83, 75, 69, 87], [81, 85, 65, 82, 65, 78, 84, 73, 78, 69], [82, 69, 80, 69, 65, 84], [83, 84, 79, 82, 65, 71, 69], [65, 67, 67, 69, 80, 84], [70, 65, 73, 76, 69, 68], [68, 79, 87, 78], [70, 85, 76, 76], [67, 79, 82, 82, 85, 80, 84], [66, 65, 68], [83, 89, 78, 84, 65, 88]]
def nmB (i : Nat) : ByteArray := ⟨(nmL.getD i []).toArray⟩
def nmA : Array Value := ((List.range 17).map fun i => Value.string (nmB i)).toArray
theorem nmA_at {k : Nat} (h : k < 17) : nmA[k]? = some (.string (nmB k)) := by
  rcases (show k = 0 ∨ k = 1 ∨ k = 2 ∨ k = 3 ∨ k = 4 ∨ k = 5 ∨ k = 6 ∨ k = 7 ∨ k = 8 ∨ k = 9 ∨ k = 10 ∨ k = 11 ∨ k = 12 ∨ k = 13 ∨ k = 14 ∨ k = 15 ∨ k = 16 by omega) with rfl | rfl | rfl | rfl | rfl | rfl | rfl | rfl | rfl | rfl | rfl | rfl | rfl | rfl | rfl | rfl | rfl <;> rfl
/-- The variable of package fault holds the names. -/
def NmAt (w : World) : Prop := ∃ t fr, w.heap[0]? = some (.cells nmA t fr)
theorem NmAt.lt {w : World} (h : NmAt w) : 0 < w.heap.size := by
  obtain ⟨t, fr, h⟩ := h
  rcases Nat.lt_or_ge 0 w.heap.size with hlt | hge
  · exact hlt
  · rw [Array.getElem?_eq_none hge] at h; cases h
theorem NmAt.below {w w' : World} (h : NmAt w) (hb : Below w.heap.size w w') : NmAt w' := by
  have hlt := h.lt
  obtain ⟨t, fr, h⟩ := h
  exact ⟨t, fr, (hb.block _ hlt).trans h⟩
theorem NmAt.alloc {w : World} (h : NmAt w) (o : Obj) : NmAt (w.alloc o) := by
  have hlt := h.lt
  obtain ⟨t, fr, h⟩ := h
  exact ⟨t, fr, (Below.heap_alloc w o _ hlt).trans h⟩
theorem NmAt.cell {w : World} (h : NmAt w) {k : Nat} (hk : k < 17) : w.cell? ⟨0, k, none⟩ = some (.string (nmB k)) := by
  obtain ⟨t, fr, h⟩ := h
  rw [cell_of_row w _ k nmA t fr h]
  exact nmA_at hk

theorem name_no (c : Int) (w : World) (h : c < 0 ∨ 16 < c) : Calls Tryd.prog 15 #[.int .i64 c] w fun e w' => e = .returned (.string ⟨#[]⟩) ∧ w = w' := by
  rcases h with h | h
  · go_enter Tryd.func15, Tryd.ntmps15
    go_wp2
    go_ret
    exact ⟨rfl, rfl⟩
  · have h0 : decide (c < 0) = false := by simp; omega
    have h1 : (17 : Int) ≤ c := by omega
    clear h
    go_enter Tryd.func15, Tryd.ntmps15
    go_wp2
    go_ret
    exact ⟨rfl, rfl⟩
theorem name_yes (k : Nat) (w : World) (hn : NmAt w) (h : k < 17) : Calls Tryd.prog 15 #[.int .i64 k] w fun e w' => e = .returned (.string (nmB k)) ∧ w = w' := by
  have hc := hn.cell h
  have h1 : decide ((17 : Int) ≤ (k : Int)) = false := by simp; omega
  have h2 : (0 : Int) ≤ (k : Int) := by omega
  have h3 : (k : Int) < 17 := by omega
  clear hn
  go_enter Tryd.func15, Tryd.ntmps15
  go_wp2
  go_ret
  exact ⟨rfl, rfl⟩

theorem nm_index {k : Nat} (h : k < 17) (w : World) : (Instr.index 58 (.agg nmA) (.int .i64 k)).run Tryd.prog w = .ok (.string (nmB k)) w := by
  rcases (show k = 0 ∨ k = 1 ∨ k = 2 ∨ k = 3 ∨ k = 4 ∨ k = 5 ∨ k = 6 ∨ k = 7 ∨ k = 8 ∨ k = 9 ∨ k = 10 ∨ k = 11 ∨ k = 12 ∨ k = 13 ∨ k = 14 ∨ k = 15 ∨ k = 16 by omega) with rfl | rfl | rfl | rfl | rfl | rfl | rfl | rfl | rfl | rfl | rfl | rfl | rfl | rfl | rfl | rfl | rfl <;> kernel_rfl
theorem ne_toList {a b : ByteArray} (h : a ≠ b) : (a.toList == b.toList) = false := by
  rw [ByteArray.toList_eq, ByteArray.toList_eq]
  simp only [beq_eq_false_iff_ne, ne_eq]
  intro e
  exact h (Go.WideShapes.bytes_inj e)
theorem eq_toList {a b : ByteArray} (h : a = b) : (a.toList == b.toList) = true := by subst h; simp
/-- What Parse returns. -/
def parsePost (s : ByteArray) (w : World) (e : Ending) (w' : World) : Prop :=
  ((∃ k : Nat, k < 17 ∧ nmB k = s ∧ e = .returned (.tuple #[.int .i64 k, .bool true])) ∨ ((∀ k, k < 17 → nmB k ≠ s) ∧ e = .returned (.tuple #[.int .i64 0, .bool false]))) ∧ w = w'
theorem parse_any (s : ByteArray) (w : World) (hn : NmAt w) : Calls Tryd.prog 12 #[.string s] w (parsePost s w) := by
  obtain ⟨t, fr, hn⟩ := hn
  have hix : ∀ k : Nat, k < 17 → ∀ w, (Instr.index 58 (.agg nmA) (.int .i64 k)).run Tryd.prog w = .ok (.string (nmB k)) w := fun k h w => nm_index h w
  have HIX := Lib.hid hix
  clear hix
  go_enter Tryd.func12, Tryd.ntmps12
  go_wp2
  refine wp_scope_jumps 0 (fun a' w' => w = w' ∧ ∃ (k : Nat) (u5 u6 u7 u8 u9 u10 u11 u12 u13 u14 u15 u16 u17 : Value), a' = { tmps := #[.string s, undef, .int .i64 0, .bool false, .int .i64 k, u5, u6, u7, u8, u9, u10, u11, u12, u13, u14, u15, u16, u17], defers := [] } ∧ k < 17 ∧ nmB k = s) (fun _ _ => 0) rfl ?_ ?_
  case refine_2 =>
    rintro a' w' ⟨rfl, k, u5, u6, u7, u8, u9, u10, u11, u12, u13, u14, u15, u16, u17, rfl, hk, hks⟩
    have hfin : parsePost s w (.returned (.tuple #[.int .i64 k, .bool true])) w := ⟨.inl ⟨k, hk, hks, rfl⟩, rfl⟩
    have HF := Lib.hid hfin
    clear hfin hks hk
    go_wp2
    simp only [Exit.jump]
    go_ret2
    exact HF.out
  go_wp2_with (refine wpList_load_row rfl 58 _ rfl 0 rfl t nmA fr _ hn Tryd.underlying58 rfl (by kernel_rfl) ?_)
  go_loop [4, 8] (fun c i => ∃ k : Nat, k ≤ 17 ∧ c = .int .i64 0 ∧ i = .int .i64 k ∧ ∀ j, j < k → nmB j ≠ s) (fun _ i => 17 - (intOf i).toNat)
  case atStart => exact ⟨0, by omega, rfl, rfl, fun j h => by omega⟩
  case round =>
    obtain ⟨k, hk, rfl, rfl, hno⟩ := hrel
    have HN := Lib.hid hno
    clear hno
    by_cases hlt : k < 17
    · have hi := HIX.out k hlt
      have hlt' : (k : Int) < 17 := by omega
      by_cases he : nmB k = s
      · subst he
        go_wp2
        go_step3
        exact ⟨rfl, rfl, k, _, _, _, _, _, _, _, _, _, _, _, _, _, rfl, hlt, rfl⟩
      · have hte := ne_toList he
        have HE := Lib.hid he
        clear he
        go_wp2
        go_round
        case rel => exact ⟨k + 1, by omega, rfl, by go_num, fun j hj => by
          rcases Nat.lt_or_ge j k with h | h
          · exact HN.out j h
          · obtain rfl : j = k := by omega
            exact HE.out⟩
        case measure => simp [intOf]; omega
    · obtain rfl : k = 17 := by omega
      clear HIX hlt
      have hfin : parsePost s w (.returned (.tuple #[.int .i64 0, .bool false])) w := ⟨.inr ⟨HN.out, rfl⟩, rfl⟩
      have HF := Lib.hid hfin
      clear hfin
      go_wp2
      simp only [Exit.jump]
      go_ret2
      exact HF.out
theorem nm_inj {j k : Nat} (hj : j < 17) (hk : k < 17) (h : nmB j = nmB k) : j = k := by
  have hall : ((List.range 17).all fun j => (List.range 17).all fun k => !(nmL.getD j [] == nmL.getD k []) || j == k) = true := by decide
  have h1 := List.all_eq_true.1 (List.all_eq_true.1 hall j (List.mem_range.2 hj)) k (List.mem_range.2 hk)
  have h2 : nmL.getD j [] = nmL.getD k [] := by
    have := congrArg (fun b : ByteArray => b.data.toList) h
    simpa [nmB] using this
  rw [h2] at h1
  simpa using h1
theorem nm_ne {k : Nat} (hk : k < 17) : nmB k ≠ ⟨#[]⟩ := by
  have hall : ((List.range 17).all fun j => !(nmL.getD j [] == [])) = true := by decide
  have h1 := List.all_eq_true.1 hall k (List.mem_range.2 hk)
  intro h
  have h2 : nmL.getD k [] = [] := by
    have := congrArg (fun b : ByteArray => b.data.toList) h
    simpa [nmB] using this
  rw [h2] at h1
  simp at h1

end Go.Proofs.YtfecccobihdopaaDoor
