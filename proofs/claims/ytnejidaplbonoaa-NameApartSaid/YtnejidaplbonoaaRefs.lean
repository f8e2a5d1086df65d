/-
  Contracts of the functions of package tollref01.
-/
import Derived.Test.YtnejidaplbonoaaSame
import Derived.Test.YtnejidaplbonoaaMake
import Derived.Deep.RegionLaw
namespace Go.Proofs.Ytnejidaplbonoaa
open Go.RowKit
set_option linter.unusedVariables false

theorem refail_any (w : World) : Calls Try.prog 52 #[] w fun e w' => e = .returned (.agg #[.slice none 0 0, .bool true]) ∧ w.alloc (.cells #[.slice none 0 0, .bool true] 41) = w' := by
  go_enter Try.func52, Try.ntmps52
  go_wp2_with fail
  exact bodyPost_ret (v := .agg #[.slice none 0 0, .bool true]) (by simp [results, Try.results52, go_sem]) rfl ⟨rfl, rfl⟩
theorem retake_bad (w : World) (k : Int) (A : Option Addr) (n c : Nat) : Calls Try.prog 53 #[.agg #[.slice A n c, .bool true], .int .i64 k] w fun e w' => e = .returned (.tuple #[.agg #[.slice none 0 0, .bool true], .slice none 0 0]) ∧ Below w.heap.size w w' := by
  go_enter Try.func53, Try.ntmps53
  go_wp2_with (first | (go_at_call 52; refine (refail_any _).mono ?_; rintro e w1 ⟨rfl, rfl⟩))
  refine bodyPost_ret (v := .tuple #[.agg #[.slice none 0 0, .bool true], .slice none 0 0]) (by simp [results, Try.results53, go_sem]) rfl ⟨rfl, ?_⟩
  exact (((Below.refl _ _).alloc (Nat.le_refl _) _).alloc (by simp) _).alloc (by rw [World.size_alloc, World.size_alloc]; omega) _
/-- Behind the append: the box before the new array, and what was there before. -/
theorem box_after {w w1 : World} {T : TypeId} {a b : Array Value} (hg : (((w.alloc (.cells a T)).alloc (.cells b T)).alloc (.cells #[] 5)).drew.grownBy w1 (some (w.heap.size + 1 + 1))) :
    Blk w1 (w.heap.size + 1) T b ∧ Blk w1 w.heap.size T a ∧ Below w.heap.size w w1 := by
  have hb0 := Blk.new (w.alloc (.cells a T)) T b
  simp only [World.size_alloc] at hb0
  have hb := (hb0.alloc (.cells #[] 5)).drew
  have ha := (((Blk.new w T a).alloc (.cells b T)).alloc (.cells #[] 5)).drew
  refine ⟨hb.grown hg (by simp), ha.grown hg (by simp; omega), ?_⟩
  refine (((((Below.refl w.heap.size w).alloc (Nat.le_refl _) (.cells a T)).alloc (by simp) (.cells b T)).alloc (by simp only [World.size_alloc]; omega) (.cells #[] 5)).drew).grown hg ?_ ?_
  · simp only [World.size_drew, World.size_alloc]; omega
  · intro k hk
    injection hk with hk
    omega
set_option maxHeartbeats 1600000 in
set_option maxRecDepth 100000 in
theorem retake_ok (w : World) (k : Nat) (q : Nat) (A : Option Addr) (n c : Nat) (l : List UInt8) (hn : n = l.length) (hc : l.length ≤ c) (hl : l.length ≤ 140737488355328) (hm : Mem w q A l) (hk : k ≤ l.length) : Calls Try.prog 53 #[.agg #[.slice A n c, .bool false], .int .i64 k] w fun e w' => ∃ A' c' v, e = .returned (.tuple #[.agg #[.slice A' (l.drop k).length c', .bool false], v]) ∧ Mem w' q A' (l.drop k) ∧ (l.drop k).length ≤ c' ∧ Own w' w.heap.size v (l.take k) ∧ Below w.heap.size w w' := by
  subst hn
  obtain ⟨i0, hi0, hz0, hs0, hb0⟩ := info_parts u8_info
  have hk0 : decide ((k : Int) < 0) = false := by simp
  have hk1 : decide ((l.length : Int) < (k : Int)) = false := by simp; omega
  have hkc : (k : Int) ≤ (c : Int) := by omega
  have hkc' : k ≤ c := by omega
  have hln : k = (l.take k).length := by rw [List.length_take]; omega
  have HLN := Lib.hid hln
  have hcut := hm.cut (k := k) (cap := c) hk hc
  have HC := Lib.hid hcut
  have ho : ∀ a b, Own (((w.alloc (.cells a 41)).alloc (.cells b 41)).alloc (.cells #[] 5)).drew (w.heap.size + 1 + 1) (.slice (some ⟨w.heap.size + 1 + 1, 0, none⟩) 0 0) [] := by
    intro a b
    have h := World.ownsRow_made (base := w.heap.size + 1 + 1) (e := 5) (size := 1) ((w.alloc (.cells a 41)).alloc (.cells b 41)) #[] 0 (by simp) (by unfold maxLen; omega) (by simp)
    simp only [World.size_alloc] at h
    exact h
  have hmm : ∀ a b, Mem (((w.alloc (.cells a 41)).alloc (.cells b 41)).alloc (.cells #[] 5)).drew q A (l.take k) := fun a b => (((hm.take k).alloc _).alloc _).alloc _
  have HO := Lib.hid ho
  have HM := Lib.hid hmm
  clear hln hcut ho hmm
  by_cases hck : c = k
  · subst hck
    go_enter Try.func53, Try.ntmps53
    go_wp2_with (first | (go_at_call 52; refine (refail_any _).mono ?_; rintro e w1 ⟨rfl, rfl⟩))
    go_region_law (first | (refine step_append_bytes rfl _ _ 28 rfl (w.heap.size + 1 + 1) i0 Try.underlying28 hi0 hz0 hs0 hb0 (.slice (some ⟨w.heap.size + 1 + 1, 0, none⟩) 0 0) [] rfl (by exact HO.out _ _) q A _ _ (l.take c) rfl HLN.out (by exact HM.out _ _) (by simp; omega) (by simp) ?_; intro v1 w1 hown1 hg1; obtain ⟨bx1, bx0, hbw1⟩ := box_after hg1; have z0 := bx0.cell 0; simp at z0; have x0 := bx1.cell 0; have x1 := bx1.cell 1; have y0 := bx1.frozen 0; have y1 := bx1.frozen 1; simp at x0 x1))
    all_goals
      go_wp2
      have hbw2 : Below w.heap.size w ((w1.setCell ⟨w.heap.size + 1, 0, none⟩ (.slice A 0 0)).setCell ⟨w.heap.size + 1, 1, none⟩ (.bool false)) := (hbw1.setCell (p := ⟨w.heap.size + 1, 0, none⟩) (by simp) _).setCell (p := ⟨w.heap.size + 1, 1, none⟩) (by simp) _
      have hown2 : Own ((w1.setCell ⟨w.heap.size + 1, 0, none⟩ (.slice A 0 0)).setCell ⟨w.heap.size + 1, 1, none⟩ (.bool false)) w.heap.size v1 (l.take c) := ((hown1.setCell (p := ⟨w.heap.size + 1, 0, none⟩) (by simp) _).setCell (p := ⟨w.heap.size + 1, 1, none⟩) (by simp) _).mono (by omega)
      refine bodyPost_ret (v := .tuple #[.agg #[.slice A 0 0, .bool false], v1]) (by simp [results, Try.results53, go_sem, x0, x1]) rfl ?_
      refine ⟨A, 0, v1, ?_, ?_, ?_, hown2, hbw2⟩
      · rw [List.length_drop, show l.length - c = 0 by omega]
      · exact Mem.below0 (by simpa using HC.out) hbw2
      · rw [List.length_drop]; omega
  · have hck' : ¬ (k = c) := fun h => hck h.symm
    go_enter Try.func53, Try.ntmps53
    go_wp2_with (first | (go_at_call 52; refine (refail_any _).mono ?_; rintro e w1 ⟨rfl, rfl⟩))
    go_region_law (first | (refine step_append_bytes rfl _ _ 28 rfl (w.heap.size + 1 + 1) i0 Try.underlying28 hi0 hz0 hs0 hb0 (.slice (some ⟨w.heap.size + 1 + 1, 0, none⟩) 0 0) [] rfl (by exact HO.out _ _) q A _ _ (l.take k) rfl HLN.out (by exact HM.out _ _) (by simp; omega) (by simp) ?_; intro v1 w1 hown1 hg1; obtain ⟨bx1, bx0, hbw1⟩ := box_after hg1; have z0 := bx0.cell 0; simp at z0; have x0 := bx1.cell 0; have x1 := bx1.cell 1; have y0 := bx1.frozen 0; have y1 := bx1.frozen 1; simp at x0 x1))
    all_goals
      go_wp2
      have hbw2 : Below w.heap.size w ((w1.setCell ⟨w.heap.size + 1, 0, none⟩ (.slice (A.map (fun x => x.add k)) (l.length - k) (c - k))).setCell ⟨w.heap.size + 1, 1, none⟩ (.bool false)) := (hbw1.setCell (p := ⟨w.heap.size + 1, 0, none⟩) (by simp) _).setCell (p := ⟨w.heap.size + 1, 1, none⟩) (by simp) _
      have hown2 : Own ((w1.setCell ⟨w.heap.size + 1, 0, none⟩ (.slice (A.map (fun x => x.add k)) (l.length - k) (c - k))).setCell ⟨w.heap.size + 1, 1, none⟩ (.bool false)) w.heap.size v1 (l.take k) := ((hown1.setCell (p := ⟨w.heap.size + 1, 0, none⟩) (by simp) _).setCell (p := ⟨w.heap.size + 1, 1, none⟩) (by simp) _).mono (by omega)
      refine bodyPost_ret (v := .tuple #[.agg #[.slice (A.map (fun x => x.add k)) (l.length - k) (c - k), .bool false], v1]) (by simp [results, Try.results53, go_sem, x0, x1]) rfl ?_
      refine ⟨(A.map (fun x => x.add k)), (c - k), v1, ?_, ?_, ?_, hown2, hbw2⟩
      · rw [List.length_drop]
      · exact Mem.below0 (by simpa [hck] using HC.out) hbw2
      · rw [List.length_drop]; omega

/-- Take of the reference, whatever the state. -/
theorem retake_any (w : World) (k : Int) (q : Nat) (A : Option Addr) (n c : Nat) (bad : Bool) (l : List UInt8) (hn : n = l.length) (hc : l.length ≤ c) (hl : l.length ≤ 140737488355328) (hm : Mem w q A l) : Calls Try.prog 53 #[.agg #[.slice A n c, .bool bad], .int .i64 k] w fun e w' => ∃ A' c' v, e = .returned (.tuple #[.agg #[.slice A' (rTake (bad, l) k).1.2.length c', .bool (rTake (bad, l) k).1.1], v]) ∧ Mem w' q A' (rTake (bad, l) k).1.2 ∧ (rTake (bad, l) k).1.2.length ≤ c' ∧ Own w' w.heap.size v (rTake (bad, l) k).2 ∧ Below w.heap.size w w' := by
  by_cases h : bad = false ∧ 0 ≤ k ∧ k ≤ l.length
  · obtain ⟨rfl, h0, hk⟩ := h
    obtain ⟨j, rfl⟩ := Int.eq_ofNat_of_zero_le h0
    have e : rTake (false, l) (j : Int) = ((false, l.drop j), l.take j) := by simp [rTake]; omega
    rw [e]
    exact retake_ok w j q A n c l hn hc hl hm (by omega)
  · have e : rTake (bad, l) k = ((true, []), []) := by unfold rTake; rw [if_neg h]
    rw [e]
    cases bad with
    | true =>
      exact (retake_bad w k A n c).mono fun e w' ⟨he, hb⟩ => ⟨none, 0, _, he, Mem.nil_ _ _ _, Nat.le_refl _, Own.nil_ _ _, hb⟩
    | false =>
      have hk : k < 0 ∨ (l.length : Int) < k := by
        rcases Int.lt_or_le k 0 with h1 | h1
        · exact .inl h1
        · rcases Int.lt_or_le (l.length : Int) k with h2 | h2
          · exact .inr h2
          · exact absurd ⟨rfl, h1, h2⟩ h
      subst hn
      rcases hk with hk | hk
      · go_enter Try.func53, Try.ntmps53
        go_wp2_with (first | (go_at_call 52; refine (refail_any _).mono ?_; rintro e w1 ⟨rfl, rfl⟩))
        refine bodyPost_ret (v := .tuple #[.agg #[.slice none 0 0, .bool true], .slice none 0 0]) (by simp [results, Try.results53, go_sem]) rfl ?_
        refine ⟨none, 0, _, rfl, Mem.nil_ _ _ _, Nat.le_refl _, Own.nil_ _ _, ?_⟩
        exact (((Below.refl _ _).alloc (Nat.le_refl _) _).alloc (by simp) _).alloc (by rw [World.size_alloc, World.size_alloc]; omega) _
      · have hk0 : decide (k < 0) = false := by simp; omega
        go_enter Try.func53, Try.ntmps53
        go_wp2_with (first | (go_at_call 52; refine (refail_any _).mono ?_; rintro e w1 ⟨rfl, rfl⟩))
        refine bodyPost_ret (v := .tuple #[.agg #[.slice none 0 0, .bool true], .slice none 0 0]) (by simp [results, Try.results53, go_sem]) rfl ?_
        refine ⟨none, 0, _, rfl, Mem.nil_ _ _ _, Nat.le_refl _, Own.nil_ _ _, ?_⟩
        exact (((Below.refl _ _).alloc (Nat.le_refl _) _).alloc (by simp) _).alloc (by rw [World.size_alloc, World.size_alloc]; omega) _

end Go.Proofs.Ytnejidaplbonoaa
