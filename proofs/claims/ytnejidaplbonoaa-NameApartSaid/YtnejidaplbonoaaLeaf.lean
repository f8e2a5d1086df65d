/-
  Contracts of the small functions of package wire: a reader's state in memory, and what Bad, Left, fail, next do to it; bytes.Clone.
-/
import Derived.Test.YtnejidaplbonoaaClone
import Derived.Test.YtnejidaplbonoaaWords
import Derived.WalkSpells
import Derived.WalkLawsBesides
import Derived.BigQuiet
import Derived.Deep.QuietTactic
import Derived.Lib.Hide
namespace Go.Proofs.Ytnejidaplbonoaa
open Go.RowKit
set_option linter.unusedVariables false

/-! ### What the document says, as plain functions -/
/-- A number of bytes, the highest one first. -/
def beNum (l : List UInt8) : Nat := l.foldl (fun x b => x * 256 + b.toNat) 0
/-- A reader's state: has a read failed, and what is left. -/
abbrev RS := Bool × List UInt8
def rTake (s : RS) (n : Int) : RS × List UInt8 :=
  if s.1 = false ∧ 0 ≤ n ∧ n ≤ s.2.length then ((false, s.2.drop n.toNat), s.2.take n.toNat) else ((true, []), [])
def rNum (s : RS) (k : Int) : RS × Nat :=
  if 1 ≤ k ∧ k ≤ 8 then ((rTake s k).1, beNum (rTake s k).2) else ((true, []), 0)
def rStr (s : RS) (k : Int) : RS × List UInt8 :=
  if (rNum s k).1.1 = false ∧ (rNum s k).2 ≤ (rNum s k).1.2.length then rTake (rNum s k).1 (rNum s k).2 else ((true, []), [])

theorem beNum_go (l : List UInt8) : ∀ x : Nat, l.foldl (fun x b => x * 256 + b.toNat) x = x * 256 ^ l.length + beNum l := by
  induction l with
  | nil => intro x; simp [beNum]
  | cons b r ih =>
    intro x
    have h1 := ih (x * 256 + b.toNat)
    have h2 := ih (0 * 256 + b.toNat)
    simp only [List.foldl_cons, List.length_cons, beNum] at *
    rw [h1, h2, Nat.pow_succ]
    simp only [Nat.zero_mul, Nat.zero_add, Nat.add_mul]
    rw [Nat.mul_assoc, Nat.mul_comm 256]
    omega
theorem beNum_snoc (l : List UInt8) (b : UInt8) : beNum (l ++ [b]) = beNum l * 256 + b.toNat := by
  simp [beNum]
theorem beNum_append (l m : List UInt8) : beNum (l ++ m) = beNum l * 256 ^ m.length + beNum m := by
  have := beNum_go m (beNum l)
  simp only [beNum, List.foldl_append] at *
  exact this
theorem beNum_lt (l : List UInt8) : beNum l < 256 ^ l.length := by
  induction l with
  | nil => simp [beNum]
  | cons b r ih =>
    have h := beNum_append [b] r
    have hb : beNum [b] = b.toNat := by simp [beNum]
    have hlt := byte_lt b
    simp only [List.singleton_append] at h
    rw [h, hb, List.length_cons, Nat.pow_succ]
    have : b.toNat * 256 ^ r.length + 256 ^ r.length ≤ 256 ^ r.length * 256 := by
      rw [← Nat.succ_mul, Nat.mul_comm]
      exact Nat.mul_le_mul_left _ hlt
    omega
theorem rTake_len (s : RS) (n : Int) : (rTake s n).1.2.length ≤ s.2.length := by
  unfold rTake
  split
  · simp
  · simp
theorem rTake_out (s : RS) (n : Int) : (rTake s n).2.length ≤ s.2.length := by
  unfold rTake
  split
  · simp only [List.length_take]; omega
  · simp
theorem rTake_out_len (s : RS) (n : Int) (h : (rTake s n).1.1 = false) : ((rTake s n).2.length : Int) = n := by
  unfold rTake at *
  split at h
  · rename_i hc
    rw [if_pos hc]
    simp only [List.length_take]
    omega
  · cases h

/-! ### Memory -/
/-- A reader at block g: the bytes l (in block q) are left; 'bad': has a read failed? -/
structure Rd (w : World) (g q : Nat) (bad : Bool) (l : List UInt8) : Prop where
  blk : ∃ A c, Blk w g 57 #[.slice A l.length c, .bool bad] ∧ Mem w q A l ∧ l.length ≤ c ∧ c ≤ maxLen
  ne : q ≠ g
  len : l.length ≤ 140737488355328

theorem Rd.grown {w w' : World} {g q : Nat} {bad : Bool} {l : List UInt8} {row : Option Nat} (h : Rd w g q bad l) (hg : w.grownBy w' row) (h1 : some g ≠ row) (h2 : some q ≠ row) : Rd w' g q bad l := by
  obtain ⟨A, c, hb, hm, hc⟩ := h.blk
  exact ⟨⟨A, c, hb.grown hg h1, hm.grown hg h2, hc⟩, h.ne, h.len⟩
theorem Rd.grown2 {w w' : World} {g q : Nat} {bad : Bool} {l : List UInt8} {row : Option Nat} (h : Rd w g q bad l) (hg : w.grownBy w' row) (h1 : some g ≠ row) (h2 : l = [] ∨ some q ≠ row) : Rd w' g q bad l := by
  rcases h2 with rfl | h2
  · obtain ⟨A, c, hb, hm, hc⟩ := h.blk
    exact ⟨⟨A, c, hb.grown hg h1, .inl rfl, hc⟩, h.ne, h.len⟩
  · exact h.grown hg h1 h2
theorem Rd.below {w w' : World} {g q : Nat} {bad : Bool} {l : List UInt8} (h : Rd w g q bad l) (hb : Below w.heap.size w w') : Rd w' g q bad l :=
  h.grown (gb_of_below hb Option.none) (by simp) (by simp)
theorem Rd.alloc {w : World} {g q : Nat} {bad : Bool} {l : List UInt8} (h : Rd w g q bad l) (o : Obj) : Rd (w.alloc o) g q bad l :=
  h.grown (World.grownBy_alloc w o Option.none) (by simp) (by simp)
theorem Rd.drewN {w : World} {g q : Nat} {bad : Bool} {l : List UInt8} (h : Rd w g q bad l) (n : Nat) : Rd (w.drewN n) g q bad l := ⟨h.blk, h.ne, h.len⟩
theorem Rd.lt {w : World} {g q : Nat} {bad : Bool} {l : List UInt8} (h : Rd w g q bad l) : g < w.heap.size := by
  obtain ⟨A, c, hb, _⟩ := h.blk
  exact hb.lt

/-! ### Contracts -/
theorem isWidth_yes (k : Int) (w : World) (h1 : 1 ≤ k) (h2 : k ≤ 8) : Calls Try.prog 47 #[.int .i64 k] w fun e w' => e = .returned (.bool true) ∧ w = w' := by
  go_enter Try.func47, Try.ntmps47
  go_wp2
  go_ret
  exact ⟨rfl, rfl⟩
theorem isWidth_no (k : Int) (w : World) (h1 : k < 1 ∨ 8 < k) : Calls Try.prog 47 #[.int .i64 k] w fun e w' => e = .returned (.bool false) ∧ w = w' := by
  rcases h1 with h1 | h1
  · go_enter Try.func47, Try.ntmps47
    go_wp2
    go_ret
    exact ⟨rfl, rfl⟩
  · have h2 : 1 ≤ k := by omega
    have h3 : decide (k ≤ 8) = false := by simp; omega
    go_enter Try.func47, Try.ntmps47
    go_wp2
    go_ret
    exact ⟨rfl, rfl⟩
theorem bad_nil (w : World) : Calls Try.prog 37 #[.pointer none] w fun e w' => e = .returned (.bool true) ∧ w = w' := by
  go_enter Try.func37, Try.ntmps37
  go_wp2
  go_ret
  exact ⟨rfl, rfl⟩
theorem bad_any (w : World) {g q : Nat} {bad : Bool} {l : List UInt8} (h : Rd w g q bad l) : Calls Try.prog 37 #[.pointer (some ⟨g, 0, none⟩)] w fun e w' => e = .returned (.bool bad) ∧ w = w' := by
  obtain ⟨A, c, hb, hm, hc, hcm⟩ := h.blk
  have c0 : w.cell? ⟨g, 0, none⟩ = some (.slice A l.length c) := hb.cell 0
  have c1 : w.cell? ⟨g, 1, none⟩ = some (.bool bad) := hb.cell 1
  clear h hb hm
  go_enter Try.func37, Try.ntmps37
  go_wp2
  go_ret
  exact ⟨rfl, rfl⟩
theorem left_nil (w : World) : Calls Try.prog 23 #[.pointer none] w fun e w' => e = .returned (.int .i64 0) ∧ w = w' := by
  go_enter Try.func23, Try.ntmps23
  go_wp2
  go_ret
  exact ⟨rfl, rfl⟩
theorem left_any (w : World) {g q : Nat} {bad : Bool} {l : List UInt8} (h : Rd w g q bad l) : Calls Try.prog 23 #[.pointer (some ⟨g, 0, none⟩)] w fun e w' => e = .returned (.int .i64 l.length) ∧ w = w' := by
  obtain ⟨A, c, hb, hm, hc, hcm⟩ := h.blk
  have c0 : w.cell? ⟨g, 0, none⟩ = some (.slice A l.length c) := hb.cell 0
  have c1 : w.cell? ⟨g, 1, none⟩ = some (.bool bad) := hb.cell 1
  clear h hb hm
  go_enter Try.func23, Try.ntmps23
  go_wp2
  go_ret
  exact ⟨rfl, rfl⟩
theorem fail_nil (w : World) : Calls Try.prog 49 #[.pointer none] w fun e w' => e = .returned (.tuple #[]) ∧ w = w' := by
  go_enter Try.func49, Try.ntmps49
  go_wp2
  refine bodyPost_ret (results_none rfl _ _ _) rfl ?_
  exact ⟨rfl, rfl⟩
theorem fail_any (w : World) {g q : Nat} {bad : Bool} {l : List UInt8} (h : Rd w g q bad l) : Calls Try.prog 49 #[.pointer (some ⟨g, 0, none⟩)] w fun e w' => e = .returned (.tuple #[]) ∧ Rd w' g q true [] ∧ w.grownBy w' (some g) := by
  obtain ⟨A, c, hb, hm, hc, hcm⟩ := h.blk
  have c0 : w.cell? ⟨g, 0, none⟩ = some (.slice A l.length c) := hb.cell 0
  have c1 : w.cell? ⟨g, 1, none⟩ = some (.bool bad) := hb.cell 1
  have f0 := hb.frozen 0
  have f1 := hb.frozen 1
  go_enter Try.func49, Try.ntmps49
  go_wp2
  go_end0
  have e1 : Blk ((w.setCell ⟨g, 0, none⟩ (.slice none 0 0)).setCell ⟨g, 1, none⟩ (.bool true)) g 57 #[.slice none 0 0, .bool true] := (hb.put 0 _).put 1 _
  have e2 : w.grownBy ((w.setCell ⟨g, 0, none⟩ (.slice none 0 0)).setCell ⟨g, 1, none⟩ (.bool true)) (some g) :=
    gb_setCell (p := ⟨g, 1, none⟩) (gb_setCell (p := ⟨g, 0, none⟩) (World.grownBy.refl w _) (.inl rfl) _) (.inl rfl) _
  exact ⟨rfl, ⟨⟨none, 0, e1, Mem.nil_ _ _ _, Nat.le_refl _, by unfold maxLen; omega⟩, h.ne, by simp⟩, e2⟩

theorem next_bad (w : World) (k : Int) {g q : Nat} {l : List UInt8} (h : Rd w g q true l) : Calls Try.prog 51 #[.pointer (some ⟨g, 0, none⟩), .int .i64 k] w fun e w' => e = .returned (.slice none 0 0) ∧ Rd w' g q true [] ∧ w.grownBy w' (some g) := by
  go_enter Try.func51, Try.ntmps51
  go_wp2_with (first | (go_at_call 37; refine (bad_any _ h).mono ?_; rintro e w' ⟨rfl, rfl⟩) | (go_at_call 49; refine (fail_any _ h).mono ?_; rintro e w' ⟨rfl, h1, h2⟩))
  go_ret
  exact ⟨rfl, h1, h2⟩
theorem next_short (w : World) (k : Int) {g q : Nat} {l : List UInt8} (h : Rd w g q false l) (hk : k < 0 ∨ (l.length : Int) < k) : Calls Try.prog 51 #[.pointer (some ⟨g, 0, none⟩), .int .i64 k] w fun e w' => e = .returned (.slice none 0 0) ∧ Rd w' g q true [] ∧ w.grownBy w' (some g) := by
  obtain ⟨A, c, hb, hm, hc, hcm⟩ := h.blk
  have c0 : w.cell? ⟨g, 0, none⟩ = some (.slice A l.length c) := hb.cell 0
  rcases hk with hk | hk
  · go_enter Try.func51, Try.ntmps51
    go_wp2_with (first | (go_at_call 37; refine (bad_any _ h).mono ?_; rintro e w' ⟨rfl, rfl⟩) | (go_at_call 49; refine (fail_any _ h).mono ?_; rintro e w' ⟨rfl, h1, h2⟩))
    go_ret
    exact ⟨rfl, h1, h2⟩
  · have hk0 : decide (k < 0) = false := by simp; omega
    go_enter Try.func51, Try.ntmps51
    go_wp2_with (first | (go_at_call 37; refine (bad_any _ h).mono ?_; rintro e w' ⟨rfl, rfl⟩) | (go_at_call 49; refine (fail_any _ h).mono ?_; rintro e w' ⟨rfl, h1, h2⟩))
    go_ret
    exact ⟨rfl, h1, h2⟩
theorem next_ok (w : World) (k : Int) {g q : Nat} {l : List UInt8} (h : Rd w g q false l) (h0 : 0 ≤ k) (hk : k ≤ l.length) : Calls Try.prog 51 #[.pointer (some ⟨g, 0, none⟩), .int .i64 k] w fun e w' => ∃ A, e = .returned (.slice A k.toNat k.toNat) ∧ Mem w' q A (l.take k.toNat) ∧ Rd w' g q false (l.drop k.toNat) ∧ w.grownBy w' (some g) := by
  obtain ⟨A, c, hb, hm, hc, hcm⟩ := h.blk
  have c0 : w.cell? ⟨g, 0, none⟩ = some (.slice A l.length c) := hb.cell 0
  have f0 := hb.frozen 0
  have hcut := hm.cut (k := k.toNat) (cap := c) (by omega) hc
  have hfin : ∀ B, B = (if c = k.toNat then A else A.map (·.add k.toNat)) → Mem (w.setCell ⟨g, 0, none⟩ (.slice B (l.length - k.toNat) (c - k.toNat))) q A (l.take k.toNat) ∧ Rd (w.setCell ⟨g, 0, none⟩ (.slice B (l.length - k.toNat) (c - k.toNat))) g q false (l.drop k.toNat) ∧ w.grownBy (w.setCell ⟨g, 0, none⟩ (.slice B (l.length - k.toNat) (c - k.toNat))) (some g) := by
    intro B hB
    have b1 : Blk (w.setCell ⟨g, 0, none⟩ (.slice B (l.length - k.toNat) (c - k.toNat))) g 57 #[.slice B (l.drop k.toNat).length (c - k.toNat), .bool false] := by
      rw [List.length_drop]
      exact hb.put 0 _
    refine ⟨(hm.take _).setCell h.ne _, ⟨⟨B, _, b1, ?_, by rw [List.length_drop]; omega, by omega⟩, h.ne, by have := h.len; rw [List.length_drop]; omega⟩, gb_setCell (p := ⟨g, 0, none⟩) (World.grownBy.refl w _) (.inl rfl) _⟩
    subst hB
    exact hcut.setCell h.ne _
  have HF := Lib.hid hfin
  clear hfin hcut
  have hk0 : decide (k < 0) = false := by simp; omega
  have hk1 : decide ((l.length : Int) < k) = false := by simp; omega
  go_enter Try.func51, Try.ntmps51
  go_wp2_with (first | (go_at_call 37; refine (bad_any _ h).mono ?_; rintro e w' ⟨rfl, rfl⟩) | (go_at_call 49; refine (fail_any _ h).mono ?_; rintro e w' ⟨rfl, h1, h2⟩))
  · have hck : c = k.toNat := by assumption
    go_ret
    have := HF.out A (by rw [if_pos hck])
    rw [show c - k.toNat = 0 by omega] at this
    exact ⟨A, rfl, this⟩
  · have hck : ¬ c = k.toNat := by assumption
    go_ret
    exact ⟨_, rfl, HF.out _ (by rw [if_neg hck])⟩

/-- The three ways of 'next' in one. -/
theorem next_any (w : World) (k : Int) {g q : Nat} {bad : Bool} {l : List UInt8} (h : Rd w g q bad l) : Calls Try.prog 51 #[.pointer (some ⟨g, 0, none⟩), .int .i64 k] w fun e w' => ∃ A c, e = .returned (.slice A (rTake (bad, l) k).2.length c) ∧ Mem w' q A (rTake (bad, l) k).2 ∧ Rd w' g q (rTake (bad, l) k).1.1 (rTake (bad, l) k).1.2 ∧ w.grownBy w' (some g) := by
  cases bad with
  | true =>
    refine (next_bad w k h).mono fun e w' ⟨he, h1, h2⟩ => ?_
    have e1 : rTake (true, l) k = ((true, []), []) := by simp [rTake]
    rw [e1]
    exact ⟨none, 0, he, Mem.nil_ _ _ _, h1, h2⟩
  | false =>
    by_cases hk : 0 ≤ k ∧ k ≤ l.length
    · refine (next_ok w k h hk.1 hk.2).mono fun e w' ⟨A, he, hm, h1, h2⟩ => ?_
      have e1 : rTake (false, l) k = ((false, l.drop k.toNat), l.take k.toNat) := by simp [rTake, hk]
      rw [e1]
      refine ⟨A, k.toNat, ?_, hm, h1, h2⟩
      rw [he]
      simp only [List.length_take]
      rw [Nat.min_eq_left (by omega)]
    · refine (next_short w k h (by omega)).mono fun e w' ⟨he, h1, h2⟩ => ?_
      have e1 : rTake (false, l) k = ((true, []), []) := by
        unfold rTake
        rw [if_neg]
        rintro ⟨_, h2, h3⟩
        exact hk ⟨h2, h3⟩
      rw [e1]
      exact ⟨none, 0, he, Mem.nil_ _ _ _, h1, h2⟩

end Go.Proofs.Ytnejidaplbonoaa
