/-
  The text of an error: package fault's part around the text of what is wrapped; the text of a code is a premise.
-/
import Derived.Test.YtfecccobihdopaaDoorNames
import Derived.Deep.RegionWith
namespace Go.Proofs.YtfecccobihdopaaDoor
open Go.RowKit
set_option linter.unusedVariables false

theorem below_drew {B : Nat} {w w' : World} (h : Below B w w') : Below B w w'.drew := ⟨h.os, h.tape, h.output, h.size, h.block⟩
def recvOf : Value → Value
  | .iface _ x => x
  | v => v
def fnOf : Err → Nat
  | .code _ => 43
  | .fault _ _ => 58
  | .part _ _ => 60
def textOf (t : ByteArray) : Err → ByteArray
  | .code _ => t
  | .fault _ _ => t
  | .part s e => (s ++ ⟨#[58, 32]⟩) ++ textOf t e

theorem methodErrC (c : Int) (w : World) : (Go.method 234 34 (.int .i64 c) "Error").run Tryd.prog w = .ok (43, .int .i64 c) w := by kernel_rfl
theorem methodErrF (x y : Value) (w : World) : (Go.method 234 45 (.agg #[x, y]) "Error").run Tryd.prog w = .ok (58, .agg #[x, y]) w := by kernel_rfl
theorem methodErrP (a : Option Addr) (w : World) : (Go.method 234 46 (.pointer a) "Error").run Tryd.prog w = .ok (60, .pointer a) w := by kernel_rfl

/-- The text of the code c is t, in every world that keeps Tbl. -/
structure CodeText (Tbl : World → Prop) (c : Int) (t : ByteArray) : Prop where
  keep : ∀ w w', Tbl w → Below w.heap.size w w' → Tbl w'
  calls : ∀ w, Tbl w → Calls Tryd.prog 43 #[.int .i64 c] w fun e w' => e = .returned (.string t) ∧ Below w.heap.size w w'
section
variable {Tbl : World → Prop} {c : Int} {t : ByteArray}
theorem textF_any (h : CodeText Tbl c t) (a : Int) (w : World) (ht : Tbl w) : Calls Tryd.prog 58 #[.agg #[.int .i64 c, .int .i64 a]] w fun e w' => e = .returned (.string t) ∧ Below w.heap.size w w' := by
  have hb := (Below.refl w.heap.size w).alloc (Nat.le_refl _) (.cells #[.int .i64 c, .int .i64 a] 45)
  have hc := h.calls _ (h.keep _ _ ht hb)
  have HC := Lib.hid hc
  have HB := Lib.hid hb
  clear hc hb ht h
  go_enter Tryd.func58, Tryd.ntmps58
  go_wp2_with (first | (go_at_call 43; refine HC.out.mono ?_; rintro e9 w9 ⟨rfl, h9⟩))
  go_ret
  exact ⟨rfl, HB.out.trans (h9.mono (by simp))⟩
set_option maxHeartbeats 1000000 in
theorem text_any (h : CodeText Tbl c t) : ∀ (er : Err) (v : Value) (w : World), er.codeOf = c → (textOf t er).size ≤ 1000000 → ErrAt w v er → Tbl w →
    Calls Tryd.prog (fnOf er) #[recvOf v] w fun e w' => e = .returned (.string (textOf t er)) ∧ Below w.heap.size w w' := by
  intro er
  induction er with
  | code d =>
    intro v w hc hs hv ht
    obtain rfl : d = c := hc
    unfold ErrAt at hv
    subst hv
    exact h.calls w ht
  | fault d a =>
    intro v w hc hs hv ht
    obtain rfl : d = c := hc
    unfold ErrAt at hv
    subst hv
    exact textF_any h a w ht
  | part s e ih =>
    intro v w hc hs hv ht
    obtain ⟨b, u, rfl, hb, hu⟩ := hv
    have hsz : (textOf t (.part s e)).size = s.size + 2 + (textOf t e).size := by
      show ((s ++ ⟨#[58, 32]⟩) ++ textOf t e).size = _
      rw [ByteArray.size_append', ByteArray.size_append']
      rfl
    have hi := ih u w.drew hc (by omega) (hu.keep fun _ _ => rfl) (h.keep _ _ ht (below_drew (Below.refl _ _)))
    have HI := Lib.hid hi
    have n1 : ¬ (9223372036854775807 < s.size + 2) := by omega
    have n2 : ¬ (9223372036854775807 < s.size + 2 + (textOf t e).size) := by omega
    have c0 := hb.cell 0
    have c1 := hb.cell 1
    simp only [List.getElem?_toArray, List.getElem?_cons_zero, List.getElem?_cons_succ] at c0 c1
    have hbl := hb.lt
    have mC := @methodErrC
    have mF := methodErrF
    have mP := methodErrP
    clear hi ih ht h hb hc hsz hs
    show Calls Tryd.prog 60 #[.pointer (some ⟨b, 0, none⟩)] w _
    cases e with
    | code d =>
      unfold ErrAt at hu
      subst hu
      go_enter Tryd.func60, Tryd.ntmps60
      go_wp2
      go_region_with (go_at_call 43; refine HI.out.mono ?_; rintro e9 w9 ⟨rfl, h9⟩; have d0 := ((bcell h9).1 b 0 hbl).trans c0)
      all_goals (try go_wp2)
      all_goals (go_ret; exact ⟨rfl, (below_drew (Below.refl _ _)).trans h9⟩)
    | fault d a =>
      unfold ErrAt at hu
      subst hu
      go_enter Tryd.func60, Tryd.ntmps60
      go_wp2
      go_region_with (go_at_call 58; refine HI.out.mono ?_; rintro e9 w9 ⟨rfl, h9⟩; have d0 := ((bcell h9).1 b 0 hbl).trans c0)
      all_goals (try go_wp2)
      all_goals (go_ret; exact ⟨rfl, (below_drew (Below.refl _ _)).trans h9⟩)
    | part s2 e2 =>
      obtain ⟨b2, u2, rfl, _, _⟩ := hu
      go_enter Tryd.func60, Tryd.ntmps60
      go_wp2
      go_region_with (go_at_call 60; refine HI.out.mono ?_; rintro e9 w9 ⟨rfl, h9⟩; have d0 := ((bcell h9).1 b 0 hbl).trans c0)
      all_goals (try go_wp2)
      all_goals (go_ret; exact ⟨rfl, (below_drew (Below.refl _ _)).trans h9⟩)
end

end Go.Proofs.YtfecccobihdopaaDoor
