/-
  Slices of the call's own: a store into them, a read, a whole row stored elsewhere. No function of the program is named here.
-/
import Derived.Test.YtnejidaplbonoaaBytes
namespace Go.Proofs.Ytnejidaplbonoaa
open Go.RowKit
set_option linter.unusedVariables false

theorem Own.row {w : World} {B : Nat} {v : Value} {l : List UInt8} (h : Own w B v l) {g : Nat} (hg : g < B) (ds : Array Value) : Own (w.setRow g ds) B v l :=
  h.keep fun k hk => setRow_other w g k ds (by have := (World.ownsRow.lt h k hk).1; omega)
/-- A byte stored into a slice of the call's own. -/
theorem own_set {w : World} {B n c q : Nat} {l : List UInt8} (h : Own w B (.slice (some ⟨q, 0, none⟩) n c) l) (i : Nat) (x : UInt8) (hi : i < l.length) : Own (w.setCell ⟨q, i, none⟩ (.int .u8 (x.toNat : Int))) B (.slice (some ⟨q, 0, none⟩) n c) (l.set i x) := by
  obtain ⟨h1, h2⟩ := h
  refine ⟨by simp, ?_⟩
  rcases h2 with ⟨hv, hn⟩ | ⟨g, cap, cur, hv, hg, hh, hnc, hcm, hsz, ht⟩
  · cases hv
  · injection hv with e1 e2 e3
    injection e1 with e1
    injection e1 with e1 _ _
    subst e1 e2 e3
    refine .inr ⟨q, c, cur.setIfInBounds i (bv x), by simp, hg, (Blk.put (w := w) (g := q) hh i (bv x)), by simpa using hnc, hcm, by simpa using hsz, ?_⟩
    rw [Array.toList_setIfInBounds, List.length_set, List.take_set, ht, List.map_set]
/-- What a place of a slice of the call's own holds, and that it may be written. -/
theorem own_at {w : World} {B n c q : Nat} {l : List UInt8} (h : Own w B (.slice (some ⟨q, 0, none⟩) n c) l) (i : Nat) (hi : i < l.length) : w.cell? ⟨q, i, none⟩ = some (.int .u8 ((l[i]'hi).toNat : Int)) ∧ w.frozen? ⟨q, i, none⟩ = false ∧ B ≤ q := by
  obtain ⟨A, q', c', hv, _, _, hm, hf, _⟩ := h.form
  injection hv with e1 e2 e3
  have hne : l ≠ [] := fun e => by subst e; simp at hi
  obtain ⟨hB, hA, hfz⟩ := hf hne
  rw [← e1] at hA
  injection hA with hA
  injection hA with hA _ _
  subst hA
  refine ⟨?_, hfz i, hB⟩
  rw [← e1] at hm
  obtain ⟨o, ho, hc⟩ := hm.at_ hi
  injection ho with ho
  injection ho with _ ho _
  subst ho
  rw [Nat.zero_add] at hc
  exact hc
/-- A whole row read, under a guard. -/
theorem wpList_load_row_w {P : Program} {ops : Array Oper} {rest : List Oper} {o : Oper} {a : Act} {w : World} {Q : Exit → Act → World → Prop} (hw : Region.wanted o (yielded ops a.tmps) = true) (ty : TypeId) (x : Operand) (ho : o.op = .load ty x)
    (g : Nat) (hx : a.eval x = .pointer (some ⟨g, 0, none⟩)) (t : TypeId) (cs : Array Value) (fr : Nat × Nat) (d : TypeDesc) (hg : w.heap[g]? = some (.cells cs t fr))
    (hu : P.underlying ty = some d) (hd : (match d with | .struct _ | .array _ _ => true | _ => false) = true) (hi : (P.info? ty).map (·.size) = some cs.size)
    (h : wpList P ops Q rest (a.put o.dst (.agg cs)) w) : wpList P ops Q (o :: rest) a w :=
  wpList_step fun K hK => by
    rw [if_pos hw]
    exact wp_load_row ty x ho g hx t cs fr d hg hu hd hi (hK _ _ h)
end Go.Proofs.Ytnejidaplbonoaa
