/-
  Small things that the laws of layer 1 share.
-/
import Derived.Test.YtocllhenifgkhaaAwake
import Derived.Test.YtocllhenifgkhaaOpen
namespace Go.Proofs.Ytocllhenifgkhaa
open Go.RowKit
set_option linter.unusedVariables false

theorem Own.mem {w : World} {B : Nat} {A : Option Addr} {n c : Nat} {l : List UInt8} (h : Own w B (.slice A n c) l) : n = l.length ∧ ∃ q, Mem w q A l := by
  obtain ⟨A', q, c', e, _, _, hm, _⟩ := h.form
  injection e with e1 e2 e3
  subst e1 e2
  exact ⟨rfl, q, hm⟩
theorem ptr_not_nil (g : Nat) (W : World) : (binOp .eql 25 (.pointer (some ⟨g, 0, none⟩)) (.pointer none)).run Try.prog W = .ok (.bool false) W := by kernel_rfl
/-- A list of two slices, just laid. -/
theorem memM_two {w : World} {A1 A2 : Option Addr} {q1 q2 c1 c2 : Nat} {l1 l2 : List UInt8} (h1 : Mem w q1 A1 l1) (h2 : Mem w q2 A2 l2) :
    MemM (w.alloc (.cells #[.slice A1 l1.length c1, .slice A2 l2.length c2] 22)) w.heap.size (some ⟨w.heap.size, 0, none⟩) [l1, l2] := by
  refine .inr ⟨0, rfl, fun j l hj => ?_⟩
  have hbk := Blk.new w 22 #[.slice A1 l1.length c1, .slice A2 l2.length c2]
  match j, hj with
  | 0, hj =>
    simp only [List.getElem?_cons_zero, Option.some.injEq] at hj
    subst hj
    exact ⟨A1, q1, c1, by rw [hbk.cell]; rfl, h1.alloc _⟩
  | 1, hj =>
    simp only [List.getElem?_cons_succ, List.getElem?_cons_zero, Option.some.injEq] at hj
    subst hj
    exact ⟨A2, q2, c2, by rw [hbk.cell]; rfl, h2.alloc _⟩

end Go.Proofs.Ytocllhenifgkhaa
