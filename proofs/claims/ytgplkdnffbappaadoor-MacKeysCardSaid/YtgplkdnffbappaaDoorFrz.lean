/-
  Marking a block of a constant's bytes; merging ways of a region that meet again.
-/
import Derived.Test.YtgplkdnffbappaaDoorShaMisc
import Derived.OrdersHeld
import Derived.Deep.RegionHeld
namespace Go.Proofs.YtgplkdnffbappaaDoor
open Go.RowKit
set_option linter.unusedVariables false
set_option linter.unusedSimpArgs false

/-- A block marked behind its last cell. -/
def frz (w : World) (g n : Nat) : World := w.freeze ⟨g, n, none⟩ 1
section
variable {w w' : World} {g n q : Nat} {A : Option Addr}
theorem frz_size (w : World) (g n : Nat) : (frz w g n).heap.size = w.heap.size := by
  unfold frz World.freeze
  rw [if_neg (by decide)]
  simp
theorem frz_other (w : World) (g n i : Nat) (h : i ≠ g) : (frz w g n).heap[i]? = w.heap[i]? := by
  unfold frz World.freeze
  rw [if_neg (by decide)]
  simp only [Array.getElem?_modify]
  rw [if_neg (Ne.symm h)]
theorem frz_cell (w : World) (g n : Nat) (a : Addr) : (frz w g n).cell? a = w.cell? a := by
  by_cases h : a.block = g
  · unfold World.cell? frz World.freeze
    rw [if_neg (by decide)]
    simp only [Array.getElem?_modify, h, if_true]
    cases w.heap[g]? with
    | none => rfl
    | some o => cases o <;> rfl
  · exact World.cell?_of_block (frz_other w g n _ h)
theorem frz_gb (w : World) (g n : Nat) : w.grownBy (frz w g n) (some g) :=
  ⟨by unfold frz World.freeze; rw [if_neg (by decide)], by unfold frz World.freeze; rw [if_neg (by decide)], by unfold frz World.freeze; rw [if_neg (by decide)], by rw [frz_size]; exact Nat.le_refl _, fun i _ hne => frz_other w g n i fun e => hne (by rw [e])⟩
theorem Mem.frz {l : List UInt8} (h : Mem w q A l) (g n : Nat) : Mem (frz w g n) q A l := by
  rcases h with h | ⟨o, ho, hc⟩
  · exact .inl h
  · exact .inr ⟨o, ho, fun j b hj => by rw [frz_cell]; exact hc j b hj⟩
theorem MemM.frz {L : List (List UInt8)} (h : MemM w q A L) (g n : Nat) : MemM (frz w g n) q A L := by
  rcases h with h | ⟨o, ho, hc⟩
  · exact .inl h
  · refine .inr ⟨o, ho, fun j l hj => ?_⟩
    obtain ⟨A', q', c', h1, h2, h3⟩ := hc j l hj
    exact ⟨A', q', c', by rw [frz_cell]; exact h1, h2.frz g n, h3⟩
end
theorem run_conv_const {P : Program} (w : World) (g : Nat) (t e : TypeId) (cs : Array Value) (n c : Nat) (h : Blk w g e cs) (ht : P.underlying t = some (.slice e)) (he : P.underlying e = some (.int .u8)) :
    (convert t t (.slice (some ⟨g, 0, none⟩) n c)).run P w = .ok (.slice (some ⟨g, 0, none⟩) n c) (frz w g cs.size) := by
  have hsh : w.shape? g = some (e, cs.size) := by
    unfold World.shape?
    unfold Blk at h
    rw [h]
  simp [convert, run_underlying ht, run_underlying he, markStringish, hsh, frz]

/-- Ways that meet again: what is left is shown once, for whatever the ways have laid. -/
theorem meet3 {G : Prop} {P : Nat → Nat → Nat → World → Prop} (F : Nat → Nat → Nat → World → Prop) (main : (∀ a b c Y, F a b c Y → P a b c Y) → G) (rest : ∀ a b c Y, F a b c Y → P a b c Y) : G := main rest
theorem listed_as {P : Program} {md : Region.Mode} {ops : Array Oper} {Q : Exit → Act → World → Prop} {S : World → Prop} {fuel : Nat} {listed : Array Bool} {a : Act} {w : World} (l : Array Bool) (h : listed = l) (hw : wpAnyH P md ops Q S fuel l a w) : wpAnyH P md ops Q S fuel listed a w := h ▸ hw
end Go.Proofs.YtgplkdnffbappaaDoor
