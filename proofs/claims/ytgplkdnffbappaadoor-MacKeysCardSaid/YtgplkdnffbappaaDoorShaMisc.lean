/-
  Small laws of digests, lists and cells that several stages share.
-/
import Derived.Test.YtgplkdnffbappaaDoorShaSum
import Derived.Lib.SmallJoins
namespace Go.Proofs.YtgplkdnffbappaaDoor
open Go.RowKit
set_option linter.unusedVariables false
set_option linter.unusedSimpArgs false

theorem dig_len (m : List UInt8) : (digest m).length = 32 := by simp [digest, dig32]
theorem memM_one {w : World} {A1 : Option Addr} {q1 c1 g : Nat} {l1 : List UInt8} (hg : g = w.heap.size) (h1 : Mem w q1 A1 l1) (hc : l1.length ≤ c1) :
    MemM (w.alloc (.cells #[.slice A1 l1.length c1] 22)) g (some ⟨g, 0, none⟩) [l1] := by
  subst hg
  refine .inr ⟨0, rfl, fun j l hj => ?_⟩
  rcases j with _ | j
  · obtain rfl : l1 = l := by simpa using hj
    exact ⟨A1, q1, c1, by rw [(Blk.new w 22 #[.slice A1 l1.length c1]).cell]; rfl, h1.alloc _, hc⟩
  · simp at hj
theorem list_cell {w : World} {g : Nat} {t : TypeId} {l : List UInt8} (h : Blk w g t (l.map bv).toArray) (k : Nat) (hk : k < l.length) : w.cell? ⟨g, k, none⟩ = some (.int .u8 ((l.getD k 0).toNat : Int)) := by
  rw [h.cell, gA_list, gA_at _ _ hk]
  rfl
theorem mem_mark {w : World} {l : List UInt8} {cs : Array Value} {t : TypeId} {fr : Nat × Nat} {g : Nat} (hg : g = w.heap.size) (h : cs = (l.map bv).toArray) : Mem (w.alloc (.cells cs t fr)) g (some ⟨g, 0, none⟩) l := by
  subst h
  subst hg
  refine .inr ⟨0, rfl, fun j b hj => ?_⟩
  rw [World.cell?_alloc_mark]
  simp [hj, bv]
end Go.Proofs.YtgplkdnffbappaaDoor
