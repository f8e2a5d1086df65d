/-
  A digester in memory: what its cells hold after some bytes; plain laws.
-/
import Derived.Test.YtgplkdnffbappaaDoorShaBlk
import Derived.Test.YtgplkdnffbappaaDoorShaPad
import Derived.Laws.CopyOwn
import Derived.Deep.MidRow
namespace Go.Proofs.YtgplkdnffbappaaDoor
open Go.RowKit
set_option linter.unusedVariables false

/-- The state behind the first n blocks of m. -/
def foldB (s : St) (m : List UInt8) : Nat → St
  | 0 => s
  | n + 1 => blockS kList (foldB s m n) ((m.drop (64 * n)).take 64)
theorem foldB_append (s : St) (m x : List UInt8) (n : Nat) (h : 64 * n ≤ m.length) : foldB s (m ++ x) n = foldB s m n := by
  induction n with
  | zero => rfl
  | succ n ih =>
    rw [foldB, foldB, ih (by omega), List.drop_append_of_le_length (by omega), List.take_append_of_le_length (by rw [List.length_drop]; omega)]
/-- The cells of a digester. -/
def dgL (s : St) (buf : List UInt8) (u : Int) : List Value := (stA s).toList ++ (buf.map bv ++ [.int .i64 u])
def dgA (s : St) (buf : List UInt8) (u : Int) : Array Value := (dgL s buf u).toArray
theorem dgL_len (s : St) (buf : List UInt8) (u : Int) (h : buf.length = 64) : (dgL s buf u).length = 73 := by
  simp [dgL, stA, h]
theorem dgA_used (s : St) (buf : List UInt8) (u : Int) (h : buf.length = 64) : (dgA s buf u)[72]? = some (.int .i64 u) := by
  unfold dgA dgL
  rw [List.getElem?_toArray, List.getElem?_append_right (by simp [stA]), List.getElem?_append_right (by simp [stA, h])]
  simp [stA, h]
theorem dgA_set (s : St) (buf : List UInt8) (u v : Int) (h : buf.length = 64) : (dgA s buf u).setIfInBounds 72 (.int .i64 v) = dgA s buf v := by
  unfold dgA dgL
  rw [List.setIfInBounds_toArray, List.set_append_right _ _ (by simp [stA]), List.set_append_right _ _ (by simp [stA, h])]
  simp [stA, h]
theorem dgA_splice (s : St) (buf x : List UInt8) (u : Nat) (z : Int) (h : buf.length = 64) (hx : u + x.length ≤ 64) :
    ((dgA s buf z).toList.take (8 + u) ++ (x.map bv ++ (dgA s buf z).toList.drop (8 + u + (x.map bv).length))).toArray = dgA s (splice buf u x) z := by
  unfold dgA dgL splice
  have h8 : (stA s).toList.length = 8 := by simp [stA]
  congr 1
  simp only [List.length_map]
  rw [List.take_append, List.take_of_length_le (by omega), h8, show 8 + u - 8 = u by omega, List.take_append_of_le_length (by simp; omega),
    List.drop_append, List.drop_of_length_le (by omega), h8, show 8 + u + x.length - 8 = u + x.length by omega, List.drop_append_of_le_length (by simp; omega)]
  simp [List.map_take, List.map_drop]
theorem splice_take (buf x : List UInt8) (u : Nat) (hu : u ≤ buf.length) : (splice buf u x).take (u + x.length) = buf.take u ++ x := by
  unfold splice
  rw [← List.append_assoc, List.take_append_of_le_length (by simp; omega), List.take_of_length_le (by simp; omega)]
theorem splice_len (buf x : List UInt8) (u : Nat) (h : buf.length = 64) (hx : u + x.length ≤ 64) : (splice buf u x).length = 64 := by
  rw [length_splice _ _ _ (by omega), h]
/-- A digester at block g that has been given the bytes m. -/
def Dg (w : World) (g : Nat) (m : List UInt8) : Prop :=
  ∃ buf : List UInt8, buf.length = 64 ∧ Blk w g 56 (dgA (foldB startS m (m.length / 64)) buf (m.length % 64 : Nat)) ∧ buf.take (m.length % 64) = m.drop (64 * (m.length / 64))
theorem dg_more {w : World} {g : Nat} {m x buf : List UInt8} (hb : buf.length = 64) (ht : buf.take (m.length % 64) = m.drop (64 * (m.length / 64))) (hx : m.length % 64 + x.length < 64)
    (h : Blk w g 56 (dgA (foldB startS m (m.length / 64)) (splice buf (m.length % 64) x) ((m.length % 64 + x.length : Nat) : Int))) : Dg w g (m ++ x) := by
  have e1 : (m ++ x).length / 64 = m.length / 64 := by rw [List.length_append]; omega
  have e2 : (m ++ x).length % 64 = m.length % 64 + x.length := by rw [List.length_append]; omega
  refine ⟨splice buf (m.length % 64) x, splice_len _ _ _ hb (by omega), ?_, ?_⟩
  · rw [e1, e2, foldB_append _ _ _ _ (by omega)]
    exact h
  · rw [e1, e2, splice_take _ _ _ (by omega), ht, List.drop_append_of_le_length (by omega)]
theorem dg_full {w : World} {g : Nat} {m x buf : List UInt8} (hb : buf.length = 64) (ht : buf.take (m.length % 64) = m.drop (64 * (m.length / 64))) (hx : m.length % 64 + x.length = 64)
    (h : Blk w g 56 (dgA (blockS kList (foldB startS m (m.length / 64)) (splice buf (m.length % 64) x)) (splice buf (m.length % 64) x) (0 : Nat))) : Dg w g (m ++ x) := by
  have e1 : (m ++ x).length / 64 = m.length / 64 + 1 := by rw [List.length_append]; omega
  have e2 : (m ++ x).length % 64 = 0 := by rw [List.length_append]; omega
  have hs := splice_len buf x (m.length % 64) hb (by omega)
  have e3 : ((m ++ x).drop (64 * (m.length / 64))).take 64 = splice buf (m.length % 64) x := by
    rw [List.drop_append_of_le_length (by omega), ← ht, ← splice_take _ _ _ (by omega), List.take_take, hx]
    exact List.take_of_length_le (by omega)
  refine ⟨splice buf (m.length % 64) x, hs, ?_, ?_⟩
  · rw [e1, e2, foldB, foldB_append _ _ _ _ (by omega), e3]
    exact h
  · rw [e1, e2, List.take_zero, List.drop_of_length_le (by rw [List.length_append]; omega)]
theorem dg_start {w : World} {g : Nat} (h : Blk w g 56 (dgA startS (List.replicate 64 0) 0)) : Dg w g [] :=
  ⟨List.replicate 64 0, by simp, h, rfl⟩
theorem dg_state {s : St} {buf : List UInt8} {u : Int} {w : World} {g : Nat} {t : TypeId} (h : Blk w g t (dgA s buf u)) : w.rangeAt g 0 (stA s).toList := by
  intro j v hj
  rw [h.cell]
  unfold dgA dgL
  have hl : j < (stA s).toList.length := (List.getElem?_eq_some_iff.1 hj).1
  rw [List.getElem?_toArray, Nat.zero_add, List.getElem?_append_left hl]
  exact hj
theorem dg_block {s : St} {buf : List UInt8} {u : Int} {w : World} {g : Nat} {t : TypeId} (h : Blk w g t (dgA s buf u)) : w.rangeAt g 8 (buf.map bv) := by
  intro j v hj
  rw [h.cell]
  unfold dgA dgL
  have hl : j < (buf.map bv).length := (List.getElem?_eq_some_iff.1 hj).1
  rw [List.getElem?_toArray, List.getElem?_append_right (by simp [stA]), show 8 + j - (stA s).toList.length = j by simp [stA], List.getElem?_append_left hl]
  exact hj
theorem dg_there {s : St} {buf : List UInt8} {u : Int} {w : World} {g : Nat} {t : TypeId} (h : Blk w g t (dgA s buf u)) : w.there g 0 8 := by
  intro j hj
  refine ⟨?_, h.frozen _⟩
  have hl : j < (stA s).toList.length := by simp [stA]; omega
  rw [dg_state h j _ (List.getElem?_eq_getElem hl)]
  rfl
theorem dg_store {s : St} {buf : List UInt8} {u : Int} {w : World} {g : Nat} {t : TypeId} (h : Blk w g t (dgA s buf u)) (s' : St) : Blk (w.setCells g 0 (stA s').toList) g t (dgA s' buf u) := by
  have e : dgA s' buf u = (((((((((dgA s buf u).setIfInBounds 0 (wv s'.a)).setIfInBounds 1 (wv s'.b)).setIfInBounds 2 (wv s'.c)).setIfInBounds 3 (wv s'.d)).setIfInBounds 4 (wv s'.e)).setIfInBounds 5 (wv s'.f)).setIfInBounds 6 (wv s'.g)).setIfInBounds 7 (wv s'.h)) := by
    simp [dgA, dgL, stA]
  rw [e]
  exact (((((((h.put 0 _).put 1 _).put 2 _).put 3 _).put 4 _).put 5 _).put 6 _).put 7 _
theorem Dg.grown {w w' : World} {g : Nat} {m : List UInt8} {row : Option Nat} (h : Dg w g m) (hb : w.grownBy w' row) (hg : some g ≠ row) : Dg w' g m := by
  obtain ⟨buf, h1, h2, h3⟩ := h
  exact ⟨buf, h1, h2.grown hb hg, h3⟩
end Go.Proofs.YtgplkdnffbappaaDoor
