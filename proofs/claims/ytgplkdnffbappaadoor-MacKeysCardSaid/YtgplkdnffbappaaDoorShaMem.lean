/-
  Arrays of words in memory: what a block of 64 words, of 8 words holds.
-/
import Derived.Test.YtgplkdnffbappaaDoorShaMath
namespace Go.Proofs.YtgplkdnffbappaaDoor
open Go.RowKit
set_option linter.unusedVariables false

def wA (f : Nat → Wd) : Array Value := ((List.range 64).map fun j => wv (f j)).toArray
theorem wA_at (f : Nat → Wd) {j : Nat} (h : j < 64) : (wA f)[j]? = some (.int .u32 (wi (f j))) := by
  simp [wA, wv, h]
theorem wA_ext {f g : Nat → Wd} (h : ∀ j, j < 64 → f j = g j) : wA f = wA g := by
  unfold wA
  congr 1
  apply List.map_congr_left
  intro j hj
  rw [h j (List.mem_range.1 hj)]
theorem wA_size (f : Nat → Wd) : (wA f).size = 64 := by simp [wA]
theorem wA_set (f : Nat → Wd) (i : Nat) (x : Wd) : (wA f).setIfInBounds i (wv x) = wA (fun j => if j = i then x else f j) := by
  have h1 : (wA f).size = 64 := wA_size f
  apply Array.ext
  · rw [Array.size_setIfInBounds, wA_size, wA_size]
  · intro j hj1 hj2
    have hj : j < 64 := by rw [wA_size] at hj2; exact hj2
    have g1 : (wA f)[j]? = some (wv (f j)) := wA_at f hj
    have g2 : (wA fun j => if j = i then x else f j)[j]? = some (wv (if j = i then x else f j)) := wA_at _ hj
    rw [Array.getElem?_eq_getElem (by omega)] at g1 g2
    rw [Option.some.inj g2, Array.getElem_setIfInBounds (by rw [Array.size_setIfInBounds] at hj1; exact hj1)]
    by_cases e : i = j
    · rw [if_pos e, if_pos e.symm]
    · rw [if_neg e, if_neg (Ne.symm e)]
      exact Option.some.inj g1
theorem zeros64 : (Array.replicate 64 (Value.int .u32 0)) = wA (fun _ => 0) := by rfl

def F1 (l : List UInt8) (i : Nat) : Nat → Wd := fun j => if j < i then wd l j else 0
def F2 (l : List UInt8) (i k : Nat) : Nat → Wd := fun j => if j < i then wd l j else if j = i then pw l i k else 0
theorem F2_zero (l : List UInt8) (i : Nat) : wA (F2 l i 0) = wA (F1 l i) := wA_ext fun j _ => by
  unfold F2 F1
  split
  · rfl
  · split <;> rfl
theorem F2_four (l : List UInt8) (i : Nat) : wA (F2 l i 4) = wA (F1 l (i + 1)) := wA_ext fun j _ => by
  unfold F2 F1
  by_cases h : j < i
  · rw [if_pos h, if_pos (by omega)]
  · by_cases e : j = i
    · subst e
      rw [if_neg h, if_pos rfl, if_pos (by omega)]
      rfl
    · rw [if_neg h, if_neg e, if_neg (by omega)]
theorem F2_self (l : List UInt8) (i k : Nat) : F2 l i k i = pw l i k := by
  unfold F2
  rw [if_neg (by omega), if_pos rfl]
theorem F2_set (l : List UInt8) (i k : Nat) : (wA (F2 l i k)).setIfInBounds i (wv (pw l i k * 256 + BitVec.ofNat 32 (l.getD (4 * i + k) 0).toNat)) = wA (F2 l i (k + 1)) := by
  rw [wA_set]
  refine wA_ext fun j _ => ?_
  unfold F2
  by_cases e : j = i
  · subst e
    rw [if_pos rfl, if_neg (by omega), if_pos rfl]
    rfl
  · rw [if_neg e, if_neg e, if_neg e]
theorem pw_num (x : Wd) (b : UInt8) : wi (x * 256 + BitVec.ofNat 32 b.toNat) = (wi x * 256 + b.toNat) % 4294967296 := by
  unfold wi
  have := byte_lt b
  rw [BitVec.toNat_add, BitVec.toNat_mul]
  simp
def F3 (l : List UInt8) (n : Nat) : Nat → Wd := fun j => if j < n then SW l j else 0
theorem F3_start (l : List UInt8) : wA (F1 l 16) = wA (F3 l 16) := wA_ext fun j _ => by
  unfold F1 F3
  by_cases h : j < 16
  · rw [if_pos h, if_pos h, SW_low l j h]
  · rw [if_neg h, if_neg h]
theorem F3_at (l : List UInt8) (n j : Nat) (h : j < n) : F3 l n j = SW l j := if_pos h
theorem F3_set (l : List UInt8) (n : Nat) : (wA (F3 l n)).setIfInBounds n (wv (SW l n)) = wA (F3 l (n + 1)) := by
  rw [wA_set]
  refine wA_ext fun j _ => ?_
  unfold F3
  by_cases e : j = n
  · subst e
    rw [if_pos rfl, if_pos (by omega)]
  · rw [if_neg e]
    by_cases h : j < n
    · rw [if_pos h, if_pos (by omega)]
    · rw [if_neg h, if_neg (by omega)]
theorem F3_all (l : List UInt8) : wA (F3 l 64) = wA (SW l) := wA_ext fun j h => if_pos h
theorem stA_size (s : St) : (stA s).size = 8 := rfl

theorem st_shift (q : St) (x y : Wd) : (((((((((stA q).setIfInBounds 7 (wv q.g)).setIfInBounds 6 (wv q.f)).setIfInBounds 5 (wv q.e)).setIfInBounds 4 (wv q.d)).setIfInBounds 3 (wv q.c)).setIfInBounds 2 (wv q.b)).setIfInBounds 1 (wv q.a)).setIfInBounds 4 (wv x)).setIfInBounds 0 (wv y) = #[wv y, wv q.a, wv q.b, wv q.c, wv x, wv q.e, wv q.f, wv q.g] := by
  simp [stA]
theorem st_sum (s q : St) : ((((((((stA q).setIfInBounds 0 (wv (q.a + s.a))).setIfInBounds 1 (wv (q.b + s.b))).setIfInBounds 2 (wv (q.c + s.c))).setIfInBounds 3 (wv (q.d + s.d))).setIfInBounds 4 (wv (q.e + s.e))).setIfInBounds 5 (wv (q.f + s.f))).setIfInBounds 6 (wv (q.g + s.g))).setIfInBounds 7 (wv (q.h + s.h)) = stA (addS q s) := by
  simp [stA, addS]
theorem Blk.shifted {W : World} {g : Nat} {t : TypeId} {q : St} (x y : Wd) (h : Blk W g t (stA q)) :
    Blk (((((((((W.setCell ⟨g, 7, none⟩ (wv q.g)).setCell ⟨g, 6, none⟩ (wv q.f)).setCell ⟨g, 5, none⟩ (wv q.e)).setCell ⟨g, 4, none⟩ (wv q.d)).setCell ⟨g, 3, none⟩ (wv q.c)).setCell ⟨g, 2, none⟩ (wv q.b)).setCell ⟨g, 1, none⟩ (wv q.a)).setCell ⟨g, 4, none⟩ (wv x)).setCell ⟨g, 0, none⟩ (wv y)) g t #[wv y, wv q.a, wv q.b, wv q.c, wv x, wv q.e, wv q.f, wv q.g] := by
  rw [← st_shift q x y]
  exact ((((((((h.put 7 _).put 6 _).put 5 _).put 4 _).put 3 _).put 2 _).put 1 _).put 4 _).put 0 _
theorem Blk.summed {W : World} {g : Nat} {t : TypeId} {q : St} (s : St) (h : Blk W g t (stA q)) :
    Blk ((((((((W.setCell ⟨g, 0, none⟩ (wv (q.a + s.a))).setCell ⟨g, 1, none⟩ (wv (q.b + s.b))).setCell ⟨g, 2, none⟩ (wv (q.c + s.c))).setCell ⟨g, 3, none⟩ (wv (q.d + s.d))).setCell ⟨g, 4, none⟩ (wv (q.e + s.e))).setCell ⟨g, 5, none⟩ (wv (q.f + s.f))).setCell ⟨g, 6, none⟩ (wv (q.g + s.g))).setCell ⟨g, 7, none⟩ (wv (q.h + s.h))) g t (stA (addS q s)) := by
  rw [← st_sum s q]
  exact (((((((h.put 0 _).put 1 _).put 2 _).put 3 _).put 4 _).put 5 _).put 6 _).put 7 _
def stF (s : St) : Nat → Wd
  | 0 => s.a
  | 1 => s.b
  | 2 => s.c
  | 3 => s.d
  | 4 => s.e
  | 5 => s.f
  | 6 => s.g
  | _ => s.h
def v8 (f : Nat → Wd) : Array Value := ((List.range 8).map fun j => wv (f j)).toArray
theorem v8_st (s : St) : stA s = v8 (stF s) := rfl
theorem v8_at (f : Nat → Wd) {j : Nat} (h : j < 8) : (v8 f)[j]? = some (.int .u32 (wi (f j))) := by
  simp [v8, wv, h]
theorem v8_size (f : Nat → Wd) : (v8 f).size = 8 := by simp [v8]
theorem v8_ext {f g : Nat → Wd} (h : ∀ j, j < 8 → f j = g j) : v8 f = v8 g := by
  unfold v8
  congr 1
  apply List.map_congr_left
  intro j hj
  rw [h j (List.mem_range.1 hj)]
theorem v8_set (f : Nat → Wd) (i : Nat) (x : Wd) : (v8 f).setIfInBounds i (wv x) = v8 (fun j => if j = i then x else f j) := by
  have h1 : (v8 f).size = 8 := v8_size f
  apply Array.ext
  · rw [Array.size_setIfInBounds, v8_size, v8_size]
  · intro j hj1 hj2
    have hj : j < 8 := by rw [v8_size] at hj2; exact hj2
    have g1 : (v8 f)[j]? = some (wv (f j)) := v8_at f hj
    have g2 : (v8 fun j => if j = i then x else f j)[j]? = some (wv (if j = i then x else f j)) := v8_at _ hj
    rw [Array.getElem?_eq_getElem (by omega)] at g1 g2
    rw [Option.some.inj g2, Array.getElem_setIfInBounds (by rw [Array.size_setIfInBounds] at hj1; exact hj1)]
    by_cases e : i = j
    · rw [if_pos e, if_pos e.symm]
    · rw [if_neg e, if_neg (Ne.symm e)]
      exact Option.some.inj g1
def sumF (q s : St) (n : Nat) : Nat → Wd := fun j => if j < n then stF q j + stF s j else stF q j
theorem sumF_start (q s : St) : v8 (sumF q s 0) = stA q := by rw [v8_st]; exact v8_ext fun j _ => if_neg (by omega)
theorem sumF_end (q s : St) : v8 (sumF q s 8) = stA (addS q s) := by
  rw [v8_st]
  refine v8_ext fun j h => ?_
  unfold sumF
  rw [if_pos h]
  match j, h with
  | 0, _ => rfl
  | 1, _ => rfl
  | 2, _ => rfl
  | 3, _ => rfl
  | 4, _ => rfl
  | 5, _ => rfl
  | 6, _ => rfl
  | 7, _ => rfl
theorem sumF_at (q s : St) (n : Nat) : sumF q s n n = stF q n := if_neg (by omega)
theorem sumF_set (q s : St) (n : Nat) : (v8 (sumF q s n)).setIfInBounds n (wv (stF q n + stF s n)) = v8 (sumF q s (n + 1)) := by
  rw [v8_set]
  refine v8_ext fun j _ => ?_
  unfold sumF
  by_cases e : j = n
  · subst e
    rw [if_pos rfl, if_pos (by omega)]
  · rw [if_neg e]
    by_cases h : j < n
    · rw [if_pos h, if_pos (by omega)]
    · rw [if_neg h, if_neg (by omega)]
theorem put_word8 {W : World} {g i : Nat} {t : TypeId} {f f' : Nat → Wd} {x : Wd} {z : Int} (h : Blk W g t (v8 f)) (hz : z = wi x) (hf : (v8 f).setIfInBounds i (wv x) = v8 f') : Blk (W.setCell ⟨g, i, none⟩ (.int .u32 z)) g t (v8 f') := by
  subst hz
  rw [← hf]
  exact h.put i _
/-- The first four blocks that a call of Block makes: the state, the block, the constants, the result's variable. -/
structure Env (w : World) (s : St) (l : List UInt8) (ks : List Wd) (wr : World) : Prop where
  bel : Below w.heap.size w wr
  b0 : Blk wr w.heap.size 50 (stA s)
  b1 : Blk wr (w.heap.size + 1) 44 (l.map bv).toArray
  b2 : Blk wr (w.heap.size + 1 + 1) 52 (ks.map wv).toArray
  b3 : Blk wr (w.heap.size + 1 + 1 + 1) 50 (Array.replicate 8 (.int .u32 0))
section
variable {w wr : World} {s : St} {l : List UInt8} {ks : List Wd}
theorem Env.drew (h : Env w s l ks wr) : Env w s l ks wr.drew := ⟨⟨h.bel.os, h.bel.tape, h.bel.output, h.bel.size, h.bel.block⟩, h.b0, h.b1, h.b2, h.b3⟩
theorem Env.drewN (h : Env w s l ks wr) (n : Nat) : Env w s l ks (wr.drewN n) := ⟨below_drewN h.bel n, h.b0, h.b1, h.b2, h.b3⟩
theorem Env.set (h : Env w s l ks wr) {g : Nat} (hg : w.heap.size + 4 ≤ g) (i : Nat) (u : Value) : Env w s l ks (wr.setCell ⟨g, i, none⟩ u) :=
  ⟨h.bel.setCell (by show w.heap.size ≤ g; omega) u, h.b0.far (by show w.heap.size ≠ g; omega) u, h.b1.far (by show w.heap.size + 1 ≠ g; omega) u, h.b2.far (by show w.heap.size + 1 + 1 ≠ g; omega) u, h.b3.far (by show w.heap.size + 1 + 1 + 1 ≠ g; omega) u⟩
theorem Env.alloc (h : Env w s l ks wr) (o : Obj) : Env w s l ks (wr.alloc o) := ⟨h.bel.alloc h.bel.size o, h.b0.alloc o, h.b1.alloc o, h.b2.alloc o, h.b3.alloc o⟩
theorem env_start (w : World) (s : St) (l : List UInt8) (ks : List Wd) (zs : Array Value) (hz : zs = wA (fun _ => 0)) :
    Env w s l ks (((((w.alloc (.cells (stA s) 50)).alloc (.cells (l.map bv).toArray 44)).alloc (.cells (ks.map wv).toArray 52)).alloc (.cells (Array.replicate 8 (.int .u32 0)) 50)).alloc (.cells zs 52)) ∧
    Blk (((((w.alloc (.cells (stA s) 50)).alloc (.cells (l.map bv).toArray 44)).alloc (.cells (ks.map wv).toArray 52)).alloc (.cells (Array.replicate 8 (.int .u32 0)) 50)).alloc (.cells zs 52)) (w.heap.size + 1 + 1 + 1 + 1) 52 (wA (F1 l 0)) := by
  have hz' : zs = wA (F1 l 0) := hz.trans (wA_ext fun j _ => by unfold F1; rw [if_neg (by omega)])
  subst hz'
  have n0 := Blk.new w 50 (stA s)
  have n1 := Blk.new (w.alloc (.cells (stA s) 50)) 44 (l.map bv).toArray
  have n2 := Blk.new ((w.alloc (.cells (stA s) 50)).alloc (.cells (l.map bv).toArray 44)) 52 (ks.map wv).toArray
  have n3 := Blk.new (((w.alloc (.cells (stA s) 50)).alloc (.cells (l.map bv).toArray 44)).alloc (.cells (ks.map wv).toArray 52)) 50 (Array.replicate 8 (.int .u32 0))
  have n4 := Blk.new ((((w.alloc (.cells (stA s) 50)).alloc (.cells (l.map bv).toArray 44)).alloc (.cells (ks.map wv).toArray 52)).alloc (.cells (Array.replicate 8 (.int .u32 0)) 50)) 52 (wA (F1 l 0))
  simp only [World.size_alloc] at n1 n2 n3 n4
  refine ⟨⟨(((((Below.refl _ _).alloc (Nat.le_refl _) _).alloc (by simp) _).alloc (by simp; omega) _).alloc (by simp; omega) _).alloc (by simp; omega) _, (((n0.alloc _).alloc _).alloc _).alloc _, ((n1.alloc _).alloc _).alloc _, (n2.alloc _).alloc _, n3.alloc _⟩, n4⟩
end
end Go.Proofs.YtgplkdnffbappaaDoor
