/-
  Bytes and lists of bytes in memory: small laws that the texts of several stages share. No function of the program is named here.
-/
import Derived.Test.YtnejidaplbonoaaWords
import Derived.WalkSpells
import Derived.WalkLawsBesides
import Derived.BigQuiet
import Derived.Deep.QuietTactic
import Derived.Deep.OwnRows
import Derived.Deep.MidRow
import Derived.RegionTactic
import Derived.BigRegion
import Derived.Lib.Hide
import Derived.IntWalk
namespace Go.Proofs.Ytnejidaplbonoaa
open Go.RowKit
set_option linter.unusedVariables false

/-- A fact that the walk shall not look into. -/
structure Kept (p : Prop) : Prop where
  out : p
theorem kept {p : Prop} (h : p) : Kept p := ⟨h⟩
theorem u8_info : (Try.prog.info? 5).map (fun i => (i.zero, i.size, i.bytes)) = some (some (.int .u8 0), 1, 1) := by kernel_rfl
theorem u8_size : (Try.prog.info? 5).map (·.size) = some 1 := by kernel_rfl
theorem ofNat_toNat (n : Nat) : (UInt8.ofNat (n % 256)).toNat = n % 256 := by
  rw [UInt8.toNat_ofNat']
  omega
theorem pow8 (k : Nat) : (2 : Nat) ^ (8 * k) = 256 ^ k := by rw [Nat.pow_mul]
theorem digit (j x : Nat) : ((x : Int) / 2 ^ (8 * j) % 256) = (((UInt8.ofNat (x / 256 ^ j % 256)).toNat : Nat) : Int) := by
  rw [ofNat_toNat, ← pow8, Int.natCast_emod, Int.natCast_ediv, Int.natCast_pow]
  rfl
theorem own_of_blk {w : World} {g B : Nat} {l : List UInt8} (h : Blk w g 5 (l.map bv).toArray) (hB : B ≤ g) (hl : l.length ≤ 140737488355328) : Own w B (.slice (some ⟨g, 0, none⟩) l.length l.length) l :=
  ⟨by simp, .inr ⟨g, l.length, _, rfl, hB, h, Nat.le_refl _, by unfold maxLen; omega, by simp, by rw [Nat.mul_one]; exact List.take_of_length_le (by simp)⟩⟩
theorem own_head {w : World} {B : Nat} {A : Option Addr} {n c : Nat} {l : List UInt8} (h : Own w B (.slice A n c) l) : Own w B (.slice A 0 c) [] := by
  obtain ⟨h1, h2⟩ := h
  rcases h2 with ⟨hv, hn⟩ | ⟨g, cap, cur, hv, hg, hh, hnc, hcm, hsz, ht⟩
  · injection hv with e1 e2 e3
    subst e1 e3
    exact Own.nil_ _ _
  · injection hv with e1 e2 e3
    subst e1 e3
    exact ⟨by simp, .inr ⟨g, _, cur, rfl, hg, hh, Nat.zero_le _, hcm, hsz, by simp⟩⟩
theorem mem_lit {w : World} {l : List UInt8} {cs : Array Value} (h : cs = (l.map bv).toArray) : Mem (w.alloc (.cells cs 5)) w.heap.size (some ⟨w.heap.size, 0, none⟩) l := by
  subst h
  refine .inr ⟨0, rfl, fun j b hj => ?_⟩
  rw [(Blk.new w 5 (l.map bv).toArray).cell]
  simp [hj, bv]
theorem Own.mem {w : World} {B : Nat} {A : Option Addr} {n c : Nat} {l : List UInt8} (h : Own w B (.slice A n c) l) : n = l.length ∧ ∃ q, Mem w q A l := by
  obtain ⟨A', q, c', hv, _, _, hm, _⟩ := h.form
  injection hv with e1 e2 e3
  subst e1
  exact ⟨e2, q, hm⟩
theorem Blk.drewN_ {W : World} {g : Nat} {t : TypeId} {cs : Array Value} (h : Blk W g t cs) (n : Nat) : Blk (W.drewN n) g t cs := h
theorem Blk.drew_ {W : World} {g : Nat} {t : TypeId} {cs : Array Value} (h : Blk W g t cs) : Blk W.drew g t cs := h
/-- A call that leaves the world as it is, as an arm of go_quiet wants it. -/
theorem quiet_eq {P : Program} {f : FuncId} {args : Array Value} {w : World} {n : Nat} {v : Value}
    (h : Calls P f args (w.drewN n) fun e w' => e = .returned v ∧ w.drewN n = w') : Calls P f args (w.drewN n) fun e w'' => e = .returned v ∧ ∃ m, w'' = w.drewN m :=
  h.mono fun _ _ ⟨he, hm⟩ => ⟨he, n, hm.symm⟩
/-- One step more. -/
theorem below_next {w w1 w2 : World} (h : Below w.heap.size w w1) (k : Below w1.heap.size w1 w2) : Below w.heap.size w w2 := h.trans (k.mono h.size)

/-! ### Arrays whose cells are given by a function -/
def gA (n : Nat) (f : Nat → Value) : Array Value := ((List.range n).map f).toArray
theorem gA_size (n : Nat) (f : Nat → Value) : (gA n f).size = n := by simp [gA]
theorem gA_at (n : Nat) (f : Nat → Value) {j : Nat} (h : j < n) : (gA n f)[j]? = some (f j) := by simp [gA, h]
theorem gA_ext {n : Nat} {f g : Nat → Value} (h : ∀ j, j < n → f j = g j) : gA n f = gA n g := by
  unfold gA
  congr 1
  apply List.map_congr_left
  intro j hj
  exact h j (List.mem_range.1 hj)
theorem gA_set (n : Nat) (f : Nat → Value) (i : Nat) (x : Value) : (gA n f).setIfInBounds i x = gA n (fun j => if j = i then x else f j) := by
  apply Array.ext_getElem?
  intro j
  rw [Array.getElem?_setIfInBounds, gA_size]
  by_cases hj : j < n
  · rw [gA_at n f hj, gA_at n (fun j => if j = i then x else f j) hj]
    by_cases e : i = j
    · subst e; simp [hj]
    · rw [if_neg e, if_neg (Ne.symm e)]
  · rw [Array.getElem?_eq_none (by rw [gA_size]; omega), Array.getElem?_eq_none (by rw [gA_size]; omega)]
    split
    · split
      · omega
      · rfl
    · rfl
theorem gA_list (l : List UInt8) : (l.map bv).toArray = gA l.length (fun j => bv (l.getD j 0)) := by
  apply Array.ext_getElem?
  intro j
  by_cases hj : j < l.length
  · rw [gA_at _ _ hj]
    simp [hj]
  · rw [Array.getElem?_eq_none (by simpa using hj), Array.getElem?_eq_none (by rw [gA_size]; omega)]
theorem gA_map (n : Nat) (f : Nat → UInt8) : (((List.range n).map f).map bv).toArray = gA n (fun j => bv (f j)) := by
  unfold gA
  rw [List.map_map]
  rfl
theorem madeCells_gA (v : Value) (n : Nat) : madeCells #[v] n = gA n (fun _ => v) := by
  rw [← Array.toList_inj, toList_madeCells_one]
  unfold gA
  apply List.ext_getElem?
  intro j
  by_cases h : j < n <;> simp [h]
theorem Blk.putG {w : World} {g : Nat} {t : TypeId} {n : Nat} {f f' : Nat → Value} (h : Blk w g t (gA n f)) (i : Nat) (x : Value) (hf : ∀ j, j < n → f' j = if j = i then x else f j) : Blk (w.setCell ⟨g, i, none⟩ x) g t (gA n f') := by
  have := h.put i x
  rw [gA_set] at this
  rw [gA_ext hf]
  exact this

/-- An array value read at a place. -/
theorem run_index_agg {P : Program} (t e : TypeId) (n : Nat) (ht : P.underlying t = some (.array n e)) (hi : (P.info? e).map (·.size) = some 1) (de : TypeDesc) (hd : P.underlying e = some de)
    (hna : (match de with | .struct _ | .array _ _ => true | _ => false) = false) (cs : Array Value) (k : Nat) (v : Value) (hk : cs[k]? = some v) (hkn : k < n) (w : World) :
    (Instr.index t (.agg cs) (.int .i64 (k : Int))).run P w = .ok v w := by
  cases hq : P.info? e with
  | none => simp [hq] at hi
  | some i =>
    have hs : i.size = 1 := by simpa [hq] using hi
    have hagg : (isAgg e).run P w = .ok false w := by
      unfold isAgg
      rw [Sem.run_bind, run_underlying hd w]
      cases de <;> simp_all
    simp [Instr.index, asIntOf, run_underlying ht, hkn, sizeOf, typeInfo, hq, hs, part, hagg, hk]

/-! ### Lists of byte slices -/
/-- At address A (of block q) lie slices of bytes, which read as L. -/
def MemM (w : World) (q : Nat) (A : Option Addr) (L : List (List UInt8)) : Prop :=
  L = [] ∨ ∃ o, A = some ⟨q, o, none⟩ ∧ ∀ j l, L[j]? = some l → ∃ A' q' c', w.cell? ⟨q, o + j, none⟩ = some (.slice A' l.length c') ∧ Mem w q' A' l ∧ l.length ≤ c'
theorem MemM.at_ {w : World} {q : Nat} {A : Option Addr} {L : List (List UInt8)} {j : Nat} (h : MemM w q A L) (hj : j < L.length) :
    ∃ o A' q' c', A = some ⟨q, o, none⟩ ∧ w.cell? ⟨q, o + j, none⟩ = some (.slice A' (L[j]'hj).length c') ∧ Mem w q' A' (L[j]'hj) ∧ (L[j]'hj).length ≤ c' := by
  rcases h with rfl | ⟨o, ho, hc⟩
  · simp at hj
  · obtain ⟨A', q', c', h1, h2, h3⟩ := hc j _ (List.getElem?_eq_getElem hj)
    exact ⟨o, A', q', c', ho, h1, h2, h3⟩
theorem MemM.below0 {w w' : World} {q : Nat} {A : Option Addr} {L : List (List UInt8)} (h : MemM w q A L) (hb : Below w.heap.size w w') : MemM w' q A L := by
  rcases h with rfl | ⟨o, ho, hc⟩
  · exact .inl rfl
  · refine .inr ⟨o, ho, fun j l hj => ?_⟩
    obtain ⟨A', q', c', h1, h2, h3⟩ := hc j l hj
    exact ⟨A', q', c', (hb.cell (p := ⟨q, o + j, none⟩) (World.block_lt_of_cell? w _ h1)).trans h1, h2.below0 hb, h3⟩
/-- The bytes of a slice lie in an old block. -/
theorem Mem.old {w : World} {q : Nat} {A : Option Addr} {l : List UInt8} (h : Mem w q A l) {g : Nat} (hg : w.heap.size ≤ g) : ∃ q', q' ≠ g ∧ Mem w q' A l := by
  by_cases e : l = []
  · subst e
    exact ⟨g + 1, by omega, .inl rfl⟩
  · have := h.lt e
    exact ⟨q, by omega, h⟩
theorem sum_take_le (L : List (List UInt8)) (j : Nat) : ((L.take j).map List.length).sum ≤ (L.map List.length).sum := by
  have h : L.map List.length = (L.take j).map List.length ++ (L.drop j).map List.length := by rw [← List.map_append, List.take_append_drop]
  rw [h, List.sum_append]
  omega
theorem sum_take_succ (L : List (List UInt8)) (j : Nat) (h : j < L.length) : ((L.take (j + 1)).map List.length).sum = ((L.take j).map List.length).sum + (L[j]'h).length := by
  rw [List.take_succ_eq_append_getElem h, List.map_append, List.sum_append, List.map_singleton, List.sum_singleton]
theorem flatten_take_succ (L : List (List UInt8)) (j : Nat) (h : j < L.length) : (L.take (j + 1)).flatten = (L.take j).flatten ++ L[j]'h := by
  rw [List.take_succ_eq_append_getElem h, List.flatten_append, List.flatten_singleton]
theorem flatten_len (L : List (List UInt8)) : L.flatten.length = (L.map List.length).sum := by
  rw [List.length_flatten]
end Go.Proofs.Ytnejidaplbonoaa
