/-
  Words for memory that the contracts of this seat share: bytes in a block, a block that is known whole, a slice of the call's own. No function of the program is named here.
-/
import Derived.Test.YtnejidaplbonoaaRows
import Derived.WalkKit
import Derived.Maps.AppendAt
import Derived.Deep.AppendLies
import Derived.Deep.Draws
import Derived.Maps.RangeWalk
import Derived.Deep.Onto
namespace Go.Proofs.Ytnejidaplbonoaa
open Go.RowKit

/-- A byte as a value. -/
def bv (b : UInt8) : Value := .int .u8 (b.toNat : Int)
theorem bv_def (b : UInt8) : bv b = .int .u8 (b.toNat : Int) := rfl
theorem bv_inj {a b : UInt8} (h : bv a = bv b) : a = b := by
  unfold bv at h
  injection h with _ h
  exact UInt8.toNat_inj.1 (by omega)
theorem oneCell_bv (l : List UInt8) : ∀ u ∈ l.map bv, u.oneCell' = true := by
  intro u hu
  obtain ⟨b, _, rfl⟩ := List.mem_map.1 hu
  rfl
theorem byte_lt (b : UInt8) : b.toNat < 256 := by
  have := UInt8.toNat_lt b
  omega

/-- At address A (of block q) lie the bytes l; of an empty list nothing is said. -/
def Mem (w : World) (q : Nat) (A : Option Addr) (l : List UInt8) : Prop :=
  l = [] ∨ ∃ o, A = some ⟨q, o, none⟩ ∧ ∀ j b, l[j]? = some b → w.cell? ⟨q, o + j, none⟩ = some (.int .u8 (b.toNat : Int))

section
variable {w w' : World} {q : Nat} {A : Option Addr} {l : List UInt8}

theorem Mem.nil_ (w : World) (q : Nat) (A : Option Addr) : Mem w q A [] := .inl rfl
/-- The k-th byte's place. -/
theorem Mem.at_ {k : Nat} (h : Mem w q A l) (hk : k < l.length) : ∃ o, A = some ⟨q, o, none⟩ ∧ w.cell? ⟨q, o + k, none⟩ = some (.int .u8 ((l[k]'hk).toNat : Int)) := by
  rcases h with rfl | ⟨o, ho, hc⟩
  · simp at hk
  · exact ⟨o, ho, hc k _ (List.getElem?_eq_getElem hk)⟩
theorem Mem.lt (h : Mem w q A l) (hne : l ≠ []) : q < w.heap.size := by
  have hp : 0 < l.length := List.length_pos_iff.2 hne
  obtain ⟨o, _, hc⟩ := h.at_ hp
  exact World.block_lt_of_cell? w ⟨q, o + 0, none⟩ hc
theorem Mem.keep (h : Mem w q A l) (hk : q < w.heap.size → w'.heap[q]? = w.heap[q]?) : Mem w' q A l := by
  by_cases hne : l = []
  · exact .inl hne
  · have hb := hk (h.lt hne)
    rcases h with h | ⟨o, ho, hc⟩
    · exact .inl h
    · exact .inr ⟨o, ho, fun j b hj => (World.cell?_of_block (a := ⟨q, o + j, none⟩) hb).trans (hc j b hj)⟩
theorem Mem.grown {row : Option Nat} (h : Mem w q A l) (hg : w.grownBy w' row) (hne : some q ≠ row) : Mem w' q A l :=
  h.keep fun hq => hg.block q hq hne
theorem Mem.below (h : Mem w q A l) {B : Nat} (hb : Below B w w') (hq : q < B) : Mem w' q A l := h.keep fun _ => hb.block q hq
theorem Mem.below0 (h : Mem w q A l) (hb : Below w.heap.size w w') : Mem w' q A l := h.keep fun hq => hb.block q hq
theorem Mem.drew (h : Mem w q A l) : Mem w.drew q A l := h
theorem Mem.drewN (h : Mem w q A l) (n : Nat) : Mem (w.drewN n) q A l := h
theorem Mem.alloc (h : Mem w q A l) (o : Obj) : Mem (w.alloc o) q A l := h.keep fun hq => Below.heap_alloc w o q hq
theorem Mem.setCell (h : Mem w q A l) {p : Addr} (hp : q ≠ p.block) (u : Value) : Mem (w.setCell p u) q A l := h.keep fun _ => Below.heap_setCell w p u q hp
theorem Mem.take (h : Mem w q A l) (k : Nat) : Mem w q A (l.take k) := by
  rcases h with rfl | ⟨o, ho, hc⟩
  · exact .inl (by simp)
  · refine .inr ⟨o, ho, fun j b hj => hc j b ?_⟩
    rw [List.getElem?_take] at hj
    split at hj
    · exact hj
    · cases hj
theorem Mem.drop_at {o : Nat} (h : Mem w q (some ⟨q, o, none⟩) l) (k : Nat) : Mem w q (some ⟨q, o + k, none⟩) (l.drop k) := by
  rcases h with rfl | ⟨o', ho, hc⟩
  · exact .inl (by simp)
  · have e : o' = o := by injection ho with ho; injection ho with _ ho _; exact ho.symm
    subst e
    refine .inr ⟨_, rfl, fun j b hj => ?_⟩
    rw [List.getElem?_drop] at hj
    rw [Nat.add_assoc]
    exact hc _ b hj
/-- A cut 's[k:]' as the model writes its address. -/
theorem Mem.cut {k cap : Nat} (h : Mem w q A l) (hk : k ≤ l.length) (hc : l.length ≤ cap) :
    Mem w q (if cap = k then A else A.map (·.add k)) (l.drop k) := by
  by_cases he : l.drop k = []
  · exact .inl he
  · have hlt : k < l.length := by
      rcases Nat.lt_or_ge k l.length with h1 | h1
      · exact h1
      · exact absurd (List.drop_eq_nil_of_le h1) he
    rw [if_neg (by omega)]
    rcases h with rfl | ⟨o, rfl, hcell⟩
    · simp at hlt
    · have hm : Mem w q (some ⟨q, o, none⟩) l := .inr ⟨o, rfl, hcell⟩
      have := hm.drop_at k
      rcases Nat.eq_zero_or_pos k with h0 | h0
      · subst h0
        simpa [Addr.add] using this
      · simpa [Addr.add, Nat.ne_of_gt h0] using this
end

/-- Block g is just the cells cs of element type t, none of them frozen. -/
def Blk (w : World) (g : Nat) (t : TypeId) (cs : Array Value) : Prop := w.heap[g]? = some (.cells cs t (0, 0))

section
variable {w w' : World} {g : Nat} {t : TypeId} {cs : Array Value}
theorem Blk.lt (h : Blk w g t cs) : g < w.heap.size := by
  rcases Nat.lt_or_ge g w.heap.size with hlt | hge
  · exact hlt
  · unfold Blk at h
    rw [Array.getElem?_eq_none hge] at h
    cases h
theorem Blk.cell (h : Blk w g t cs) (i : Nat) : w.cell? ⟨g, i, none⟩ = cs[i]? := cell_of_row w g i cs t (0, 0) h
theorem Blk.frozen (h : Blk w g t cs) (i : Nat) : w.frozen? ⟨g, i, none⟩ = false := by
  unfold Blk at h
  simp [World.frozen?, h]
theorem Blk.new (w : World) (t : TypeId) (cs : Array Value) : Blk (w.alloc (.cells cs t)) w.heap.size t cs := heap_alloc_new w _
theorem Blk.keep (h : Blk w g t cs) (hk : w'.heap[g]? = w.heap[g]?) : Blk w' g t cs := hk.trans h
theorem Blk.alloc (h : Blk w g t cs) (o : Obj) : Blk (w.alloc o) g t cs := (Below.heap_alloc w o g h.lt).trans h
theorem Blk.put (h : Blk w g t cs) (i : Nat) (u : Value) : Blk (w.setCell ⟨g, i, none⟩ u) g t (cs.setIfInBounds i u) := by
  unfold Blk at h ⊢
  simp [World.setCell, Array.getElem?_modify, h]
theorem Blk.far (h : Blk w g t cs) {p : Addr} (hp : g ≠ p.block) (u : Value) : Blk (w.setCell p u) g t cs := (Below.heap_setCell w p u g hp).trans h
theorem Blk.below {B : Nat} (h : Blk w g t cs) (hb : Below B w w') (hg : g < B) : Blk w' g t cs := (hb.block g hg).trans h
theorem Blk.grown {row : Option Nat} (h : Blk w g t cs) (hb : w.grownBy w' row) (hg : some g ≠ row) : Blk w' g t cs := (hb.block g h.lt hg).trans h
theorem Blk.drew (h : Blk w g t cs) : Blk w.drew g t cs := h
end

section
variable {w w' w'' : World} {g : Nat}
theorem gb_drew {row : Option Nat} (h : w.grownBy w' row) : w.grownBy w'.drew row := ⟨h.os, h.tape, h.output, h.size, h.block⟩
theorem gb_drewN {row : Option Nat} (h : w.grownBy w' row) (n : Nat) : w.grownBy (w'.drewN n) row := ⟨h.os, h.tape, h.output, h.size, h.block⟩
theorem gb_alloc {row : Option Nat} (h : w.grownBy w' row) (o : Obj) : w.grownBy (w'.alloc o) row :=
  ⟨h.os, h.tape, h.output, Nat.le_trans h.size (by simp), fun i hi hne => (Below.heap_alloc w' o i (Nat.lt_of_lt_of_le hi h.size)).trans (h.block i hi hne)⟩
theorem gb_setCell {row : Option Nat} (h : w.grownBy w' row) {p : Addr} (hp : row = some p.block ∨ w.heap.size ≤ p.block) (u : Value) : w.grownBy (w'.setCell p u) row :=
  ⟨h.os, h.tape, h.output, by simpa [World.setCell] using h.size, fun i hi hne => (Below.heap_setCell w' p u i (by
    rintro rfl
    rcases hp with hp | hp
    · exact hne hp.symm
    · omega)).trans (h.block i hi hne)⟩
theorem gb_of_below (h : Below w.heap.size w w') (row : Option Nat) : w.grownBy w' row := ⟨h.os, h.tape, h.output, h.size, fun i hi _ => h.block i hi⟩
theorem below_of_gb {B : Nat} {row : Option Nat} (h : w.grownBy w' row) (hB : B ≤ w.heap.size) (hr : ∀ k, row = some k → B ≤ k) : Below B w w' :=
  (Below.refl B w).grown h hB hr
theorem gb_then {row row' : Option Nat} (h : w.grownBy w' row) (k : w'.grownBy w'' row') (hr : row' = row ∨ ∀ j, row' = some j → w.heap.size ≤ j) : w.grownBy w'' row :=
  h.andThen k fun j hj => by
    rcases hr with hr | hr
    · exact .inr (hr ▸ hj)
    · exact .inl (hr j hj)
theorem below_drewN {B : Nat} (h : Below B w w') (n : Nat) : Below B w (w'.drewN n) := ⟨h.os, h.tape, h.output, h.size, h.block⟩
end

/-- A slice value of the call's own (blocks from B on, not frozen, nil possible) that holds just the bytes l. 'u8' is the element type's number. -/
def Own (w : World) (B : Nat) (v : Value) (l : List UInt8) : Prop := w.ownsRow B 5 1 v l.length (l.map bv)

section
variable {w w' : World} {B : Nat} {v : Value} {l : List UInt8}
theorem Own.nil_ (w : World) (B : Nat) : Own w B (.slice none 0 0) [] := World.ownsRow_nil w B _ 1
theorem Own.mono {B' : Nat} (h : Own w B v l) (hb : B' ≤ B) : Own w B' v l := World.ownsRow.mono h hb
theorem Own.drew (h : Own w B v l) : Own w.drew B v l := h
theorem Own.drewN (h : Own w B v l) (n : Nat) : Own (w.drewN n) B v l := h
theorem Own.alloc (h : Own w B v l) (o : Obj) : Own (w.alloc o) B v l := World.ownsRow.alloc h o
theorem Own.keep (h : Own w B v l) (hk : ∀ k, v.ownBlock = some k → w'.heap[k]? = w.heap[k]?) : Own w' B v l := by
  refine ⟨h.1, ?_⟩
  rcases h.2 with h | ⟨g, cap, cur, hv, hg, hh, r⟩
  · exact .inl h
  · exact .inr ⟨g, cap, cur, hv, hg, (hk g (by rw [hv]; rfl)).trans hh, r⟩
theorem Own.grown {row : Option Nat} (h : Own w B v l) (hg : w.grownBy w' row) (hne : ∀ k, row = some k → k < B ∨ w.heap.size ≤ k) : Own w' B v l :=
  h.keep fun k hk => by
    have hlt := World.ownsRow.lt h k hk
    refine hg.block k hlt.2 fun e => ?_
    have := hne k e.symm
    omega
theorem Own.below (h : Own w B v l) (hb : Below w.heap.size w w') : Own w' B v l := h.keep fun k hk => hb.block k (World.ownsRow.lt h k hk).2
theorem Own.setCell (h : Own w B v l) {p : Addr} (hp : p.block < B) (u : Value) : Own (w.setCell p u) B v l := ownsRow_setCell_below h hp u
/-- What is known of the value: its length, and where its bytes lie. -/
theorem Own.form (h : Own w B v l) : ∃ A q c, v = .slice A l.length c ∧ l.length ≤ c ∧ c ≤ maxLen ∧ Mem w q A l ∧ (l ≠ [] → B ≤ q ∧ A = some ⟨q, 0, none⟩ ∧ ∀ j, w.frozen? ⟨q, j, none⟩ = false) ∧ (q < w.heap.size ∨ l = []) := by
  obtain ⟨h1, h2⟩ := h
  rcases h2 with ⟨rfl, hn⟩ | ⟨g, cap, cur, rfl, hg, hh, hnc, hcm, hsz, ht⟩
  · have : l = [] := List.length_eq_zero_iff.1 hn
    subst this
    exact ⟨none, 0, 0, rfl, Nat.le_refl _, by unfold maxLen; omega, .inl rfl, fun hc => absurd rfl hc, .inr rfl⟩
  · refine ⟨_, g, cap, rfl, hnc, hcm, .inr ⟨0, rfl, fun j b hj => ?_⟩, fun _ => ⟨hg, rfl, fun j => ?_⟩, .inl ?_⟩
    · rw [cell_of_row w g (0 + j) cur _ (0, 0) hh]
      have : (l.map bv)[j]? = some (bv b) := by rw [List.getElem?_map, hj]; rfl
      rw [← ht, List.getElem?_take] at this
      split at this
      · rw [Nat.zero_add, ← Array.getElem?_toList]; exact this
      · cases this
    · simp [World.frozen?, hh]
    · rcases Nat.lt_or_ge g w.heap.size with hlt | hge
      · exact hlt
      · rw [Array.getElem?_eq_none hge] at hh
        cases hh
end

/-- append(v, s...) of bytes, v the call's own, s whatever. -/
theorem run_append_bytes {P : Program} (w : World) (B : Nat) (t ty : TypeId) (i : TypeInfo) (ht : P.underlying t = some (.slice 5)) (hi : P.info? 5 = some i)
    (hz : i.zero = some (.int .u8 0)) (hs : i.size = 1) (hb : i.bytes = 1) (v : Value) (l : List UInt8) (hown : Own w B v l)
    (q : Nat) (A : Option Addr) (m c : Nat) (s : List UInt8) (hm : m = s.length) (hsrc : Mem w q A s) (hlen : l.length + s.length ≤ 140737488355328) (hB : B ≤ w.heap.size) :
    ∃ v' w', (Builtin.append_ #[t, t] ty #[v, .slice A m c]).run P w = .ok v' w' ∧ Own w' B v' (l ++ s) ∧ w.grownBy w' v.ownBlock := by
  subst hm
  cases A with
  | none =>
    have hn : s = [] := by
      rcases hsrc with h | ⟨o, h, _⟩
      · exact h
      · cases h
    subst hn
    refine ⟨v, w, ?_, by simpa using hown, World.grownBy.refl w _⟩
    rcases hown.2 with ⟨rfl, hl⟩ | ⟨g, cap, cur, rfl, _, _, hnc, _⟩
    · simp [Builtin.append_, run_underlying ht, sizeOf, typeInfo, hi, Builtin.lenOf, Builtin.firstCells]
    · simp [Builtin.append_, run_underlying ht, sizeOf, typeInfo, hi, Builtin.lenOf, Builtin.firstCells, hnc, storeCells]
  | some ad =>
    have hcells : ∀ j u, (s.map bv)[j]? = some u → w.cell? (ad.add j) = some u := by
      intro j u hu
      rw [List.getElem?_map] at hu
      cases hj : s[j]? with
      | none => rw [hj] at hu; cases hu
      | some b =>
        rw [hj] at hu
        simp only [Option.map_some, Option.some.injEq] at hu
        subst hu
        rcases hsrc with h | ⟨o, h, hc⟩
        · subst h; simp at hj
        · injection h with h
          subst h
          have := hc j b hj
          unfold Addr.add
          split
          · rename_i h0; subst h0; simpa [bv] using this
          · exact this
    obtain ⟨v', w', hrun, h2, h3, _⟩ := run_append_own_at (P := P) w B t ty 5 i (.int .u8 0) 1 1 ht hi hz hs hb rfl (by omega) v l.length (l.map bv) hown ad s.length c (s.map bv) (by simp) hcells (oneCell_bv s)
      (by unfold maxLen; omega) (by omega) hB
    exact ⟨v', w', hrun, by unfold Own; simpa using h2, h3⟩

theorem wpList_append_bytes {P : Program} {w : World} {ops : Array Oper} {rest : List Oper} {o : Oper} {a : Act} {Q : Exit → Act → World → Prop} (hgd : o.guard = none) (s x : Operand) (t : TypeId)
    (ho : o.op = .call { callee := .builtin .append, args := #[s, x], argTypes := #[t, t] })
    (B : Nat) (i : TypeInfo) (ht : P.underlying t = some (.slice 5)) (hi : P.info? 5 = some i) (hz : i.zero = some (.int .u8 0)) (hsz : i.size = 1) (hb : i.bytes = 1)
    (v : Value) (l : List UInt8) (hs : a.eval s = v) (hown : Own w B v l) (q : Nat) (A : Option Addr) (m c : Nat) (src : List UInt8) (hx : a.eval x = .slice A m c) (hm : m = src.length)
    (hsrc : Mem w q A src) (hlen : l.length + src.length ≤ 140737488355328) (hB : B ≤ w.heap.size)
    (h : ∀ v' w', Own w' B v' (l ++ src) → w.grownBy w' v.ownBlock → wpList P ops Q rest (a.put o.dst v') w') : wpList P ops Q (o :: rest) a w := by
  refine wpList_plain hgd fun K hK => ?_
  obtain ⟨v', w', hrun, h2, h3⟩ := run_append_bytes (P := P) w B t o.type i ht hi hz hsz hb v l hown q A m c src hm hsrc hlen hB
  unfold Oper.wp execOp
  simp only [ho, resolve, invoke, builtin, Sem.run_bind, Sem.run_pure, Result.andThen_ok, List.map_toArray, List.map_cons, List.map_nil, hs, hx, hrun]
  exact hK _ _ (h v' w' h2 h3)

theorem wp_append_bytes {P : Program} {w : World} {o : Oper} {a : Act} {K : Act → World → Prop} {Q : Exit → Act → World → Prop} (s x : Operand) (t : TypeId)
    (ho : o.op = .call { callee := .builtin .append, args := #[s, x], argTypes := #[t, t] })
    (B : Nat) (i : TypeInfo) (ht : P.underlying t = some (.slice 5)) (hi : P.info? 5 = some i) (hz : i.zero = some (.int .u8 0)) (hsz : i.size = 1) (hb : i.bytes = 1)
    (v : Value) (l : List UInt8) (hs : a.eval s = v) (hown : Own w B v l) (q : Nat) (A : Option Addr) (m c : Nat) (src : List UInt8) (hx : a.eval x = .slice A m c) (hm : m = src.length)
    (hsrc : Mem w q A src) (hlen : l.length + src.length ≤ 140737488355328) (hB : B ≤ w.heap.size)
    (h : ∀ v' w', Own w' B v' (l ++ src) → w.grownBy w' v.ownBlock → K (a.put o.dst v') w') : Oper.wp P o a w K Q := by
  obtain ⟨v', w', hrun, h2, h3⟩ := run_append_bytes (P := P) w B t o.type i ht hi hz hsz hb v l hown q A m c src hm hsrc hlen hB
  unfold Oper.wp execOp
  simp only [ho, resolve, invoke, builtin, Sem.run_bind, Sem.run_pure, Result.andThen_ok, List.map_toArray, List.map_cons, List.map_nil, hs, hx, hrun]
  exact h v' w' h2 h3

theorem step_append_bytes {P : Program} {w : World} {ops : Array Oper} {o : Oper} {a : Act} {K : Act → World → Prop} {Q : Exit → Act → World → Prop} {E : Prop} (hgd : o.guard = none) (s x : Operand) (t : TypeId)
    (ho : o.op = .call { callee := .builtin .append, args := #[s, x], argTypes := #[t, t] })
    (B : Nat) (i : TypeInfo) (ht : P.underlying t = some (.slice 5)) (hi : P.info? 5 = some i) (hz : i.zero = some (.int .u8 0)) (hsz : i.size = 1) (hb : i.bytes = 1)
    (v : Value) (l : List UInt8) (hs : a.eval s = v) (hown : Own w B v l) (q : Nat) (A : Option Addr) (m c : Nat) (src : List UInt8) (hx : a.eval x = .slice A m c) (hm : m = src.length)
    (hsrc : Mem w q A src) (hlen : l.length + src.length ≤ 140737488355328) (hB : B ≤ w.heap.size)
    (h : ∀ v' w', Own w' B v' (l ++ src) → w.grownBy w' v.ownBlock → K (a.put o.dst v') w') :
    if Region.wanted o (yielded ops a.tmps) = true then Oper.wp P o a w K Q else E := by
  have hw : Region.wanted o (yielded ops a.tmps) = true := by simp [Region.wanted, hgd]
  rw [if_pos hw]
  exact wp_append_bytes s x t ho B i ht hi hz hsz hb v l hs hown q A m c src hx hm hsrc hlen hB h

end Go.Proofs.Ytnejidaplbonoaa
