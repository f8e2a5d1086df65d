/-
  Words for slices of 64-bit unsigned integers: what lies in memory, a slice of the call's own, append onto it.
-/
import Derived.Test.YtgjnmoonceeenaaDoorWords
namespace Go.Proofs.YtgjnmoonceeenaaDoor
open Go.RowKit

def uv (n : Int) : Value := .int .u64 n
theorem oneCell_uv (l : List Int) : ∀ u ∈ l.map uv, u.oneCell' = true := by
  intro u hu
  obtain ⟨b, _, rfl⟩ := List.mem_map.1 hu
  rfl
/-- At address A (of block q) lie the integers l. -/
def MemU (w : World) (q : Nat) (A : Option Addr) (l : List Int) : Prop :=
  l = [] ∨ ∃ o, A = some ⟨q, o, none⟩ ∧ ∀ j b, l[j]? = some b → w.cell? ⟨q, o + j, none⟩ = some (.int .u64 b)
section
variable {w w' : World} {q : Nat} {A : Option Addr} {l : List Int}
theorem MemU.at_ {k : Nat} (h : MemU w q A l) (hk : k < l.length) : ∃ o, A = some ⟨q, o, none⟩ ∧ w.cell? ⟨q, o + k, none⟩ = some (.int .u64 (l[k]'hk)) := by
  rcases h with rfl | ⟨o, ho, hc⟩
  · simp at hk
  · exact ⟨o, ho, hc k _ (List.getElem?_eq_getElem hk)⟩
theorem MemU.lt (h : MemU w q A l) (hne : l ≠ []) : q < w.heap.size := by
  have hp : 0 < l.length := List.length_pos_iff.2 hne
  obtain ⟨o, _, hc⟩ := h.at_ hp
  exact World.block_lt_of_cell? w ⟨q, o + 0, none⟩ hc
theorem MemU.keep (h : MemU w q A l) (hk : q < w.heap.size → w'.heap[q]? = w.heap[q]?) : MemU w' q A l := by
  by_cases hne : l = []
  · exact .inl hne
  · have hb := hk (h.lt hne)
    rcases h with h | ⟨o, ho, hc⟩
    · exact .inl h
    · exact .inr ⟨o, ho, fun j b hj => (World.cell?_of_block (a := ⟨q, o + j, none⟩) hb).trans (hc j b hj)⟩
theorem MemU.grown {row : Option Nat} (h : MemU w q A l) (hg : w.grownBy w' row) (hne : some q ≠ row) : MemU w' q A l := h.keep fun hq => hg.block q hq hne
theorem MemU.below0 (h : MemU w q A l) (hb : Below w.heap.size w w') : MemU w' q A l := h.keep fun hq => hb.block q hq
theorem MemU.alloc (h : MemU w q A l) (o : Obj) : MemU (w.alloc o) q A l := h.keep fun hq => Below.heap_alloc w o q hq
theorem memU_lit {w : World} {t : TypeId} {l : List Int} {cs : Array Value} (h : cs = (l.map uv).toArray) : MemU (w.alloc (.cells cs t)) w.heap.size (some ⟨w.heap.size, 0, none⟩) l := by
  subst h
  refine .inr ⟨0, rfl, fun j b hj => ?_⟩
  rw [(Blk.new w t (l.map uv).toArray).cell]
  simp [hj, uv]
end

/-- A slice value of the call's own (blocks from B on, not frozen, nil possible), element type T, that holds just the integers l. -/
def OwnU (T : TypeId) (w : World) (B : Nat) (v : Value) (l : List Int) : Prop := w.ownsRow B T 1 v l.length (l.map uv)
section
variable {T : TypeId} {w w' : World} {B : Nat} {v : Value} {l : List Int}
theorem OwnU.nil_ (T : TypeId) (w : World) (B : Nat) : OwnU T w B (.slice none 0 0) [] := World.ownsRow_nil w B _ 1
theorem OwnU.mono {B' : Nat} (h : OwnU T w B v l) (hb : B' ≤ B) : OwnU T w B' v l := World.ownsRow.mono h hb
theorem OwnU.alloc (h : OwnU T w B v l) (o : Obj) : OwnU T (w.alloc o) B v l := World.ownsRow.alloc h o
theorem OwnU.lt (h : OwnU T w B v l) : ∀ k, v.ownBlock = some k → B ≤ k ∧ k < w.heap.size := fun k hk => World.ownsRow.lt h k hk
theorem OwnU.keep (h : OwnU T w B v l) (hk : ∀ k, v.ownBlock = some k → w'.heap[k]? = w.heap[k]?) : OwnU T w' B v l := by
  refine ⟨h.1, ?_⟩
  rcases h.2 with h | ⟨g, cap, cur, hv, hg, hh, r⟩
  · exact .inl h
  · exact .inr ⟨g, cap, cur, hv, hg, (hk g (by rw [hv]; rfl)).trans hh, r⟩
theorem OwnU.below (h : OwnU T w B v l) (hb : Below w.heap.size w w') : OwnU T w' B v l := h.keep fun k hk => hb.block k (World.ownsRow.lt h k hk).2
theorem OwnU.grown {row : Option Nat} (h : OwnU T w B v l) (hg : w.grownBy w' row) (hne : ∀ k, v.ownBlock = some k → some k ≠ row) : OwnU T w' B v l :=
  h.keep fun k hk => hg.block k (World.ownsRow.lt h k hk).2 (hne k hk)
theorem OwnU.form (h : OwnU T w B v l) : ∃ A q c, v = .slice A l.length c ∧ l.length ≤ c ∧ c ≤ maxLen ∧ MemU w q A l := by
  obtain ⟨h1, h2⟩ := h
  rcases h2 with ⟨rfl, hn⟩ | ⟨g, cap, cur, rfl, hg, hh, hnc, hcm, hsz, ht⟩
  · have : l = [] := List.length_eq_zero_iff.1 hn
    subst this
    exact ⟨none, 0, 0, rfl, Nat.le_refl _, by unfold maxLen; omega, .inl rfl⟩
  · refine ⟨_, g, cap, rfl, hnc, hcm, .inr ⟨0, rfl, fun j b hj => ?_⟩⟩
    rw [cell_of_row w g (0 + j) cur _ (0, 0) hh]
    have : (l.map uv)[j]? = some (uv b) := by rw [List.getElem?_map, hj]; rfl
    rw [← ht, List.getElem?_take] at this
    split at this
    · rw [Nat.zero_add, ← Array.getElem?_toList]; exact this
    · cases this
end

theorem run_append_us {P : Program} {T : TypeId} (w : World) (B : Nat) (t ty : TypeId) (i : TypeInfo) (ht : P.underlying t = some (.slice T)) (hi : P.info? T = some i)
    (hz : i.zero = some (.int .u64 0)) (hs : i.size = 1) (hb : i.bytes = 8) (v : Value) (l : List Int) (hown : OwnU T w B v l)
    (q : Nat) (A : Option Addr) (m c : Nat) (s : List Int) (hm : m = s.length) (hsrc : MemU w q A s) (hlen : l.length + s.length ≤ 1000000) (hB : B ≤ w.heap.size) :
    ∃ v' w', (Builtin.append_ #[t, t] ty #[v, .slice A m c]).run P w = .ok v' w' ∧ OwnU T w' B v' (l ++ s) ∧ w.grownBy w' v.ownBlock := by
  subst hm
  cases A with
  | none =>
    have hn : s = [] := by
      rcases hsrc with h | ⟨o, h, _⟩
      · exact h
      · cases h
    subst hn
    refine ⟨v, w, ?_, by simpa using hown, World.grownBy.refl w _⟩
    rcases hown.2 with ⟨rfl, hl⟩ | ⟨g, cap, cur, rfl, _, _, hnc, _⟩
    · simp [Builtin.append_, run_underlying ht, sizeOf, typeInfo, hi, Builtin.lenOf, Builtin.firstCells]
    · simp [Builtin.append_, run_underlying ht, sizeOf, typeInfo, hi, Builtin.lenOf, Builtin.firstCells, hnc, storeCells]
  | some ad =>
    have hcells : ∀ j u, (s.map uv)[j]? = some u → w.cell? (ad.add j) = some u := by
      intro j u hu
      rw [List.getElem?_map] at hu
      cases hj : s[j]? with
      | none => rw [hj] at hu; cases hu
      | some b =>
        rw [hj] at hu
        simp only [Option.map_some, Option.some.injEq] at hu
        subst hu
        rcases hsrc with h | ⟨o, h, hc⟩
        · subst h; simp at hj
        · injection h with h
          subst h
          have := hc j b hj
          unfold Addr.add
          split
          · rename_i h0; subst h0; simpa [uv] using this
          · exact this
    obtain ⟨v', w', hrun, h2, h3, _⟩ := run_append_own_at (P := P) w B t ty T i (.int .u64 0) 1 8 ht hi hz hs hb rfl (by omega) v l.length (l.map uv) hown ad s.length c (s.map uv) (by simp) hcells (oneCell_uv s)
      (by unfold maxLen; omega) (by omega) hB
    exact ⟨v', w', hrun, by unfold OwnU; simpa using h2, h3⟩

theorem wpList_append_us {P : Program} {T : TypeId} {w : World} {ops : Array Oper} {rest : List Oper} {o : Oper} {a : Act} {Q : Exit → Act → World → Prop} (hgd : o.guard = none) (s x : Operand) (t : TypeId)
    (ho : o.op = .call { callee := .builtin .append, args := #[s, x], argTypes := #[t, t] })
    (B : Nat) (i : TypeInfo) (ht : P.underlying t = some (.slice T)) (hi : P.info? T = some i) (hz : i.zero = some (.int .u64 0)) (hsz : i.size = 1) (hb : i.bytes = 8)
    (v : Value) (l : List Int) (hs : a.eval s = v) (hown : OwnU T w B v l) (q : Nat) (A : Option Addr) (m c : Nat) (src : List Int) (hx : a.eval x = .slice A m c) (hm : m = src.length)
    (hsrc : MemU w q A src) (hlen : l.length + src.length ≤ 1000000) (hB : B ≤ w.heap.size)
    (h : ∀ v' w', OwnU T w' B v' (l ++ src) → w.grownBy w' v.ownBlock → wpList P ops Q rest (a.put o.dst v') w') : wpList P ops Q (o :: rest) a w := by
  refine wpList_plain hgd fun K hK => ?_
  obtain ⟨v', w', hrun, h2, h3⟩ := run_append_us (P := P) w B t o.type i ht hi hz hsz hb v l hown q A m c src hm hsrc hlen hB
  unfold Oper.wp execOp
  simp only [ho, resolve, invoke, builtin, Sem.run_bind, Sem.run_pure, Result.andThen_ok, List.map_toArray, List.map_cons, List.map_nil, hs, hx, hrun]
  exact hK _ _ (h v' w' h2 h3)

theorem wp_append_us {P : Program} {T : TypeId} {w : World} {o : Oper} {a : Act} {K : Act → World → Prop} {Q : Exit → Act → World → Prop} (s x : Operand) (t : TypeId)
    (ho : o.op = .call { callee := .builtin .append, args := #[s, x], argTypes := #[t, t] })
    (B : Nat) (i : TypeInfo) (ht : P.underlying t = some (.slice T)) (hi : P.info? T = some i) (hz : i.zero = some (.int .u64 0)) (hsz : i.size = 1) (hb : i.bytes = 8)
    (v : Value) (l : List Int) (hs : a.eval s = v) (hown : OwnU T w B v l) (q : Nat) (A : Option Addr) (m c : Nat) (src : List Int) (hx : a.eval x = .slice A m c) (hm : m = src.length)
    (hsrc : MemU w q A src) (hlen : l.length + src.length ≤ 1000000) (hB : B ≤ w.heap.size)
    (h : ∀ v' w', OwnU T w' B v' (l ++ src) → w.grownBy w' v.ownBlock → K (a.put o.dst v') w') : Oper.wp P o a w K Q := by
  obtain ⟨v', w', hrun, h2, h3⟩ := run_append_us (P := P) w B t o.type i ht hi hz hsz hb v l hown q A m c src hm hsrc hlen hB
  unfold Oper.wp execOp
  simp only [ho, resolve, invoke, builtin, Sem.run_bind, Sem.run_pure, Result.andThen_ok, List.map_toArray, List.map_cons, List.map_nil, hs, hx, hrun]
  exact h v' w' h2 h3
/-- The same under a guard that holds. -/
theorem wpList_append_us_w {P : Program} {T : TypeId} {w : World} {ops : Array Oper} {rest : List Oper} {o : Oper} {a : Act} {Q : Exit → Act → World → Prop} (hw : Region.wanted o (yielded ops a.tmps) = true) (s x : Operand) (t : TypeId)
    (ho : o.op = .call { callee := .builtin .append, args := #[s, x], argTypes := #[t, t] })
    (B : Nat) (i : TypeInfo) (ht : P.underlying t = some (.slice T)) (hi : P.info? T = some i) (hz : i.zero = some (.int .u64 0)) (hsz : i.size = 1) (hb : i.bytes = 8)
    (v : Value) (l : List Int) (hs : a.eval s = v) (hown : OwnU T w B v l) (q : Nat) (A : Option Addr) (m c : Nat) (src : List Int) (hx : a.eval x = .slice A m c) (hm : m = src.length)
    (hsrc : MemU w q A src) (hlen : l.length + src.length ≤ 1000000) (hB : B ≤ w.heap.size)
    (h : ∀ v' w', OwnU T w' B v' (l ++ src) → w.grownBy w' v.ownBlock → wpList P ops Q rest (a.put o.dst v') w') : wpList P ops Q (o :: rest) a w :=
  wpList_step fun K hK => by
    rw [if_pos hw]
    exact wp_append_us s x t ho B i ht hi hz hsz hb v l hs hown q A m c src hx hm hsrc hlen hB fun v' w' h1 h2 => hK _ _ (h v' w' h1 h2)

end Go.Proofs.YtgjnmoonceeenaaDoor
