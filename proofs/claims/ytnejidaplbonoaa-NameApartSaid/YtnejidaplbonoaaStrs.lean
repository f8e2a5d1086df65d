/-
  Words for slices of strings: what lies in memory, a slice of the call's own, append onto it.
-/
import Derived.Test.YtnejidaplbonoaaNameM
namespace Go.Proofs.Ytnejidaplbonoaa
open Go.RowKit

theorem str_info : (Try.prog.info? 9).map (fun i => (i.zero, i.size, i.bytes)) = some (some (.string ⟨#[]⟩), 1, 16) := by kernel_rfl
theorem str_parts : ∃ i, Try.prog.info? 9 = some i ∧ i.zero = some (.string ⟨#[]⟩) ∧ i.size = 1 ∧ i.bytes = 16 := by
  have h := str_info
  cases hi : Try.prog.info? 9 with
  | none => rw [hi] at h; cases h
  | some i =>
    rw [hi] at h
    simp only [Option.map_some, Option.some.injEq, Prod.mk.injEq] at h
    exact ⟨i, rfl, h.1, h.2.1, h.2.2⟩
def sv (n : ByteArray) : Value := .string n
theorem oneCell_sv (l : List ByteArray) : ∀ u ∈ l.map sv, u.oneCell' = true := by
  intro u hu
  obtain ⟨b, _, rfl⟩ := List.mem_map.1 hu
  rfl
section
variable {w w' : World} {q : Nat} {A : Option Addr} {l : List ByteArray}
theorem MemS.lt (h : MemS w q A l) (hne : l ≠ []) : q < w.heap.size := by
  have hp : 0 < l.length := List.length_pos_iff.2 hne
  obtain ⟨o, _, hc⟩ := h.at_ hp
  exact World.block_lt_of_cell? w ⟨q, o + 0, none⟩ hc
theorem MemS.keep (h : MemS w q A l) (hk : q < w.heap.size → w'.heap[q]? = w.heap[q]?) : MemS w' q A l := by
  by_cases hne : l = []
  · exact .inl hne
  · have hb := hk (h.lt hne)
    rcases h with h | ⟨o, ho, hc⟩
    · exact .inl h
    · exact .inr ⟨o, ho, fun j b hj => (World.cell?_of_block (a := ⟨q, o + j, none⟩) hb).trans (hc j b hj)⟩
theorem MemS.grown {row : Option Nat} (h : MemS w q A l) (hg : w.grownBy w' row) (hne : some q ≠ row) : MemS w' q A l := h.keep fun hq => hg.block q hq hne
theorem MemS.alloc (h : MemS w q A l) (o : Obj) : MemS (w.alloc o) q A l := h.keep fun hq => Below.heap_alloc w o q hq
theorem memS_lit {w : World} {t : TypeId} {l : List ByteArray} {cs : Array Value} (h : cs = (l.map sv).toArray) : MemS (w.alloc (.cells cs t)) w.heap.size (some ⟨w.heap.size, 0, none⟩) l := by
  subst h
  refine .inr ⟨0, rfl, fun j b hj => ?_⟩
  rw [(Blk.new w t (l.map sv).toArray).cell]
  simp [hj, sv]
end

/-- A slice value of the call's own (blocks from B on, not frozen, nil possible), element type T, that holds just the strings l. -/
def OwnS (T : TypeId) (w : World) (B : Nat) (v : Value) (l : List ByteArray) : Prop := w.ownsRow B T 1 v l.length (l.map sv)
section
variable {T : TypeId} {w w' : World} {B : Nat} {v : Value} {l : List ByteArray}
theorem OwnS.nil_ (T : TypeId) (w : World) (B : Nat) : OwnS T w B (.slice none 0 0) [] := World.ownsRow_nil w B _ 1
theorem OwnS.mono {B' : Nat} (h : OwnS T w B v l) (hb : B' ≤ B) : OwnS T w B' v l := World.ownsRow.mono h hb
theorem OwnS.alloc (h : OwnS T w B v l) (o : Obj) : OwnS T (w.alloc o) B v l := World.ownsRow.alloc h o
theorem OwnS.lt (h : OwnS T w B v l) : ∀ k, v.ownBlock = some k → B ≤ k ∧ k < w.heap.size := fun k hk => World.ownsRow.lt h k hk
theorem OwnS.keep (h : OwnS T w B v l) (hk : ∀ k, v.ownBlock = some k → w'.heap[k]? = w.heap[k]?) : OwnS T w' B v l := by
  refine ⟨h.1, ?_⟩
  rcases h.2 with h | ⟨g, cap, cur, hv, hg, hh, r⟩
  · exact .inl h
  · exact .inr ⟨g, cap, cur, hv, hg, (hk g (by rw [hv]; rfl)).trans hh, r⟩
theorem OwnS.below (h : OwnS T w B v l) (hb : Below w.heap.size w w') : OwnS T w' B v l := h.keep fun k hk => hb.block k (World.ownsRow.lt h k hk).2
theorem OwnS.grown {row : Option Nat} (h : OwnS T w B v l) (hg : w.grownBy w' row) (hne : ∀ k, v.ownBlock = some k → some k ≠ row) : OwnS T w' B v l :=
  h.keep fun k hk => hg.block k (World.ownsRow.lt h k hk).2 (hne k hk)
theorem OwnS.place {q o n c : Nat} (h : OwnS T w B (.slice (some ⟨q, o, none⟩) n c) l) : B ≤ q := by
  rcases h.2 with ⟨hv, _⟩ | ⟨g, cap, cur, hv, hg, _⟩
  · cases hv
  · injection hv with hv
    injection hv with hv
    injection hv with hv
    omega
theorem OwnS.form (h : OwnS T w B v l) : ∃ A q c, v = .slice A l.length c ∧ l.length ≤ c ∧ c ≤ maxLen ∧ MemS w q A l := by
  obtain ⟨h1, h2⟩ := h
  rcases h2 with ⟨rfl, hn⟩ | ⟨g, cap, cur, rfl, hg, hh, hnc, hcm, hsz, ht⟩
  · have : l = [] := List.length_eq_zero_iff.1 hn
    subst this
    exact ⟨none, 0, 0, rfl, Nat.le_refl _, by unfold maxLen; omega, .inl rfl⟩
  · refine ⟨_, g, cap, rfl, hnc, hcm, .inr ⟨0, rfl, fun j b hj => ?_⟩⟩
    rw [cell_of_row w g (0 + j) cur _ (0, 0) hh]
    have : (l.map sv)[j]? = some (sv b) := by rw [List.getElem?_map, hj]; rfl
    rw [← ht, List.getElem?_take] at this
    split at this
    · rw [Nat.zero_add, ← Array.getElem?_toList]; exact this
    · cases this
end

theorem run_append_strs {P : Program} {T : TypeId} (w : World) (B : Nat) (t ty : TypeId) (i : TypeInfo) (ht : P.underlying t = some (.slice T)) (hi : P.info? T = some i)
    (hz : i.zero = some (.string ⟨#[]⟩)) (hs : i.size = 1) (hb : i.bytes = 16) (v : Value) (l : List ByteArray) (hown : OwnS T w B v l)
    (q : Nat) (A : Option Addr) (m c : Nat) (s : List ByteArray) (hm : m = s.length) (hsrc : MemS w q A s) (hlen : l.length + s.length ≤ 1000000) (hB : B ≤ w.heap.size) :
    ∃ v' w', (Builtin.append_ #[t, t] ty #[v, .slice A m c]).run P w = .ok v' w' ∧ OwnS T w' B v' (l ++ s) ∧ w.grownBy w' v.ownBlock := by
  subst hm
  cases A with
  | none =>
    have hn : s = [] := by
      rcases hsrc with h | ⟨o, h, _⟩
      · exact h
      · cases h
    subst hn
    refine ⟨v, w, ?_, by simpa using hown, World.grownBy.refl w _⟩
    rcases hown.2 with ⟨rfl, hl⟩ | ⟨g, cap, cur, rfl, _, _, hnc, _⟩
    · simp [Builtin.append_, run_underlying ht, sizeOf, typeInfo, hi, Builtin.lenOf, Builtin.firstCells]
    · simp [Builtin.append_, run_underlying ht, sizeOf, typeInfo, hi, Builtin.lenOf, Builtin.firstCells, hnc, storeCells]
  | some ad =>
    have hcells : ∀ j u, (s.map sv)[j]? = some u → w.cell? (ad.add j) = some u := by
      intro j u hu
      rw [List.getElem?_map] at hu
      cases hj : s[j]? with
      | none => rw [hj] at hu; cases hu
      | some b =>
        rw [hj] at hu
        simp only [Option.map_some, Option.some.injEq] at hu
        subst hu
        rcases hsrc with h | ⟨o, h, hc⟩
        · subst h; simp at hj
        · injection h with h
          subst h
          have := hc j b hj
          unfold Addr.add
          split
          · rename_i h0; subst h0; simpa [sv] using this
          · exact this
    obtain ⟨v', w', hrun, h2, h3, _⟩ := run_append_own_at (P := P) w B t ty T i (.string ⟨#[]⟩) 1 16 ht hi hz hs hb rfl (by omega) v l.length (l.map sv) hown ad s.length c (s.map sv) (by simp) hcells (oneCell_sv s)
      (by unfold maxLen; omega) (by omega) hB
    exact ⟨v', w', hrun, by unfold OwnS; simpa using h2, h3⟩

theorem wpList_append_strs {P : Program} {T : TypeId} {w : World} {ops : Array Oper} {rest : List Oper} {o : Oper} {a : Act} {Q : Exit → Act → World → Prop} (hgd : o.guard = none) (s x : Operand) (t : TypeId)
    (ho : o.op = .call { callee := .builtin .append, args := #[s, x], argTypes := #[t, t] })
    (B : Nat) (i : TypeInfo) (ht : P.underlying t = some (.slice T)) (hi : P.info? T = some i) (hz : i.zero = some (.string ⟨#[]⟩)) (hsz : i.size = 1) (hb : i.bytes = 16)
    (v : Value) (l : List ByteArray) (hs : a.eval s = v) (hown : OwnS T w B v l) (q : Nat) (A : Option Addr) (m c : Nat) (src : List ByteArray) (hx : a.eval x = .slice A m c) (hm : m = src.length)
    (hsrc : MemS w q A src) (hlen : l.length + src.length ≤ 1000000) (hB : B ≤ w.heap.size)
    (h : ∀ v' w', OwnS T w' B v' (l ++ src) → w.grownBy w' v.ownBlock → wpList P ops Q rest (a.put o.dst v') w') : wpList P ops Q (o :: rest) a w := by
  refine wpList_plain hgd fun K hK => ?_
  obtain ⟨v', w', hrun, h2, h3⟩ := run_append_strs (P := P) w B t o.type i ht hi hz hsz hb v l hown q A m c src hm hsrc hlen hB
  unfold Oper.wp execOp
  simp only [ho, resolve, invoke, builtin, Sem.run_bind, Sem.run_pure, Result.andThen_ok, List.map_toArray, List.map_cons, List.map_nil, hs, hx, hrun]
  exact hK _ _ (h v' w' h2 h3)
theorem wp_append_strs {P : Program} {T : TypeId} {w : World} {o : Oper} {a : Act} {K : Act → World → Prop} {Q : Exit → Act → World → Prop} (s x : Operand) (t : TypeId)
    (ho : o.op = .call { callee := .builtin .append, args := #[s, x], argTypes := #[t, t] })
    (B : Nat) (i : TypeInfo) (ht : P.underlying t = some (.slice T)) (hi : P.info? T = some i) (hz : i.zero = some (.string ⟨#[]⟩)) (hsz : i.size = 1) (hb : i.bytes = 16)
    (v : Value) (l : List ByteArray) (hs : a.eval s = v) (hown : OwnS T w B v l) (q : Nat) (A : Option Addr) (m c : Nat) (src : List ByteArray) (hx : a.eval x = .slice A m c) (hm : m = src.length)
    (hsrc : MemS w q A src) (hlen : l.length + src.length ≤ 1000000) (hB : B ≤ w.heap.size)
    (h : ∀ v' w', OwnS T w' B v' (l ++ src) → w.grownBy w' v.ownBlock → K (a.put o.dst v') w') : Oper.wp P o a w K Q := by
  obtain ⟨v', w', hrun, h2, h3⟩ := run_append_strs (P := P) w B t o.type i ht hi hz hsz hb v l hown q A m c src hm hsrc hlen hB
  unfold Oper.wp execOp
  simp only [ho, resolve, invoke, builtin, Sem.run_bind, Sem.run_pure, Result.andThen_ok, List.map_toArray, List.map_cons, List.map_nil, hs, hx, hrun]
  exact h v' w' h2 h3
/-- The same under a guard that holds. -/
theorem step_append_strs {P : Program} {T : TypeId} {w : World} {ops : Array Oper} {o : Oper} {a : Act} {K : Act → World → Prop} {Q : Exit → Act → World → Prop} {E : Prop} (hgd : o.guard = none) (s x : Operand) (t : TypeId)
    (ho : o.op = .call { callee := .builtin .append, args := #[s, x], argTypes := #[t, t] })
    (B : Nat) (i : TypeInfo) (ht : P.underlying t = some (.slice T)) (hi : P.info? T = some i) (hz : i.zero = some (.string ⟨#[]⟩)) (hsz : i.size = 1) (hb : i.bytes = 16)
    (v : Value) (l : List ByteArray) (hs : a.eval s = v) (hown : OwnS T w B v l) (q : Nat) (A : Option Addr) (m c : Nat) (src : List ByteArray) (hx : a.eval x = .slice A m c) (hm : m = src.length)
    (hsrc : MemS w q A src) (hlen : l.length + src.length ≤ 1000000) (hB : B ≤ w.heap.size)
    (h : ∀ v' w', OwnS T w' B v' (l ++ src) → w.grownBy w' v.ownBlock → K (a.put o.dst v') w') :
    if Region.wanted o (yielded ops a.tmps) = true then Oper.wp P o a w K Q else E := by
  have hw : Region.wanted o (yielded ops a.tmps) = true := by simp [Region.wanted, hgd]
  rw [if_pos hw]
  exact wp_append_strs s x t ho B i ht hi hz hsz hb v l hs hown q A m c src hx hm hsrc hlen hB h
end Go.Proofs.Ytnejidaplbonoaa
