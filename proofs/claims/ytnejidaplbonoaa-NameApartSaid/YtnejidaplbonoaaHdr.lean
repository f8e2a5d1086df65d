/-
  Slices of slice headers: what lies in memory, a slice of the call's own, append onto it, headers that read as lists of bytes.
-/
import Derived.Test.YtnejidaplbonoaaBytes
import Derived.Deep.AppendLies
namespace Go.Proofs.Ytnejidaplbonoaa
open Go.RowKit
set_option linter.unusedVariables false
set_option linter.unusedSimpArgs false

/-- At address A (of block q) lie the values vs; of an empty list nothing is said. -/
def MemV (w : World) (q : Nat) (A : Option Addr) (vs : List Value) : Prop :=
  vs = [] ∨ ∃ o, A = some ⟨q, o, none⟩ ∧ ∀ j v, vs[j]? = some v → w.cell? ⟨q, o + j, none⟩ = some v
theorem MemV.below0 {w w' : World} {q : Nat} {A : Option Addr} {vs : List Value} (h : MemV w q A vs) (hb : Below w.heap.size w w') : MemV w' q A vs := by
  rcases h with h | ⟨o, ho, hc⟩
  · exact .inl h
  · exact .inr ⟨o, ho, fun j v hj => (hb.cell (p := ⟨q, o + j, none⟩) (World.block_lt_of_cell? w _ (hc j v hj))).trans (hc j v hj)⟩
/-- At address A lie slices of one-cell values, which read as VL. -/
def MemVV (w : World) (q : Nat) (A : Option Addr) (VL : List (List Value)) : Prop :=
  VL = [] ∨ ∃ o, A = some ⟨q, o, none⟩ ∧ ∀ j vs, VL[j]? = some vs → ∃ A' q' c', w.cell? ⟨q, o + j, none⟩ = some (.slice A' vs.length c') ∧ MemV w q' A' vs ∧ ∀ v ∈ vs, v.oneCell' = true
theorem MemVV.at_ {w : World} {q : Nat} {A : Option Addr} {VL : List (List Value)} {j : Nat} (h : MemVV w q A VL) (hj : j < VL.length) :
    ∃ o A' q' c', A = some ⟨q, o, none⟩ ∧ w.cell? ⟨q, o + j, none⟩ = some (.slice A' (VL[j]'hj).length c') ∧ MemV w q' A' (VL[j]'hj) ∧ ∀ v ∈ VL[j]'hj, v.oneCell' = true := by
  rcases h with rfl | ⟨o, ho, hc⟩
  · simp at hj
  · obtain ⟨A', q', c', h1, h2, h3⟩ := hc j _ (List.getElem?_eq_getElem hj)
    exact ⟨o, A', q', c', ho, h1, h2, h3⟩
theorem MemVV.below0 {w w' : World} {q : Nat} {A : Option Addr} {VL : List (List Value)} (h : MemVV w q A VL) (hb : Below w.heap.size w w') : MemVV w' q A VL := by
  rcases h with rfl | ⟨o, ho, hc⟩
  · exact .inl rfl
  · refine .inr ⟨o, ho, fun j l hj => ?_⟩
    obtain ⟨A', q', c', h1, h2, h3⟩ := hc j l hj
    exact ⟨A', q', c', (hb.cell (p := ⟨q, o + j, none⟩) (World.block_lt_of_cell? w _ h1)).trans h1, h2.below0 hb, h3⟩
/-- v is a slice of byte slices of the call's own that holds just the values vs. -/
def OwnV (w : World) (B : Nat) (v : Value) (vs : List Value) : Prop := w.ownsRow B 28 1 v vs.length vs
theorem sl_info : (Try.prog.info? 28).map (fun i => (i.zero, i.size, i.bytes)) = some (some (.slice none 0 0), 1, 24) := by kernel_rfl

theorem run_append_vals {P : Program} (w : World) (B : Nat) (t ty : TypeId) (i : TypeInfo) (ht : P.underlying t = some (.slice 28)) (hi : P.info? 28 = some i)
    (hz : i.zero = some (.slice none 0 0)) (hs : i.size = 1) (hb : i.bytes = 24) (v : Value) (l : List Value) (hown : OwnV w B v l)
    (q : Nat) (A : Option Addr) (m c : Nat) (s : List Value) (hm : m = s.length) (hsrc : MemV w q A s) (h1 : ∀ u ∈ s, u.oneCell' = true) (hlen : (l.length + s.length) * 24 ≤ 140737488355328) (hB : B ≤ w.heap.size) :
    ∃ v' w', (Builtin.append_ #[t, t] ty #[v, .slice A m c]).run P w = .ok v' w' ∧ OwnV w' B v' (l ++ s) ∧ w.grownBy w' v.ownBlock := by
  subst hm
  cases A with
  | none =>
    have hn : s = [] := by
      rcases hsrc with h | ⟨o, h, _⟩
      · exact h
      · cases h
    subst hn
    refine ⟨v, w, ?_, by simpa using hown, World.grownBy.refl w _⟩
    rcases hown.2 with ⟨rfl, hl⟩ | ⟨g, cap, cur, rfl, _, _, hnc, _⟩
    · simp [Builtin.append_, run_underlying ht, sizeOf, typeInfo, hi, Builtin.lenOf, Builtin.firstCells]
    · simp [Builtin.append_, run_underlying ht, sizeOf, typeInfo, hi, Builtin.lenOf, Builtin.firstCells, hnc, storeCells]
  | some ad =>
    have hcells : ∀ j u, s[j]? = some u → w.cell? (ad.add j) = some u := by
      intro j u hu
      rcases hsrc with h | ⟨o, h, hc⟩
      · subst h; simp at hu
      · injection h with h
        subst h
        rw [Addr.add_mid]
        exact hc j u hu
    obtain ⟨v', w', hrun, h2, h3, _⟩ := run_append_own_at (P := P) w B t ty 28 i (.slice none 0 0) 1 24 ht hi hz hs hb rfl (by omega) v l.length l hown ad s.length c s (by simp) hcells h1
      (by unfold maxLen; omega) (by omega) hB
    exact ⟨v', w', hrun, by unfold OwnV; simpa using h2, h3⟩
theorem wpList_append_vals {P : Program} {w : World} {ops : Array Oper} {rest : List Oper} {o : Oper} {a : Act} {Q : Exit → Act → World → Prop} (hgd : o.guard = none) (s x : Operand) (t : TypeId)
    (ho : o.op = .call { callee := .builtin .append, args := #[s, x], argTypes := #[t, t] })
    (B : Nat) (i : TypeInfo) (ht : P.underlying t = some (.slice 28)) (hi : P.info? 28 = some i) (hz : i.zero = some (.slice none 0 0)) (hsz : i.size = 1) (hb : i.bytes = 24)
    (v : Value) (l : List Value) (hs : a.eval s = v) (hown : OwnV w B v l) (q : Nat) (A : Option Addr) (m c : Nat) (src : List Value) (hx : a.eval x = .slice A m c) (hm : m = src.length)
    (hsrc : MemV w q A src) (h1 : ∀ u ∈ src, u.oneCell' = true) (hlen : (l.length + src.length) * 24 ≤ 140737488355328) (hB : B ≤ w.heap.size)
    (h : ∀ v' w', OwnV w' B v' (l ++ src) → w.grownBy w' v.ownBlock → wpList P ops Q rest (a.put o.dst v') w') : wpList P ops Q (o :: rest) a w := by
  refine wpList_plain hgd fun K hK => ?_
  obtain ⟨v', w', hrun, h2, h3⟩ := run_append_vals (P := P) w B t o.type i ht hi hz hsz hb v l hown q A m c src hm hsrc h1 hlen hB
  unfold Oper.wp execOp
  simp only [ho, resolve, invoke, builtin, Sem.run_bind, Sem.run_pure, Result.andThen_ok, List.map_toArray, List.map_cons, List.map_nil, hs, hx, hrun]
  exact hK _ _ (h v' w' h2 h3)
/-- The values vs are slices of bytes that read as L. -/
def Hdrs (w : World) (vs : List Value) (L : List (List UInt8)) : Prop :=
  vs.length = L.length ∧ ∀ (j : Nat) (l : List UInt8), L[j]? = some l → ∃ (A' : Option Addr) (q' c' : Nat), vs[j]? = some (Value.slice A' l.length c') ∧ Mem w q' A' l ∧ l.length ≤ c'
theorem Hdrs.below0 {w w' : World} {vs : List Value} {L : List (List UInt8)} (h : Hdrs w vs L) (hb : Below w.heap.size w w') : Hdrs w' vs L :=
  ⟨h.1, fun j l hj => by
    obtain ⟨A', q', c', h1, h2, h3⟩ := h.2 j l hj
    exact ⟨A', q', c', h1, h2.below0 hb, h3⟩⟩
theorem Hdrs.one {w : World} {vs : List Value} {L : List (List UInt8)} (h : Hdrs w vs L) : ∀ v ∈ vs, v.oneCell' = true := by
  intro v hv
  obtain ⟨j, hj, rfl⟩ := List.getElem_of_mem hv
  obtain ⟨A', q', c', h1, _⟩ := h.2 j _ (List.getElem?_eq_getElem (by rw [← h.1]; exact hj))
  rw [List.getElem?_eq_getElem hj] at h1
  rw [Option.some.inj h1]
  rfl
theorem Hdrs.append {w : World} {vs us : List Value} {L M : List (List UInt8)} (h : Hdrs w vs L) (k : Hdrs w us M) : Hdrs w (vs ++ us) (L ++ M) := by
  refine ⟨by rw [List.length_append, List.length_append, h.1, k.1], fun j l hj => ?_⟩
  by_cases hlt : j < L.length
  · rw [List.getElem?_append_left hlt] at hj
    rw [List.getElem?_append_left (by rw [h.1]; exact hlt)]
    exact h.2 j l hj
  · rw [List.getElem?_append_right (by omega)] at hj
    rw [List.getElem?_append_right (by rw [h.1]; omega), h.1]
    exact k.2 _ l hj
theorem hdrs_one {w : World} {q c : Nat} {A : Option Addr} {l : List UInt8} (h : Mem w q A l) (hc : l.length ≤ c) : Hdrs w [.slice A l.length c] [l] := by
  refine ⟨rfl, fun j l' hj => ?_⟩
  rcases j with _ | j
  · obtain rfl : l = l' := by simpa using hj
    exact ⟨A, q, c, rfl, h, hc⟩
  · simp at hj
theorem memM_vals {w : World} {q : Nat} {A : Option Addr} {L : List (List UInt8)} (h : MemM w q A L) : ∃ vs, MemV w q A vs ∧ Hdrs w vs L := by
  rcases h with rfl | ⟨o, ho, hc⟩
  · exact ⟨[], .inl rfl, rfl, fun j l hj => by simp at hj⟩
  · have each : ∀ j, j < L.length → ∃ v, w.cell? ⟨q, o + j, none⟩ = some v ∧ ∀ l, L[j]? = some l → ∃ A' q' c', v = Value.slice A' l.length c' ∧ Mem w q' A' l ∧ l.length ≤ c' := by
      intro j hj
      obtain ⟨A', q', c', h1, h2, h3⟩ := hc j _ (List.getElem?_eq_getElem hj)
      refine ⟨_, h1, fun l hl => ?_⟩
      rw [List.getElem?_eq_getElem hj] at hl
      obtain rfl := Option.some.inj hl
      exact ⟨A', q', c', rfl, h2, h3⟩
    have hall : ∀ j, ∃ v, j < L.length → (w.cell? ⟨q, o + j, none⟩ = some v ∧ ∀ l, L[j]? = some l → ∃ A' q' c', v = Value.slice A' l.length c' ∧ Mem w q' A' l ∧ l.length ≤ c') := by
      intro j
      by_cases hj : j < L.length
      · obtain ⟨v, hv⟩ := each j hj
        exact ⟨v, fun _ => hv⟩
      · exact ⟨.slice none 0 0, fun h => absurd h hj⟩
    refine ⟨(List.range L.length).map fun j => Classical.choose (hall j), .inr ⟨o, ho, fun j v hj => ?_⟩, by simp, fun j l hj => ?_⟩
    · rw [List.getElem?_map] at hj
      by_cases hlt : j < L.length
      · rw [List.getElem?_range hlt] at hj
        obtain rfl := Option.some.inj hj
        exact (Classical.choose_spec (hall j) hlt).1
      · rw [List.getElem?_eq_none (by simpa using hlt)] at hj
        cases hj
    · have hlt := (List.getElem?_eq_some_iff.1 hj).1
      obtain ⟨A', q', c', h1, h2, h3⟩ := (Classical.choose_spec (hall j) hlt).2 l hj
      exact ⟨A', q', c', by rw [List.getElem?_map, List.getElem?_range hlt, Option.map_some, h1], h2, h3⟩
theorem memM_of {w : World} {q : Nat} {A : Option Addr} {vs : List Value} {L : List (List UInt8)} (h : MemV w q A vs) (k : Hdrs w vs L) : MemM w q A L := by
  rcases h with h | ⟨o, ho, hc⟩
  · subst h
    exact .inl (List.length_eq_zero_iff.1 k.1.symm)
  · refine .inr ⟨o, ho, fun j l hj => ?_⟩
    obtain ⟨A', q', c', h1, h2, h3⟩ := k.2 j l hj
    exact ⟨A', q', c', hc j _ h1, h2, h3⟩
theorem OwnV.form {w : World} {B : Nat} {v : Value} {vs : List Value} (h : OwnV w B v vs) : ∃ A q c, v = .slice A vs.length c ∧ vs.length ≤ c ∧ MemV w q A vs := by
  obtain ⟨h1, h2⟩ := h
  rcases h2 with ⟨rfl, hn⟩ | ⟨g, cap, cur, rfl, hg, hh, hnc, hcm, hsz, ht⟩
  · have : vs = [] := List.length_eq_zero_iff.1 hn
    subst this
    exact ⟨none, 0, 0, rfl, Nat.le_refl _, .inl rfl⟩
  · refine ⟨_, g, cap, rfl, hnc, .inr ⟨0, rfl, fun j u hj => ?_⟩⟩
    rw [cell_of_row w g (0 + j) cur _ (0, 0) hh, Nat.zero_add, ← Array.getElem?_toList]
    rw [← ht, List.getElem?_take] at hj
    split at hj
    · exact hj
    · cases hj
theorem mem_blk {w : World} {g : Nat} {t : TypeId} {l : List UInt8} (h : Blk w g t (l.map bv).toArray) : Mem w g (some ⟨g, 0, none⟩) l := by
  refine .inr ⟨0, rfl, fun j b hj => ?_⟩
  rw [h.cell, Nat.zero_add]
  simp [hj, bv]
theorem memM_two {w : World} {A1 A2 : Option Addr} {q1 q2 c1 c2 g : Nat} {l1 l2 : List UInt8} (hg : g = w.heap.size) (h1 : Mem w q1 A1 l1) (h2 : Mem w q2 A2 l2) (hc1 : l1.length ≤ c1) (hc2 : l2.length ≤ c2) :
    MemM (w.alloc (.cells #[.slice A1 l1.length c1, .slice A2 l2.length c2] 28)) g (some ⟨g, 0, none⟩) [l1, l2] := by
  subst hg
  refine .inr ⟨0, rfl, fun j l hj => ?_⟩
  rcases j with _ | _ | j
  · obtain rfl : l1 = l := by simpa using hj
    exact ⟨A1, q1, c1, by rw [(Blk.new w 28 #[.slice A1 l1.length c1, .slice A2 l2.length c2]).cell]; rfl, h1.alloc _, hc1⟩
  · obtain rfl : l2 = l := by simpa using hj
    exact ⟨A2, q2, c2, by rw [(Blk.new w 28 #[.slice A1 l1.length c1, .slice A2 l2.length c2]).cell]; rfl, h2.alloc _, hc2⟩
  · simp at hj
/-! ### A list of headers that is built by append, its own block apart from what the headers read -/
theorem run_append_vals2 {P : Program} (w : World) (B : Nat) (t ty : TypeId) (i : TypeInfo) (ht : P.underlying t = some (.slice 28)) (hi : P.info? 28 = some i)
    (hz : i.zero = some (.slice none 0 0)) (hs : i.size = 1) (hb : i.bytes = 24) (v : Value) (l : List Value) (hown : OwnV w B v l)
    (q o : Nat) (m c : Nat) (s : List Value) (hm : m = s.length) (hsrc : MemV w q (some ⟨q, o, none⟩) s) (h1 : ∀ u ∈ s, u.oneCell' = true) (hlen : (l.length + s.length) * 24 ≤ 140737488355328) (hB : B ≤ w.heap.size) :
    ∃ v' w', (Builtin.append_ #[t, t] ty #[v, .slice (some ⟨q, o, none⟩) m c]).run P w = .ok v' w' ∧ OwnV w' B v' (l ++ s) ∧ w.grownBy w' v.ownBlock ∧ (v'.ownBlock = v.ownBlock ∨ v'.ownBlock = some w.heap.size) := by
  subst hm
  have hcells : ∀ j u, s[j]? = some u → w.cell? ((⟨q, o, none⟩ : Addr).add j) = some u := by
    intro j u hu
    rcases hsrc with h | ⟨o', h, hc⟩
    · subst h; simp at hu
    · injection h with h
      injection h with _ h
      subst h
      rw [Addr.add_mid]
      exact hc j u hu
  obtain ⟨v', w', hrun, h2, h3, _, h5⟩ := run_append_own_at (P := P) w B t ty 28 i (.slice none 0 0) 1 24 ht hi hz hs hb rfl (by omega) v l.length l hown ⟨q, o, none⟩ s.length c s (by simp) hcells h1
    (by unfold maxLen; omega) (by omega) hB
  exact ⟨v', w', hrun, by unfold OwnV; simpa using h2, h3, h5⟩
theorem wpList_append_vals2 {P : Program} {w : World} {ops : Array Oper} {rest : List Oper} {o : Oper} {a : Act} {Q : Exit → Act → World → Prop} (hgd : o.guard = none) (s x : Operand) (t : TypeId)
    (ho : o.op = .call { callee := .builtin .append, args := #[s, x], argTypes := #[t, t] })
    (B : Nat) (i : TypeInfo) (ht : P.underlying t = some (.slice 28)) (hi : P.info? 28 = some i) (hz : i.zero = some (.slice none 0 0)) (hsz : i.size = 1) (hb : i.bytes = 24)
    (v : Value) (l : List Value) (hs : a.eval s = v) (hown : OwnV w B v l) (q of : Nat) (m c : Nat) (src : List Value) (hx : a.eval x = .slice (some ⟨q, of, none⟩) m c) (hm : m = src.length)
    (hsrc : MemV w q (some ⟨q, of, none⟩) src) (h1 : ∀ u ∈ src, u.oneCell' = true) (hlen : (l.length + src.length) * 24 ≤ 140737488355328) (hB : B ≤ w.heap.size)
    (h : ∀ v' w', OwnV w' B v' (l ++ src) → w.grownBy w' v.ownBlock → (v'.ownBlock = v.ownBlock ∨ v'.ownBlock = some w.heap.size) → wpList P ops Q rest (a.put o.dst v') w') : wpList P ops Q (o :: rest) a w := by
  refine wpList_plain hgd fun K hK => ?_
  obtain ⟨v', w', hrun, h2, h3, h4⟩ := run_append_vals2 (P := P) w B t o.type i ht hi hz hsz hb v l hown q of m c src hm hsrc h1 hlen hB
  unfold Oper.wp execOp
  simp only [ho, resolve, invoke, builtin, Sem.run_bind, Sem.run_pure, Result.andThen_ok, List.map_toArray, List.map_cons, List.map_nil, hs, hx, hrun]
  exact hK _ _ (h v' w' h2 h3 h4)
/-- The values vs are slices of bytes that read as L; what they read lies outside the block of v. -/
def HdrsA (w : World) (v : Value) (vs : List Value) (L : List (List UInt8)) : Prop :=
  vs.length = L.length ∧ ∀ (j : Nat) (l : List UInt8), L[j]? = some l → ∃ (A' : Option Addr) (q' c' : Nat), vs[j]? = some (Value.slice A' l.length c') ∧ Mem w q' A' l ∧ l.length ≤ c' ∧ (l = [] ∨ v.ownBlock ≠ some q')
theorem HdrsA.hdrs {w : World} {v : Value} {vs : List Value} {L : List (List UInt8)} (h : HdrsA w v vs L) : Hdrs w vs L :=
  ⟨h.1, fun j l hj => by
    obtain ⟨A', q', c', h1, h2, h3, _⟩ := h.2 j l hj
    exact ⟨A', q', c', h1, h2, h3⟩⟩
theorem HdrsA.below0 {w w' : World} {v : Value} {vs : List Value} {L : List (List UInt8)} (h : HdrsA w v vs L) (hb : Below w.heap.size w w') : HdrsA w' v vs L :=
  ⟨h.1, fun j l hj => by
    obtain ⟨A', q', c', h1, h2, h3, h4⟩ := h.2 j l hj
    exact ⟨A', q', c', h1, h2.below0 hb, h3, h4⟩⟩
/-- The list with one header more. -/
theorem HdrsA.step {wr W3 : World} {v v3 : Value} {vs : List Value} {L : List (List UInt8)} {q c : Nat} {A : Option Addr} {l : List UInt8} {T : TypeId} (h : HdrsA wr v vs L) (hm : Mem wr q A l) (hc : l.length ≤ c) (hq : l = [] ∨ v.ownBlock ≠ some q)
    (hg : (wr.alloc (.cells #[.slice A l.length c] T)).grownBy W3 v.ownBlock) (h3 : v3.ownBlock = v.ownBlock ∨ v3.ownBlock = some (wr.alloc (.cells #[.slice A l.length c] T)).heap.size) :
    HdrsA W3 v3 (vs ++ [.slice A l.length c]) (L ++ [l]) := by
  have key : ∀ (q' : Nat) (A' : Option Addr) (l' : List UInt8), Mem wr q' A' l' → (l' = [] ∨ v.ownBlock ≠ some q') → Mem W3 q' A' l' ∧ (l' = [] ∨ v3.ownBlock ≠ some q') := by
    intro q' A' l' hm' hq'
    rcases hq' with e | e
    · exact ⟨.inl e, .inl e⟩
    · refine ⟨(hm'.alloc _).grown hg (fun z => e z.symm), ?_⟩
      by_cases hn : l' = []
      · exact .inl hn
      · refine .inr fun z => ?_
        have hlt := hm'.lt hn
        rcases h3 with h3 | h3
        · exact e (h3 ▸ z)
        · rw [h3] at z
          injection z with z
          rw [World.size_alloc] at z
          omega
  refine ⟨by rw [List.length_append, List.length_append, h.1]; rfl, fun j l' hj => ?_⟩
  by_cases hlt : j < L.length
  · rw [List.getElem?_append_left hlt] at hj
    rw [List.getElem?_append_left (by rw [h.1]; exact hlt)]
    obtain ⟨A', q', c', h1, h2, h4, h5⟩ := h.2 j l' hj
    obtain ⟨k1, k2⟩ := key q' A' l' h2 h5
    exact ⟨A', q', c', h1, k1, h4, k2⟩
  · rw [List.getElem?_append_right (by omega)] at hj
    rw [List.getElem?_append_right (by rw [h.1]; omega), h.1]
    obtain ⟨k1, k2⟩ := key q A l hm hq
    match hjj : j - L.length, hj with
    | 0, hj =>
      obtain rfl : l = l' := by simpa using hj
      exact ⟨A, q, c, rfl, k1, hc, k2⟩
/-- A literal of headers. -/
theorem own_litV (w : World) (vs : List Value) (hn : vs.length ≤ 1000) : OwnV (w.alloc (.cells vs.toArray 28)) w.heap.size (.slice (some ⟨w.heap.size, 0, none⟩) vs.length vs.length) vs := by
  refine ⟨by simp, .inr ⟨w.heap.size, vs.length, vs.toArray, rfl, Nat.le_refl _, heap_alloc_new w _, Nat.le_refl _, by unfold maxLen; omega, by simp, by simp⟩⟩
theorem memV_lit {w : World} {T : TypeId} (vs : List Value) : MemV (w.alloc (.cells vs.toArray T)) w.heap.size (some ⟨w.heap.size, 0, none⟩) vs := by
  refine .inr ⟨0, rfl, fun j v hj => ?_⟩
  rw [(Blk.new w T vs.toArray).cell]
  simpa using hj
end Go.Proofs.Ytnejidaplbonoaa
