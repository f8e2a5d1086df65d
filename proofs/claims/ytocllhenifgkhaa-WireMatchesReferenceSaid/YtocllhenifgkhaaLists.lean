/-
  Lists of byte slices that the call itself appends to, and the arguments of the types [][]byte and []Op.
-/
import Derived.Test.YtocllhenifgkhaaLawKit
import Derived.Deep.Slices
import Derived.Deep.SlicePairs
namespace Go.Proofs.Ytocllhenifgkhaa
open Go.ChangeShapes Go.WideShapes Go.ChangeAt Go.RowKit
set_option linter.unusedVariables false

/-- The slice value v, the call's own (blocks from B on), holds slices of bytes, each the call's own too, which read as L. -/
def OwnM (w : World) (B : Nat) (v : Value) (L : List (List UInt8)) : Prop :=
  ∃ xs : List Value, w.ownsRow B 22 1 v L.length xs ∧ ∀ (i : Nat) (s : List UInt8), L[i]? = some s → ∃ x, xs[i]? = some x ∧ Own w B x s

theorem OwnM.nil_ (w : World) (B : Nat) : OwnM w B (.slice none 0 0) [] := ⟨[], World.ownsRow_nil w B _ 1, fun i s h => by simp at h⟩
theorem OwnM.below {w w' : World} {B : Nat} {v : Value} {L : List (List UInt8)} (h : OwnM w B v L) (hb : Below w.heap.size w w') : OwnM w' B v L := by
  obtain ⟨xs, h1, h2⟩ := h
  refine ⟨xs, ?_, fun i s hi => ?_⟩
  · exact h1.kept (gb_of_below hb Option.none) (by cases hv : v.ownBlock <;> simp)
  · obtain ⟨x, hx, ho⟩ := h2 i s hi
    exact ⟨x, hx, ho.below hb⟩
/-- A row of slices and a row of bytes lie in different blocks. -/
theorem own_row_ne {w : World} {B B' : Nat} {u v : Value} {n : Nat} {xs : List Value} {s : List UInt8} (hu : w.ownsRow B 22 1 u n xs) (hv : Own w B' v s) : ∀ k, v.ownBlock = some k → some k ≠ u.ownBlock := by
  intro k hk he
  rcases hv.2 with ⟨rfl, _⟩ | ⟨g, cap, cur, rfl, _, hh, _⟩
  · cases hk
  · rcases hu.2 with ⟨rfl, _⟩ | ⟨g', cap', cur', rfl, _, hh', _⟩
    · cases he
    · simp only [Value.ownBlock, Option.some.injEq] at hk he
      subst hk
      subst he
      rw [hh] at hh'
      injection hh' with hh'
      injection hh' with _ ht
      exact absurd ht (by decide)
theorem OwnM.form {w : World} {B : Nat} {v : Value} {L : List (List UInt8)} (h : OwnM w B v L) : ∃ A q c, v = .slice A L.length c ∧ MemM w q A L := by
  obtain ⟨xs, h1, h2⟩ := h
  have h1' := h1
  obtain ⟨hl, h3⟩ := h1
  rcases h3 with ⟨rfl, hn⟩ | ⟨g, cap, cur, rfl, hg, hh, hnc, hcm, hsz, ht⟩
  · have : L = [] := List.length_eq_zero_iff.1 hn
    subst this
    exact ⟨none, 0, 0, rfl, .inl rfl⟩
  · refine ⟨_, g, cap, rfl, .inr ⟨0, rfl, fun j l hj => ?_⟩⟩
    obtain ⟨x, hx, ho⟩ := h2 j l hj
    obtain ⟨A', q', c', rfl, _, _, hm, _⟩ := ho.form
    have hc := h1'.cells (g := g) rfl j _ hx
    refine ⟨A', q', c', ?_, hm⟩
    rw [← hc, Nat.zero_add]
    congr 1
    unfold Addr.add
    split
    · rename_i h0; subst h0; rfl
    · simp

theorem sl_info : (Try.prog.info? 22).map (fun i => (i.zero, i.size, i.bytes)) = some (some (.slice none 0 0), 1, 24) := by kernel_rfl

/-- parts = append(parts, s): behind the law of the library. -/
theorem OwnM.snoc {w w' : World} {B : Nat} {v v' : Value} {L : List (List UInt8)} {xs : List Value} {x : Value} {s : List UInt8}
    (h1 : w.ownsRow B 22 1 v L.length xs) (h2 : ∀ (i : Nat) (s : List UInt8), L[i]? = some s → ∃ x, xs[i]? = some x ∧ Own w B x s) (hx : Own w B x s)
    (h3 : w'.ownsRow B 22 1 v' (L.length + 1) (xs ++ [x])) (hg : w.grownBy w' v.ownBlock) : OwnM w' B v' (L ++ [s]) := by
  have keep : ∀ y t, Own w B y t → Own w' B y t := fun y t hy => hy.keep fun k hk => hg.block k (World.ownsRow.lt hy k hk).2 (own_row_ne h1 hy k hk)
  have hxl : xs.length = L.length := by have := h1.1; omega
  refine ⟨xs ++ [x], by rw [List.length_append]; exact h3, fun i t hi => ?_⟩
  rcases Nat.lt_or_ge i L.length with hlt | hge
  · rw [List.getElem?_append_left hlt] at hi
    obtain ⟨y, hy, ho⟩ := h2 i t hi
    exact ⟨y, by rw [List.getElem?_append_left (by omega)]; exact hy, keep _ _ ho⟩
  · rw [List.getElem?_append_right hge] at hi
    have hi0 : i - L.length = 0 := by
      rcases Nat.eq_zero_or_pos (i - L.length) with h | h
      · exact h
      · rw [List.getElem?_eq_none (by simp; omega)] at hi
        cases hi
    rw [hi0] at hi
    simp only [List.getElem?_cons_zero, Option.some.injEq] at hi
    subst hi
    exact ⟨x, by rw [List.getElem?_append_right (by omega), hxl, hi0]; rfl, keep _ _ hx⟩

theorem open_cell_bytes {H : Type} {enc : TypeId × Value → H} {W : World} {b2 n : Nat} {sp : Nat → Bool} {held : Bool} {v : Value} {y : DataW H × List MemPlace}
    (hf : DataW.trod enc Try.prog W b2 sp held n 22 [v] = some y) : ∃ A q c l, v = .slice A l.length c ∧ Mem W q A l := by
  rcases open_ints Try.underlying22 Try.underlying5 (by kernel_rfl) hf with ⟨hcs, _⟩ | ⟨x, n, c, zs, hcs, _, hl, hm, hz, _, hcell, hwz⟩
  · simp at hcs
    exact ⟨none, 0, 0, [], hcs, Mem.nil_ _ _ _⟩
  · simp at hcs
    subst hcs
    obtain ⟨bs, hbs⟩ := bytes_of_ints (zs.take n) fun m hm => hwz m (List.mem_of_mem_take hm)
    obtain ⟨b, off, spot⟩ := x
    have hzl : n ≤ zs.length := by
      have hz' : zs.length = if sp b = true then c else n := by simpa using hz
      split at hz' <;> omega
    have hlen : n = bs.length := by
      have := congrArg List.length hbs
      rw [List.length_take, List.length_map] at this
      omega
    refine ⟨_, b, c, bs, by rw [hlen], ?_⟩
    by_cases h0 : bs = []
    · exact .inl h0
    · have hp : 0 < bs.length := List.length_pos_iff.2 h0
      have hc0 := hcell 0 (by omega)
      have hspot : spot = none := by simpa [Addr.add] using World.cell?_spot hc0
      subst hspot
      refine .inr ⟨off, rfl, fun j y hj => ?_⟩
      have hjl : j < bs.length := (List.getElem?_eq_some_iff.1 hj).1
      have hcj := hcell j (by omega)
      have e1 : zs.getD j 0 = (y.toNat : Int) := by
        have e2 : (zs.take n)[j]? = some (y.toNat : Int) := by rw [hbs, List.getElem?_map, hj]; rfl
        rw [List.getElem?_take, if_pos (by omega)] at e2
        simp [List.getD, e2]
      rw [e1] at hcj
      rw [← hcj]
      congr 1
      unfold Addr.add
      split
      · rename_i hj0; subst hj0; rfl
      · rfl

/-- A slice of byte slices that came in. -/
theorem open_rows {H : Type} {enc : TypeId × Value → H} {W : World} {base b2 : Nat} {sp : Nat → Bool} {held : Bool} {v : Value} {d : DataW H} {p : List MemPlace}
    (hv : Value.okWide Try.prog W .any base 46 v) (h : DataW.Trod enc Try.prog W b2 sp held 46 v d p) :
    ∃ A q c L, v = .slice A L.length c ∧ MemM W q A L := by
  obtain ⟨A, n, c, rfl⟩ := okWide_slice Try.underlying46 hv
  obtain ⟨fuel, hf⟩ := h
  rcases Go.Deep.open_slice1 Try.underlying46 (by kernel_rfl) hf with ⟨hcs, _⟩ | ⟨a, len, cap, m, n', V, D, Pl, hcs, _, hl, hcm, hmm, _, hx⟩
  · simp [Value.cells] at hcs
    obtain ⟨rfl, rfl, rfl⟩ := hcs
    exact ⟨none, 0, 0, [], rfl, .inl rfl⟩
  · simp [Value.cells] at hcs
    obtain ⟨rfl, rfl, rfl⟩ := hcs
    have hlm : n ≤ m := by rw [hmm]; split <;> omega
    have each : ∀ i, i < n → ∃ l : List UInt8, ∃ A' q' c', W.cell? (a.add i) = some (.slice A' l.length c') ∧ Mem W q' A' l := by
      intro i hi
      obtain ⟨h1, h2⟩ := hx i (by omega)
      obtain ⟨A', q', c', l, hvl, hm⟩ := open_cell_bytes h2
      exact ⟨l, A', q', c', by rw [h1, hvl], hm⟩
    obtain ⟨F, hF⟩ := Go.Deep.choose_lt each
    obtain ⟨b, off, spot⟩ := a
    refine ⟨some ⟨b, off, spot⟩, b, c, (List.range n).map F, by simp, ?_⟩
    rcases Nat.eq_zero_or_pos n with h0 | h0
    · subst h0
      exact .inl rfl
    · have hspot : spot = none := by
        obtain ⟨A', q', c', h1, _⟩ := hF 0 h0
        simpa [Addr.add] using World.cell?_spot h1
      subst hspot
      refine .inr ⟨off, rfl, fun j l hj => ?_⟩
      rw [List.getElem?_map] at hj
      have hjn : j < n := by
        rcases Nat.lt_or_ge j n with h | h
        · exact h
        · rw [List.getElem?_eq_none (by simpa using h)] at hj
          cases hj
      rw [List.getElem?_range hjn] at hj
      simp only [Option.map_some, Option.some.injEq] at hj
      subst hj
      obtain ⟨A', q', c', h1, h2⟩ := hF j hjn
      refine ⟨A', q', c', ?_, h2⟩
      rw [← h1]
      congr 1
      unfold Addr.add
      split
      · rename_i hj0; subst hj0; rfl
      · rfl

/-- Reads that came in: pairs of two ints. -/
def MemOp (w : World) (q : Nat) (A : Option Addr) (L : List (Int × Int)) : Prop :=
  L = [] ∨ ∃ o, A = some ⟨q, o, none⟩ ∧ ∀ (j : Nat) (x : Int × Int), L[j]? = some x → w.cell? ⟨q, o + j * 2, none⟩ = some (.int .i64 x.1) ∧ w.cell? ⟨q, o + j * 2 + 1, none⟩ = some (.int .i64 x.2)
theorem MemOp.below0 {w w' : World} {q : Nat} {A : Option Addr} {L : List (Int × Int)} (h : MemOp w q A L) (hb : Below w.heap.size w w') : MemOp w' q A L := by
  rcases h with rfl | ⟨o, ho, hc⟩
  · exact .inl rfl
  · refine .inr ⟨o, ho, fun j x hj => ?_⟩
    obtain ⟨h1, h2⟩ := hc j x hj
    exact ⟨(hb.cell (p := ⟨q, o + j * 2, none⟩) (World.block_lt_of_cell? w _ h1)).trans h1, (hb.cell (p := ⟨q, o + j * 2 + 1, none⟩) (World.block_lt_of_cell? w _ h2)).trans h2⟩
theorem MemOp.at_ {w : World} {q : Nat} {A : Option Addr} {L : List (Int × Int)} {j : Nat} (h : MemOp w q A L) (hj : j < L.length) :
    ∃ o, A = some ⟨q, o, none⟩ ∧ w.cell? ⟨q, o + j * 2, none⟩ = some (.int .i64 (L[j]'hj).1) ∧ w.cell? ⟨q, o + j * 2 + 1, none⟩ = some (.int .i64 (L[j]'hj).2) := by
  rcases h with rfl | ⟨o, ho, hc⟩
  · simp at hj
  · exact ⟨o, ho, hc j _ (List.getElem?_eq_getElem hj)⟩

theorem open_ops {H : Type} {enc : TypeId × Value → H} {W : World} {base b2 : Nat} {sp : Nat → Bool} {held : Bool} {v : Value} {d : DataW H} {p : List MemPlace}
    (hv : Value.okWide Try.prog W .any base 23 v) (h : DataW.Trod enc Try.prog W b2 sp held 23 v d p) :
    ∃ A q c L, v = .slice A L.length c ∧ MemOp W q A L := by
  obtain ⟨A, n, c, rfl⟩ := okWide_slice Try.underlying23 hv
  obtain ⟨fuel, hf⟩ := h
  rcases Go.Deep.open_slice_pairs Try.underlying23 Try.underlying31 (by kernel_rfl) rfl rfl (by kernel_rfl) (by kernel_rfl) hf with ⟨hcs, _⟩ | ⟨a, len, cap, m, n', V0, V1, D0, D1, P0, P1, hcs, _, hl, hcm, hmm, _, hx⟩
  · simp [Value.cells] at hcs
    obtain ⟨rfl, rfl, rfl⟩ := hcs
    exact ⟨none, 0, 0, [], rfl, .inl rfl⟩
  · simp [Value.cells] at hcs
    obtain ⟨rfl, rfl, rfl⟩ := hcs
    have hlm : n ≤ m := by rw [hmm]; split <;> omega
    have each : ∀ i, i < n → ∃ x : Int × Int, W.cell? (a.add (i * 2)) = some (.int .i64 x.1) ∧ W.cell? (a.add (i * 2 + 1)) = some (.int .i64 x.2) := by
      intro i hi
      obtain ⟨h1, h2, h3, h4⟩ := hx i (by omega)
      obtain ⟨x, hx1, _, _⟩ := DataW.trod_int Try.underlying3 h3
      obtain ⟨y, hy1, _, _⟩ := DataW.trod_int Try.underlying3 h4
      exact ⟨(x, y), by rw [h1]; simpa using hx1, by rw [h2]; simpa using hy1⟩
    obtain ⟨F, hF⟩ := Go.Deep.choose_lt each
    obtain ⟨b, off, spot⟩ := a
    refine ⟨some ⟨b, off, spot⟩, b, c, (List.range n).map F, by simp, ?_⟩
    rcases Nat.eq_zero_or_pos n with h0 | h0
    · subst h0
      exact .inl rfl
    · have hspot : spot = none := by
        obtain ⟨h1, _⟩ := hF 0 h0
        simpa [Addr.add] using World.cell?_spot h1
      subst hspot
      refine .inr ⟨off, rfl, fun j x hj => ?_⟩
      rw [List.getElem?_map] at hj
      have hjn : j < n := by
        rcases Nat.lt_or_ge j n with h | h
        · exact h
        · rw [List.getElem?_eq_none (by simpa using h)] at hj
          cases hj
      rw [List.getElem?_range hjn] at hj
      simp only [Option.map_some, Option.some.injEq] at hj
      subst hj
      obtain ⟨h1, h2⟩ := hF j hjn
      have ea : ∀ i, (⟨b, off, none⟩ : Addr).add i = ⟨b, off + i, none⟩ := by
        intro i
        unfold Addr.add
        split
        · rename_i hi0; subst hi0; rfl
        · rfl
      rw [ea] at h1 h2
      exact ⟨h1, by rw [Nat.add_assoc]; exact h2⟩

end Go.Proofs.Ytocllhenifgkhaa
