/-
  A slice of byte slices that came in: what lies in memory, and that its bytes are no more than its bulk.
-/
import Derived.Test.YtnejidaplbonoaaBytes
import Derived.ProofKit
import Derived.OpenShut
import Derived.Deep.Slices
namespace Go.Proofs.Ytnejidaplbonoaa
open Go.ChangeShapes Go.WideShapes Go.ChangeAt Go.RowKit
set_option maxRecDepth 100000
set_option linter.unusedVariables false
set_option linter.unusedSimpArgs false

theorem bytes_of_ints (zs : List Int) (h : ∀ n ∈ zs, (Lit.int .u8 n).wf = true) : ∃ l : List UInt8, zs = l.map fun b => (b.toNat : Int) := by
  induction zs with
  | nil => exact ⟨[], rfl⟩
  | cons z r ih =>
    obtain ⟨l, hl⟩ := ih fun n hn => h n (by simp [hn])
    have hz := h z (by simp)
    have hb : 0 ≤ z ∧ z ≤ 255 := bounds_u8 hz
    refine ⟨UInt8.ofNat z.toNat :: l, ?_⟩
    rw [List.map_cons, ← hl, UInt8.toNat_ofNat']
    congr 1
    omega
theorem bulk_one {H : Type} (d : DataW H) : 1 ≤ Rows.uptoBulk d := by
  cases d with
  | lit l => cases l <;> simp [Rows.uptoBulk]
  | nil => simp [Rows.uptoBulk]
  | ptr d => simp [Rows.uptoBulk]
  | slice elems spare => simp [Rows.uptoBulk]
  | agg parts => simp [Rows.uptoBulk]
  | iface t d => simp [Rows.uptoBulk]
  | map entries => simp [Rows.uptoBulk]
  | held h => simp [Rows.uptoBulk]
theorem bulk_length {H : Type} (l : List (DataW H)) : l.length ≤ Rows.uptoBulkAll l := by
  induction l with
  | nil => simp [Rows.uptoBulkAll]
  | cons x r ih => have := bulk_one x; simp only [Rows.uptoBulkAll, List.length_cons]; omega
theorem bulk_elems {H : Type} (elems spare : List (DataW H)) : Rows.uptoBulkAll elems ≤ Rows.uptoBulk (.slice elems spare) := by
  simp only [Rows.uptoBulk]
  omega
theorem bulk_sum {H : Type} (F : Nat → List UInt8) (D : Nat → DataW H) (l : List Nat) (h : ∀ i ∈ l, (F i).length ≤ Rows.uptoBulk (D i)) : ((l.map F).map List.length).sum ≤ Rows.uptoBulkAll (l.map D) := by
  induction l with
  | nil => simp [Rows.uptoBulkAll]
  | cons i r ih =>
    have h1 := h i (by simp)
    have h2 := ih fun j hj => h j (by simp [hj])
    simp only [List.map_cons, List.sum_cons, Rows.uptoBulkAll]
    omega
theorem open_cell_bytes {H : Type} {enc : TypeId × Value → H} {W : World} {b2 n : Nat} {sp : Nat → Bool} {held : Bool} {v : Value} {y : DataW H × List MemPlace}
    (hf : DataW.trod enc Try.prog W b2 sp held n 28 [v] = some y) : ∃ A q c l, v = .slice A l.length c ∧ Mem W q A l ∧ l.length ≤ c ∧ l.length ≤ Rows.uptoBulk y.1 := by
  rcases open_ints Try.underlying28 Try.underlying5 (by kernel_rfl) hf with ⟨hcs, _⟩ | ⟨x, n, c, zs, hcs, _, hl, hm, hz, hy, hcell, hwz⟩
  · simp at hcs
    exact ⟨none, 0, 0, [], hcs, Mem.nil_ _ _ _, Nat.le_refl _, Nat.zero_le _⟩
  · simp at hcs
    subst hcs
    obtain ⟨bs, hbs⟩ := bytes_of_ints (zs.take n) fun m hm => hwz m (List.mem_of_mem_take hm)
    obtain ⟨b, off, spot⟩ := x
    have hzl : n ≤ zs.length := by
      have hz' : zs.length = if sp b = true then c else n := by simpa using hz
      split at hz' <;> omega
    have hlen : n = bs.length := by
      have := congrArg List.length hbs
      rw [List.length_take, List.length_map] at this
      omega
    have hbulk : bs.length ≤ Rows.uptoBulk y.1 := by
      rw [hy]
      refine Nat.le_trans ?_ (bulk_elems _ _)
      refine Nat.le_trans ?_ (bulk_length _)
      simp [lits]
      omega
    refine ⟨_, b, c, bs, by rw [hlen], ?_, by omega, hbulk⟩
    by_cases h0 : bs = []
    · exact .inl h0
    · have hp : 0 < bs.length := List.length_pos_iff.2 h0
      have hc0 := hcell 0 (by omega)
      have hspot : spot = none := by simpa [Addr.add] using World.cell?_spot hc0
      subst hspot
      refine .inr ⟨off, rfl, fun j y hj => ?_⟩
      have hjl : j < bs.length := (List.getElem?_eq_some_iff.1 hj).1
      have hcj := hcell j (by omega)
      have e1 : zs.getD j 0 = (y.toNat : Int) := by
        have e2 : (zs.take n)[j]? = some (y.toNat : Int) := by rw [hbs, List.getElem?_map, hj]; rfl
        rw [List.getElem?_take, if_pos (by omega)] at e2
        simp [List.getD, e2]
      rw [e1] at hcj
      rw [← hcj]
      congr 1
      unfold Addr.add
      split
      · rename_i hj0; subst hj0; rfl
      · rfl

/-- A slice of byte slices that came in. -/
theorem open_rows {H : Type} {enc : TypeId × Value → H} {W : World} {base b2 : Nat} {sp : Nat → Bool} {held : Bool} {v : Value} {d : DataW H} {p : List MemPlace}
    (hv : Value.okWide Try.prog W .any base 51 v) (h : DataW.Trod enc Try.prog W b2 sp held 51 v d p) :
    ∃ A q c L, v = .slice A L.length c ∧ L.length ≤ c ∧ MemM W q A L ∧ (L.map List.length).sum ≤ Rows.uptoBulk d := by
  obtain ⟨A, n, c, rfl⟩ := okWide_slice Try.underlying51 hv
  obtain ⟨fuel, hf⟩ := h
  rcases Go.Deep.open_slice1 Try.underlying51 (by kernel_rfl) hf with ⟨hcs, hd⟩ | ⟨a, len, cap, m, n', V, D, Pl, hcs, _, hl, hcm, hmm, hd, hx⟩
  · simp [Value.cells] at hcs
    obtain ⟨rfl, rfl, rfl⟩ := hcs
    exact ⟨none, 0, 0, [], rfl, Nat.le_refl _, .inl rfl, Nat.zero_le _⟩
  · simp [Value.cells] at hcs
    obtain ⟨rfl, rfl, rfl⟩ := hcs
    simp only [Prod.mk.injEq] at hd
    have hlm : n ≤ m := by rw [hmm]; split <;> omega
    have each : ∀ i, i < n → ∃ l : List UInt8, ∃ A' q' c', W.cell? (a.add i) = some (.slice A' l.length c') ∧ Mem W q' A' l ∧ l.length ≤ c' ∧ l.length ≤ Rows.uptoBulk (D i) := by
      intro i hi
      obtain ⟨h1, h2⟩ := hx i (by omega)
      obtain ⟨A', q', c', l, hvl, hm, hcl, hbk⟩ := open_cell_bytes h2
      exact ⟨l, A', q', c', by rw [h1, hvl], hm, hcl, hbk⟩
    obtain ⟨F, hF⟩ := Go.Deep.choose_lt each
    have hsum : (((List.range n).map F).map List.length).sum ≤ Rows.uptoBulk d := by
      rw [hd.1]
      refine Nat.le_trans (bulk_sum F D (List.range n) fun i hi => ?_) (bulk_elems _ _)
      obtain ⟨_, _, _, _, _, _, h⟩ := hF i (List.mem_range.1 hi)
      exact h
    obtain ⟨b, off, spot⟩ := a
    refine ⟨some ⟨b, off, spot⟩, b, c, (List.range n).map F, by simp, by simpa using hl, ?_, hsum⟩
    rcases Nat.eq_zero_or_pos n with h0 | h0
    · subst h0
      exact .inl rfl
    · have hspot : spot = none := by
        obtain ⟨A', q', c', h1, _⟩ := hF 0 h0
        simpa [Addr.add] using World.cell?_spot h1
      subst hspot
      refine .inr ⟨off, rfl, fun j l hj => ?_⟩
      rw [List.getElem?_map] at hj
      have hjn : j < n := by
        rcases Nat.lt_or_ge j n with h | h
        · exact h
        · rw [List.getElem?_eq_none (by simpa using h)] at hj
          cases hj
      rw [List.getElem?_range hjn] at hj
      simp only [Option.map_some, Option.some.injEq] at hj
      subst hj
      obtain ⟨A', q', c', h1, h2, h3, _⟩ := hF j hjn
      refine ⟨A', q', c', ?_, h2, h3⟩
      rw [← h1]
      congr 1
      unfold Addr.add
      split
      · rename_i hj0; subst hj0; rfl
      · rfl
end Go.Proofs.Ytnejidaplbonoaa
