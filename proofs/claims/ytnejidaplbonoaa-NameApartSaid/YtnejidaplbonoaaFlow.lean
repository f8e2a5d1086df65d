/-
  A region that draws its order, walked operation by operation: each operation of its head yields a value of which something is known that no making of memory turns; what an operation may use is what is known of those that it waits for. Whatever the order, all of it is known at the end. The last operations (the tail) come one behind the other. No function of the program is named here.
-/
import Derived.Test.YtnejidaplbonoaaTailQ
namespace Go.Proofs.Ytnejidaplbonoaa
open Go.RowKit
set_option linter.unusedVariables false
set_option linter.unusedSimpArgs false

/-- What is known of a value, in a world. -/
abbrev Known := Value → World → Prop
def Known.stable (φ : Known) : Prop := ∀ v w w', φ v w → Below w.heap.size w w' → φ v w'
section
variable {P : Program} {ops : Array Oper} {md : Region.Mode} {Q : Exit → Act → World → Prop}

/-- The frame behind the values us of the operations l. -/
def fillAct (us : Nat → Value) : Nat → List Oper → Act → Act
  | _, [], a => a
  | k, o :: l, a => fillAct us (k + 1) l (a.put o.dst (us k))
def waits (md : Region.Mode) (o : Oper) (j : Nat) : Bool := o.after.any fun e => Region.binds md e && e.on == j
/-- One operation, in a frame: what follows holds behind it. -/
def Came (P : Program) (ops : Array Oper) (Q : Exit → Act → World → Prop) (o : Oper) (a : Act) (w : World) (K : Act → World → Prop) : Prop :=
  if Region.wanted o (yielded ops a.tmps) then o.wp P a w K Q else K (a.put o.dst undef) w
/-- What one operation owes. -/
def Owes (P : Program) (md : Region.Mode) (ops : Array Oper) (Q : Exit → Act → World → Prop) (C : World → Prop) (Φ : Nat → Known) (l : List Oper) (a : Act) (i : Nat) (o : Oper) : Prop :=
  ∀ (us : Nat → Value) (w : World) (A : Act), A = fillAct us 0 l a → C w → (∀ j, waits md o j = true → Φ j (us j) w) →
    ∀ K : Act → World → Prop, (∀ u w', Φ i u w' → Below w.heap.size w w' → K (A.put o.dst u) w') → Came P ops Q o A w K
def OweAll (P : Program) (md : Region.Mode) (ops : Array Oper) (Q : Exit → Act → World → Prop) (C : World → Prop) (Φ : Nat → Known) (l : List Oper) (a : Act) : Nat → List Oper → Prop
  | _, [] => True
  | i, o :: r => Owes P md ops Q C Φ l a i o ∧ OweAll P md ops Q C Φ l a (i + 1) r
theorem OweAll.cons {C : World → Prop} {Φ : Nat → Known} {l : List Oper} {a : Act} {i : Nat} {o : Oper} {r : List Oper} (h : Owes P md ops Q C Φ l a i o) (t : OweAll P md ops Q C Φ l a (i + 1) r) : OweAll P md ops Q C Φ l a i (o :: r) := And.intro h t
theorem OweAll.nil {C : World → Prop} {Φ : Nat → Known} {l : List Oper} {a : Act} {i : Nat} : OweAll P md ops Q C Φ l a i [] := trivial
theorem OweAll.at_ {C : World → Prop} {Φ : Nat → Known} {l : List Oper} {a : Act} : ∀ (r : List Oper) (k : Nat), OweAll P md ops Q C Φ l a k r → ∀ i o, r[i]? = some o → Owes P md ops Q C Φ l a (k + i) o
  | [], _, _, i, o, h => by simp at h
  | x :: r, k, hh, i, o, h => by
    cases i with
    | zero =>
      injection h with h
      subst h
      exact hh.1
    | succ i =>
      have := OweAll.at_ r (k + 1) hh.2 i o h
      rwa [show k + 1 + i = k + (i + 1) by omega] at this

/-! ### Frames -/
/-- The places that the operations write. -/
def dstsOf : List Oper → List (Option Tmp)
  | [] => []
  | o :: l => o.dst :: dstsOf l
def dstsB (size : Nat) : List (Option Tmp) → Bool
  | [] => true
  | none :: _ => false
  | some d :: l => decide (d < size) && !(l.contains (some d)) && dstsB size l
def valOf (a : Act) (o : Oper) : Value := match o.dst with | some d => a.tmps.getD d undef | none => undef
theorem put_size (a : Act) (d : Option Tmp) (v : Value) : (a.put d v).tmps.size = a.tmps.size := by
  cases d with
  | none => rfl
  | some d => simp [Act.put]
theorem put_same (a : Act) (d : Tmp) (v : Value) (h : d < a.tmps.size) : (a.put (some d) v).tmps.getD d undef = v := by
  simp [Act.put, Array.getD, h]
theorem put_other (a : Act) (d e : Tmp) (v : Value) (h : d ≠ e) : (a.put (some d) v).tmps.getD e undef = a.tmps.getD e undef := by
  simp only [Act.put, Array.getD_eq_getD_getElem?]
  rw [Array.getElem?_setIfInBounds_ne h]
theorem act_ext {a b : Act} (hd : a.defers = b.defers) (hs : a.tmps.size = b.tmps.size) (h : ∀ t, t < a.tmps.size → a.tmps.getD t undef = b.tmps.getD t undef) : a = b := by
  obtain ⟨ta, da⟩ := a
  obtain ⟨tb, db⟩ := b
  simp only at hd hs h
  subst hd
  congr 1
  apply Array.ext hs
  intro i h1 h2
  have := h i h1
  simpa [Array.getD, h1, h2] using this
theorem fillAct_size (us : Nat → Value) : ∀ (l : List Oper) (k : Nat) (a : Act), (fillAct us k l a).tmps.size = a.tmps.size
  | [], _, _ => rfl
  | o :: l, k, a => by rw [fillAct, fillAct_size us l, put_size]
theorem fillAct_defers (us : Nat → Value) : ∀ (l : List Oper) (k : Nat) (a : Act), (fillAct us k l a).defers = a.defers
  | [], _, _ => rfl
  | o :: l, k, a => by
    rw [fillAct, fillAct_defers us l]
    cases o.dst <;> rfl
theorem fillAct_off (us : Nat → Value) : ∀ (l : List Oper) (k : Nat) (a : Act) (t : Tmp), (some t) ∉ dstsOf l → (fillAct us k l a).tmps.getD t undef = a.tmps.getD t undef
  | [], _, _, _, _ => rfl
  | o :: l, k, a, t, h => by
    simp only [dstsOf, List.mem_cons, not_or] at h
    rw [fillAct, fillAct_off us l _ _ t h.2]
    cases hd : o.dst with
    | none => rfl
    | some d => exact put_other a d t _ (fun e => h.1 (by rw [hd, e]))
theorem fillAct_at (us : Nat → Value) : ∀ (l : List Oper) (k : Nat) (a : Act), dstsB a.tmps.size (dstsOf l) = true → ∀ j o, l[j]? = some o → valOf (fillAct us k l a) o = us (k + j)
  | [], _, _, _, j, o, h => by simp at h
  | x :: l, k, a, hB, j, o, h => by
    cases hd : x.dst with
    | none => simp [dstsOf, hd, dstsB] at hB
    | some d =>
      simp only [dstsOf, hd, dstsB, Bool.and_eq_true, decide_eq_true_eq, Bool.not_eq_true'] at hB
      obtain ⟨⟨h1, h2⟩, h3⟩ := hB
      rw [fillAct, hd]
      cases j with
      | zero =>
        injection h with h
        subst h
        unfold valOf
        rw [hd]
        show (fillAct us (k + 1) l (a.put (some d) (us k))).tmps.getD d undef = us k
        rw [fillAct_off us l _ _ d (fun hm => by rw [List.contains_iff_mem.2 hm] at h2; cases h2), put_same a d _ h1]
      | succ j =>
        have := fillAct_at us l (k + 1) (a.put (some d) (us k)) (by rw [put_size]; exact h3) j o h
        rw [this, show k + 1 + j = k + (j + 1) by omega]
/-- The values of a frame. -/
def valsOf (a : Act) (l : List Oper) : Nat → Value := fun j => match l[j]? with | some o => valOf a o | none => undef
theorem valsOf_at {a : Act} {l : List Oper} {j : Nat} {o : Oper} (h : l[j]? = some o) : valsOf a l j = valOf a o := by
  unfold valsOf
  rw [h]
theorem mem_dsts {l : List Oper} {o : Oper} {d : Tmp} {j : Nat} (h : l[j]? = some o) (hd : o.dst = some d) : (some d) ∈ dstsOf l := by
  induction l generalizing j with
  | nil => simp at h
  | cons x l ih =>
    cases j with
    | zero => injection h with h; subst h; simp [dstsOf, hd]
    | succ j => exact List.mem_cons_of_mem _ (ih h)
theorem of_mem_dsts {l : List Oper} {d : Tmp} (h : (some d) ∈ dstsOf l) : ∃ (j : Nat) (o : Oper), l[j]? = some o ∧ o.dst = some d := by
  induction l with
  | nil => simp [dstsOf] at h
  | cons x l ih =>
    rcases List.mem_cons.1 h with h | h
    · exact ⟨0, x, rfl, h.symm⟩
    · obtain ⟨j, o, h1, h2⟩ := ih h
      exact ⟨j + 1, o, h1, h2⟩
/-- A frame that agrees with a but for the places of l is a filled one. -/
theorem fill_of (l : List Oper) (a a' : Act) (hB : dstsB a.tmps.size (dstsOf l) = true) (hd : a'.defers = a.defers) (hs : a'.tmps.size = a.tmps.size) (ho : ∀ t, (some t) ∉ dstsOf l → a'.tmps.getD t undef = a.tmps.getD t undef) :
    a' = fillAct (valsOf a' l) 0 l a := by
  refine act_ext (by rw [fillAct_defers, hd]) (by rw [fillAct_size, hs]) fun t _ => ?_
  by_cases hm : (some t) ∈ dstsOf l
  · obtain ⟨j, o, h1, h2⟩ := of_mem_dsts hm
    have h3 := fillAct_at (valsOf a' l) l 0 a hB j o h1
    rw [Nat.zero_add, valsOf_at h1] at h3
    unfold valOf at h3
    rw [h2] at h3
    exact h3.symm
  · rw [ho t hm, fillAct_off _ l _ a t hm]

/-! ### Whatever order -/
/-- How many of the first n have not come up. -/
def open_ (n : Nat) (up : Array Bool) : Nat := ((List.range n).filter fun k => !up.getD k true).length
theorem open_set (n : Nat) (up : Array Bool) (i : Nat) (hi : i < n) (h : up.getD i true = false) : open_ n up = open_ n (up.setIfInBounds i true) + 1 := by
  unfold open_
  have hlt : i < up.size := by
    rcases Nat.lt_or_ge i up.size with h1 | h1
    · exact h1
    · simp [Array.getElem?_eq_none h1] at h
  have key : ∀ L : List Nat, L.Nodup → i ∈ L → (L.filter fun k => !up.getD k true).length = (L.filter fun k => !(up.setIfInBounds i true).getD k true).length + 1 := by
    intro L
    induction L with
    | nil => intro _ hm; cases hm
    | cons x L ih =>
      intro hn hm
      rw [List.nodup_cons] at hn
      by_cases e : x = i
      · subst e
        have hrest : (L.filter fun k => !up.getD k true) = L.filter fun k => !(up.setIfInBounds x true).getD k true := by
          apply List.filter_congr
          intro k hk
          rw [getD_set_ne true (fun e => hn.1 (by rw [e]; exact hk))]
        rw [List.filter_cons_of_pos (by rw [h]; rfl), List.filter_cons_of_neg (by simp [hlt]), hrest]
        rfl
      · have hm2 : i ∈ L := by
          rcases List.mem_cons.1 hm with h1 | h1
          · exact absurd h1.symm e
          · exact h1
        have := ih hn.2 hm2
        have hx : (up.setIfInBounds i true).getD x true = up.getD x true := getD_set_ne true (fun h => e h.symm)
        by_cases hu : (!up.getD x true) = true
        · rw [List.filter_cons_of_pos (by simpa using hu), List.filter_cons_of_pos (by rw [hx]; exact hu), List.length_cons, List.length_cons, this]
        · rw [List.filter_cons_of_neg (by simpa using hu), List.filter_cons_of_neg (by rw [hx]; exact hu), this]
  exact key (List.range n) List.nodup_range (List.mem_range.2 hi)
def depsB (md : Region.Mode) (ops : Array Oper) (n : Nat) : Bool :=
  (List.range n).all fun k => match ops[k]? with | some o => o.after.all fun e => !Region.binds md e || decide (e.on < k) | none => false
theorem depsB_spec {n k : Nat} {o : Oper} (h : depsB md ops n = true) (hk : k < n) (ho : ops[k]? = some o) : ∀ e ∈ o.after, Region.binds md e = true → e.on < k := by
  have := List.all_eq_true.1 h k (List.mem_range.2 hk)
  rw [ho] at this
  intro e he hb
  have h2 := (Array.all_eq_true_iff_forall_mem.1 this) e he
  rw [hb] at h2
  simpa using h2
/-- The least one that has not come up may come up. -/
theorem least_ready {n : Nat} {up : Array Bool} (hd : depsB md ops n = true) (hs : up.size = ops.size) : ∀ (d i : Nat), i = d → i < n → up.getD i true = false → Region.ready md ops up ≠ [] := by
  intro d
  induction d using Nat.strongRecOn with
  | _ d ih =>
    intro i hid hin hun
    subst hid
    have hlt : i < ops.size := by
      rcases Nat.lt_or_ge i up.size with h1 | h1
      · omega
      · simp [Array.getElem?_eq_none h1] at hun
    by_cases hall : ∀ e ∈ (ops[i]'hlt).after, Region.binds md e = true → up.getD e.on false = true
    · exact List.ne_nil_of_mem (mem_ready.2 ⟨hun, ops[i]'hlt, Array.getElem?_eq_getElem hlt, hall⟩)
    · have : ∃ e, e ∈ (ops[i]'hlt).after ∧ Region.binds md e = true ∧ up.getD e.on false = false := by
        apply Classical.byContradiction
        intro hno
        apply hall
        intro e he hb
        cases hv : up.getD e.on false with
        | true => rfl
        | false => exact absurd ⟨e, he, hb, hv⟩ hno
      obtain ⟨e, he, hb, hv⟩ := this
      have hlt2 := depsB_spec hd hin (Array.getElem?_eq_getElem hlt) e he hb
      exact ih e.on hlt2 e.on rfl (by omega) (getD_in (by rw [hs]; omega) hv)
/-- Nothing of the tail comes up before. -/
def tailB (md : Region.Mode) (ops : Array Oper) (n : Nat) : Bool := decide (n = ops.size) || (decide (n < ops.size) && Region.sinkB md ops n && Region.chainB md ops n)
def upTo (n g : Nat) : Array Bool := (List.replicate n true ++ List.replicate g false).toArray
def flowB (md : Region.Mode) (ops : Array Oper) (n : Nat) (size : Nat) (l : List Oper) : Bool :=
  decide (n ≤ ops.size) && dstsB size (dstsOf l) && depsB md ops n && tailB md ops n && Region.seqB md ops (ops.size - n) n (upTo n (ops.size - n))
structure FlowInv (md : Region.Mode) (ops : Array Oper) (n : Nat) (C : World → Prop) (Φ : Nat → Known) (l : List Oper) (a : Act) (up : Array Bool) (a' : Act) (w : World) : Prop where
  head : HeadInv md ops n up
  cls : C w
  defers : a'.defers = a.defers
  size : a'.tmps.size = a.tmps.size
  off : ∀ t, (some t) ∉ dstsOf l → a'.tmps.getD t undef = a.tmps.getD t undef
  known : ∀ j o, l[j]? = some o → up.getD j false = true → Φ j (valOf a' o) w
theorem flow_any {n : Nat} {C : World → Prop} {Φ : Nat → Known} {l : List Oper} {a : Act} (tl : List Oper) (hl : ∀ j, j < n → l[j]? = ops[j]?) (hln : l.length = n) (htl : ∀ j, tl[j]? = ops[n + j]?) (hB : flowB md ops n a.tmps.size l = true)
    (hCs : ∀ w w', C w → Below w.heap.size w w' → C w') (hst : ∀ i, i < n → (Φ i).stable) (howe : ∀ i o, l[i]? = some o → Owes P md ops Q C Φ l a i o)
    (hend : ∀ (us : Nat → Value) (w : World) (A : Act), A = fillAct us 0 l a → C w → (∀ j, j < n → Φ j (us j) w) → wpList P ops Q tl A w) (f : Nat) :
    ∀ (up : Array Bool) (a' : Act) (w : World), FlowInv md ops n C Φ l a up a' w → open_ n up = f → wpAny P md ops Q (f + tl.length) up a' w := by
  have hB' := hB
  simp only [flowB, Bool.and_eq_true, decide_eq_true_eq] at hB'
  obtain ⟨⟨⟨⟨hn, hds⟩, hdp⟩, htb⟩, hsq⟩ := hB'
  have htlen : tl.length = ops.size - n := by
    apply Nat.le_antisymm
    · rcases Nat.lt_or_ge (ops.size - n) tl.length with h | h
      · have := htl (ops.size - n)
        rw [List.getElem?_eq_getElem h, Array.getElem?_eq_none (by omega)] at this
        cases this
      · exact h
    · rcases Nat.lt_or_ge tl.length (ops.size - n) with h | h
      · have := htl tl.length
        rw [List.getElem?_eq_none (Nat.le_refl _), Array.getElem?_eq_getElem (by omega)] at this
        cases this
      · exact h
  induction f with
  | zero =>
    intro up a' w inv hf
    have hall : ∀ k, k < n → up.getD k true = true := by
      intro k hk
      have : ((List.range n).filter fun k => !up.getD k true) = [] := List.length_eq_zero_iff.1 hf
      have h2 := List.filter_eq_nil_iff.1 this k (List.mem_range.2 hk)
      simpa using h2
    have hup : up = upTo n (ops.size - n) := by
      have hs := inv.head.size
      apply Array.ext (by simp [upTo]; omega)
      intro i h1 h2
      by_cases hin : i < n
      · have := hall i hin
        simp only [Array.getD, h1, dif_pos] at this
        rw [show up[i] = true from this]
        simp [upTo, List.getElem_append, hin]
      · have := inv.head.tail i (by omega) (by omega)
        simp only [Array.getD, h1, dif_pos] at this
        rw [show up[i] = false from this]
        simp [upTo, List.getElem_append, hin]
    rw [Nat.zero_add]
    have hfill := fill_of l a a' hds inv.defers inv.size inv.off
    refine wpAny_of_seq (md := md) (Q' := Q) tl n up a' w htl (by rw [htlen, hup]; exact hsq) ?_
    refine hend _ w a' hfill inv.cls fun j hj => ?_
    have hj2 : j < l.length := by omega
    have h1 := inv.known j (l[j]'hj2) (List.getElem?_eq_getElem hj2) (by
      have := hall j hj
      have hs := inv.head.size
      simpa [Array.getD, show j < up.size by omega] using this)
    rw [valsOf_at (List.getElem?_eq_getElem hj2)]
    exact h1
  | succ f ih =>
    intro up a' w inv hf
    have hfill := fill_of l a a' hds inv.defers inv.size inv.off
    have hex : ∃ i, i < n ∧ up.getD i true = false := by
      apply Classical.byContradiction
      intro hno
      have : ((List.range n).filter fun k => !up.getD k true) = [] := List.filter_eq_nil_iff.2 fun k hk => by
        have : up.getD k true = true := by
          cases hv : up.getD k true with
          | true => rfl
          | false => exact absurd ⟨k, List.mem_range.1 hk, hv⟩ hno
        rw [this]
        decide
      unfold open_ at hf
      rw [this] at hf
      cases hf
    obtain ⟨i0, hi0, hu0⟩ := hex
    have hne := least_ready hdp inv.head.size i0 i0 rfl hi0 hu0
    rw [show f + 1 + tl.length = (f + tl.length) + 1 by omega]
    refine And.intro (fun h => absurd h hne) fun i hi => ?_
    obtain ⟨hiun, o, ho, hall⟩ := mem_ready.1 hi
    have hin : i < n := by
      rcases Nat.lt_or_ge i n with h | h
      · exact h
      · exfalso
        simp only [tailB, Bool.or_eq_true, Bool.and_eq_true, decide_eq_true_eq] at htb
        rcases htb with h2 | ⟨⟨h2, h3⟩, h4⟩
        · have := (Array.getElem?_eq_some_iff.1 ho).1
          omega
        · exact tail_waits h3 h4 h2 inv.head _ i0 rfl hi0 hu0 i h hi
    have hlo : l[i]? = some o := by rw [hl i hin]; exact ho
    have step := howe i o hlo (valsOf a' l) w a' hfill inv.cls (fun j hj => by
      obtain ⟨e, he, hb⟩ := Array.any_eq_true'.1 hj
      simp only [Bool.and_eq_true, beq_iff_eq] at hb
      have hji : j < i := by
        have := depsB_spec hdp hin ho e he hb.1
        rw [hb.2] at this
        exact this
      have hj2 : j < l.length := by omega
      rw [valsOf_at (List.getElem?_eq_getElem hj2)]
      refine inv.known j _ (List.getElem?_eq_getElem hj2) ?_
      have := hall e he hb.1
      rw [hb.2] at this
      exact this)
    obtain ⟨d, hd⟩ : ∃ d, o.dst = some d := by
      have hm : o.dst ∈ dstsOf l := by
        have : ∀ (l : List Oper) (i : Nat), l[i]? = some o → o.dst ∈ dstsOf l := by
          intro l
          induction l with
          | nil => intro i h; simp at h
          | cons x l ih2 =>
            intro i h
            cases i with
            | zero => injection h with h; subst h; simp [dstsOf]
            | succ i => exact List.mem_cons_of_mem _ (ih2 i h)
        exact this l i hlo
      have : ∀ L : List (Option Tmp), dstsB a.tmps.size L = true → ∀ x ∈ L, ∃ d, x = some d := by
        intro L
        induction L with
        | nil => intro _ x hx; cases hx
        | cons y L ih2 =>
          intro hb x hx
          cases y with
          | none => simp [dstsB] at hb
          | some d =>
            simp only [dstsB, Bool.and_eq_true] at hb
            rcases List.mem_cons.1 hx with h | h
            · exact ⟨d, h⟩
            · exact ih2 hb.2 x h
      exact this _ hds _ hm
    have hdlt : d < a.tmps.size ∧ ∀ j oj, l[j]? = some oj → j ≠ i → oj.dst ≠ some d := by
      have : ∀ (l : List Oper) (i : Nat), dstsB a.tmps.size (dstsOf l) = true → l[i]? = some o → d < a.tmps.size ∧ ∀ j oj, l[j]? = some oj → j ≠ i → oj.dst ≠ some d := by
        intro l
        induction l with
        | nil => intro i _ h; simp at h
        | cons x l ih2 =>
          intro i hb h
          cases hx : x.dst with
          | none => simp [dstsOf, hx, dstsB] at hb
          | some dx =>
            simp only [dstsOf, hx, dstsB, Bool.and_eq_true, decide_eq_true_eq, Bool.not_eq_true'] at hb
            obtain ⟨⟨hb1, hb2⟩, hb3⟩ := hb
            cases i with
            | zero =>
              injection h with h
              subst h
              rw [hd] at hx
              injection hx with hx
              subst hx
              refine ⟨hb1, fun j oj hj hji => ?_⟩
              cases j with
              | zero => exact absurd rfl hji
              | succ j =>
                intro e
                have hm : (some d) ∈ dstsOf l := mem_dsts (l := l) (j := j) hj e
                rw [List.contains_iff_mem.2 hm] at hb2
                cases hb2
            | succ i =>
              obtain ⟨h1, h2⟩ := ih2 i hb3 h
              refine ⟨h1, fun j oj hj hji => ?_⟩
              cases j with
              | zero =>
                injection hj with hj
                subst hj
                rw [hx]
                intro e
                injection e with e
                subst e
                have hm : (some dx) ∈ dstsOf l := mem_dsts (l := l) (j := i) h hd
                rw [List.contains_iff_mem.2 hm] at hb2
                cases hb2
              | succ j => exact h2 j oj hj (fun e => hji (by rw [e]))
      exact this l i hds hlo
    have next : ∀ u w', Φ i u w' → Below w.heap.size w w' → wpAny P md ops Q (f + tl.length) (up.setIfInBounds i true) (a'.put o.dst u) w' := by
      intro u w' hu hbw
      refine ih _ _ _ ⟨inv.head.set hi hin, hCs _ _ inv.cls hbw, ?_, ?_, ?_, ?_⟩ ?_
      · rw [hd]; exact inv.defers
      · rw [put_size]; exact inv.size
      · intro t ht
        rw [hd, put_other a' d t u (fun e => ht (by rw [← e]; exact mem_dsts hlo hd))]
        exact inv.off t ht
      · intro j oj hj hup
        by_cases hji : j = i
        · subst hji
          have : oj = o := Option.some.inj (hj.symm.trans hlo)
          subst this
          have hv : valOf (a'.put oj.dst u) oj = u := by
            unfold valOf
            rw [hd]
            exact put_same a' d u (by rw [inv.size]; exact hdlt.1)
          rw [hv]
          exact hu
        · rw [getD_set_ne false (fun e => hji e.symm)] at hup
          have h1 := inv.known j oj hj hup
          have hjn : j < n := by
            have := (List.getElem?_eq_some_iff.1 hj).1
            omega
          have h2 := hst j hjn _ _ _ h1 hbw
          have hv : valOf (a'.put o.dst u) oj = valOf a' oj := by
            unfold valOf
            cases hdj : oj.dst with
            | none => rfl
            | some dj =>
              rw [hd]
              exact put_other a' d dj u (fun e => hdlt.2 j oj hj hji (by rw [hdj, e]))
          rw [hv]
          exact h2
      · have := open_set n up i hin hiun
        omega
    have fin : Came P ops Q o a' w (wpAny P md ops Q (f + tl.length) (up.setIfInBounds i true)) := step (wpAny P md ops Q (f + tl.length) (up.setIfInBounds i true)) next
    unfold Came at fin
    unfold wpOp
    rw [ho]
    by_cases hw : Region.wanted o (yielded ops a'.tmps) = true
    · rw [if_pos hw] at fin
      simp only [hw, if_true]
      exact Or.inl fin
    · rw [if_neg hw] at fin
      simp only [hw]
      exact fin
/-- The law: n operations in the head, the others behind them. -/
theorem wp_region_flow {id : Nat} {Q : Exit → Act → World → Prop} {a : Act} {w : World} {l : List Oper} (n : Nat) (C : World → Prop) (Φs : List Known) (hm : P.follows .mixedOrders = true) (hB : flowB .any l.toArray n a.tmps.size (l.take n) = true) (hn : Φs.length = n)
    (hC : C w.drew) (hCs : ∀ w w', C w → Below w.heap.size w w' → C w') (hst : ∀ φ ∈ Φs, Known.stable φ)
    (howe : OweAll P .any l.toArray Q C (fun i => Φs.getD i fun _ _ => False) (l.take n) a 0 (l.take n))
    (hend : ∀ (us : Nat → Value) (w : World) (A : Act), A = fillAct us 0 (l.take n) a → C w → (∀ j, j < n → (Φs.getD j fun _ _ => False) (us j) w) → wpList P l.toArray Q (l.drop n) A w) :
    (Code.region id l.toArray true).wp P Q a w := by
  have hn2 : n ≤ l.length := by
    have := hB
    simp only [flowB, Bool.and_eq_true, decide_eq_true_eq] at this
    exact this.1.1.1.1
  have hlen : (l.take n).length = n := by rw [List.length_take]; omega
  have unlisted : ∀ j, (Array.replicate l.toArray.size false).getD j false = false := getD_replicate_false _
  have inv : FlowInv .any l.toArray n C (fun i => Φs.getD i fun _ _ => False) (l.take n) a (Array.replicate l.toArray.size false) a w.drew := by
    refine ⟨⟨by simp, fun j oj _ h1 => ?_, fun t _ h1 => getD_in (by simpa using h1) (unlisted t)⟩, hC, rfl, rfl, fun _ _ => rfl, fun j o _ h1 => ?_⟩
    · rw [unlisted j] at h1
      exact Bool.noConfusion h1
    · rw [unlisted j] at h1
      exact Bool.noConfusion h1
  have hopen : open_ n (Array.replicate l.toArray.size false) = n := by
    unfold open_
    rw [List.filter_eq_self.2 (fun k hk => by
      have hk2 := List.mem_range.1 hk
      rw [getD_in (by simp; omega) (unlisted k)]
      rfl), List.length_range]
  have H := flow_any (md := .any) (Q := Q) (P := P) (l.drop n) (fun j hj => by simp [hj]) hlen (fun j => by simp [List.getElem?_drop]) hB hCs (fun i hi => by
    refine hst _ ?_
    rw [List.getD_eq_getElem?_getD, List.getElem?_eq_getElem (by omega)]
    exact List.getElem_mem _) (fun i o ho => by
    have := OweAll.at_ _ 0 howe i o ho
    rwa [Nat.zero_add] at this) hend n _ a w.drew inv hopen
  refine wp_region_any hm ?_
  rw [List.length_drop, show n + (l.length - n) = l.toArray.size by simp; omega] at H
  exact H

/-! ### Single operations -/
/-- A value, in this world. -/
theorem flow_value {o : Oper} {a : Act} {w : World} {φ : Known} {K : Act → World → Prop} (u : Value) (hw : Region.wanted o (yielded ops a.tmps) = true) (he : (execOp a.eval o).run P w = .ok (.value u) w) (hφ : φ u w)
    (hK : ∀ u w', φ u w' → Below w.heap.size w w' → K (a.put o.dst u) w') : Came P ops Q o a w K := by
  unfold Came
  rw [if_pos hw]
  unfold Oper.wp
  rw [he]
  exact hK u w hφ (Below.refl _ _)
/-- A call. -/
theorem flow_call {o : Oper} {a : Act} {w : World} {φ : Known} {K : Act → World → Prop} (f : FuncId) (args : Array Value) (hw : Region.wanted o (yielded ops a.tmps) = true) (he : ∀ w, (execOp a.eval o).run P w = .ok (.enter f args) w)
    (hc : Calls P f args w fun e w' => ∃ u, e = .returned u ∧ φ u w' ∧ Below w.heap.size w w')
    (hK : ∀ u w', φ u w' → Below w.heap.size w w' → K (a.put o.dst u) w') : Came P ops Q o a w K := by
  unfold Came
  rw [if_pos hw]
  unfold Oper.wp
  rw [he w]
  exact hc.mono fun e w' ⟨u, he, hu, hb⟩ => by
    subst he
    exact hK u w' hu hb
/-- What makes memory. -/
theorem flow_make {o : Oper} {a : Act} {w w1 : World} {φ : Known} {K : Act → World → Prop} (u : Value) (hw : Region.wanted o (yielded ops a.tmps) = true) (he : (execOp a.eval o).run P w = .ok (.value u) w1) (hb : Below w.heap.size w w1) (hφ : φ u w1)
    (hK : ∀ u w', φ u w' → Below w.heap.size w w' → K (a.put o.dst u) w') : Came P ops Q o a w K := by
  unfold Came
  rw [if_pos hw]
  unfold Oper.wp
  rw [he]
  exact hK u w1 hφ hb
/-- A whole array read. -/
theorem flow_load {o : Oper} {a : Act} {w : World} {φ : Known} {K : Act → World → Prop} (hw : Region.wanted o (yielded ops a.tmps) = true) (ty : TypeId) (x : Operand) (ho : o.op = .load ty x) (b off : Nat) (hx : a.eval x = .pointer (some ⟨b, off, none⟩)) (cs : List Value) (d : TypeDesc)
    (hr : w.rangeAt b off cs) (hu : P.underlying ty = some d) (hd : d.isRow = true) (hi : (P.info? ty).map (·.size) = some cs.length) (hφ : φ (.agg cs.toArray) w)
    (hK : ∀ u w', φ u w' → Below w.heap.size w w' → K (a.put o.dst u) w') : Came P ops Q o a w K := by
  refine flow_value (.agg cs.toArray) hw ?_ hφ hK
  unfold execOp
  simp only [ho, hx, Instr.loadAt, Instr.sureAddr, Sem.run_bind, Sem.run_pure, Result.andThen_ok, run_loadVar_mid w b off ty cs d hr hu hd hi]
/-- A single cell read. -/
theorem flow_cell {o : Oper} {a : Act} {w : World} {φ : Known} {K : Act → World → Prop} (hw : Region.wanted o (yielded ops a.tmps) = true) (ty : TypeId) (x : Operand) (ho : o.op = .load ty x) (b off : Nat) (hx : a.eval x = .pointer (some ⟨b, off, none⟩)) (v : Value) (d : TypeDesc)
    (hr : w.cell? ⟨b, off, none⟩ = some v) (hu : P.underlying ty = some d) (hd : d.isRow = false) (hφ : φ v w)
    (hK : ∀ u w', φ u w' → Below w.heap.size w w' → K (a.put o.dst u) w') : Came P ops Q o a w K := by
  refine flow_value v hw ?_ hφ hK
  have hagg : (isAgg ty).run P w = .ok false w := by
    unfold isAgg
    rw [Sem.run_bind, run_underlying hu w]
    cases d <;> simp_all
  have hl : (load ⟨b, off, none⟩).run P w = .ok v w := by rw [run_load]; simp [hr]
  unfold execOp
  simp only [ho, hx, Instr.loadAt, Instr.sureAddr, Sem.run_bind, Sem.run_pure, Result.andThen_ok, loadVar, hagg]
  simp [hl]
/-- What is not wanted. -/
theorem flow_unwanted {o : Oper} {a : Act} {w : World} {φ : Known} {K : Act → World → Prop} (hw : Region.wanted o (yielded ops a.tmps) = false) (hφ : φ undef w)
    (hK : ∀ u w', φ u w' → Below w.heap.size w w' → K (a.put o.dst u) w') : Came P ops Q o a w K := by
  unfold Came
  rw [if_neg (by rw [hw]; exact Bool.false_ne_true)]
  exact hK undef w hφ (Below.refl _ _)
/-- A guard whose value is known. -/
theorem guard_known {o : Oper} {a : Act} (j : Nat) (want b : Bool) (d : Tmp) (hg : o.guard = some (j, want)) (hd : (ops[j]?).bind (·.dst) = some d) (hv : a.tmps[d]? = some (.bool b)) : Region.wanted o (yielded ops a.tmps) = (b == want) := by
  have hy : yielded ops a.tmps j = some b := by
    unfold yielded
    simp only [hd, Option.bind_some, hv]
  unfold Region.wanted
  simp only [hg, hy]
  cases b <;> cases want <;> rfl
/-- A call whose value is told. -/
theorem calls_known {f : FuncId} {args : Array Value} {w : World} {v : Value} (h : Calls P f args w fun e w' => e = .returned v ∧ Below w.heap.size w w') : Calls P f args w fun e w' => ∃ u, e = .returned u ∧ u = v ∧ Below w.heap.size w w' :=
  h.mono fun e w' he => ⟨v, he.1, rfl, he.2⟩
theorem stable_eq (x : Value) : Known.stable fun v _ => v = x := fun _ _ _ h _ => h
theorem stable_own (B : Nat) (l : List UInt8) : Known.stable fun v w => Own w B v l := fun _ _ _ h k => h.below k
theorem stable_all {L : List Known} (h : ∀ i (hi : i < L.length), Known.stable (L[i]'hi)) : ∀ φ ∈ L, Known.stable φ := fun φ hφ => by
  obtain ⟨i, hi, rfl⟩ := List.mem_iff_getElem.1 hφ
  exact h i hi
theorem stable_nil : ∀ φ ∈ ([] : List Known), Known.stable φ := fun _ h => by cases h
theorem stable_cons {φ : Known} {L : List Known} (h : Known.stable φ) (k : ∀ φ ∈ L, Known.stable φ) : ∀ ψ ∈ φ :: L, Known.stable ψ := fun ψ hψ => by
  rcases List.mem_cons.1 hψ with e | e
  · rw [e]; exact h
  · exact k ψ e
end
end Go.Proofs.Ytnejidaplbonoaa
