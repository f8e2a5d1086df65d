/-
  A region that draws its order, whose operations at first only read (calls may make memory, of what was there nothing turns), and whose last operations come one behind the other, behind all of these: walked once, in the order of the text. No function of the program is named here.
-/
import Derived.Test.YtnejidaplbonoaaBytes
import Derived.StillTail
import Derived.StillTailTactics
import Derived.Deep.Quiet
import Derived.Deep.QuietTactic
import Derived.Deep.MidRow
namespace Go.Proofs.Ytnejidaplbonoaa
open Go.RowKit
set_option linter.unusedVariables false
set_option linter.unusedSimpArgs false

section
variable {P : Program} {ops : Array Oper} {md : Region.Mode} {C : World → Prop} {n : Nat}

/-- Some f operations of the first n come up, whatever the order; L is met behind them. -/
def headAny (P : Program) (md : Region.Mode) (ops : Array Oper) (C : World → Prop) (n : Nat) (L : Array Bool → Act → Prop) : Nat → Array Bool → Act → Prop
  | 0, up, a => L up a
  | f + 1, up, a => Region.ready md ops up ≠ [] ∧ ∀ i, i ∈ Region.ready md ops up → i < n ∧ qOp P ops C i (headAny P md ops C n L f (up.setIfInBounds i true)) a
theorem headAny_wpAny {g : Nat} {L : Array Bool → Act → Prop} {Q : Exit → Act → World → Prop} (hL : ∀ up a, L up a → ∀ w, C w → wpAny P md ops Q g up a w) (f : Nat) :
    ∀ (up : Array Bool) (a : Act) (w : World), C w → headAny P md ops C n L f up a → wpAny P md ops Q (f + g) up a w := by
  induction f with
  | zero =>
    intro up a w hw h
    rw [Nat.zero_add]
    exact hL up a h w hw
  | succ f ih =>
    intro up a w hw h
    rw [Nat.add_right_comm]
    exact And.intro (fun e => absurd e h.1) fun i hi => wpOp_of_qOp hw (fun a' w' hw' h' => ih _ a' w' hw' h') (h.2 i hi).2
/-- What waits for an operation that has not come up. -/
theorem not_waiting {i j : Nat} {up : Array Bool} {oj : Oper} (hi : up.getD i true = false) (hj : j ∈ Region.ready md ops up) (hoj : ops[j]? = some oj) : ∀ e, e ∈ oj.after → Region.binds md e = true → e.on ≠ i := by
  intro e he hb heq
  obtain ⟨_, o, ho, hall⟩ := mem_ready.1 hj
  have : o = oj := Option.some.inj (ho.symm.trans hoj)
  subst this
  have h := hall e he hb
  rw [heq, getD_both hi] at h
  exact Bool.noConfusion h
theorem headAny_move {i : Nat} {oi : Oper} {v : Value} {L : Array Bool → Act → Prop} (hi : ops[i]? = some oi) (hsel : ∀ (j : Nat) (o : Oper) cs b, ops[j]? = some o → o.op ≠ .select cs b)
    (hs : Region.sinkB md ops n = true) (hc : Region.chainB md ops n = true) (hn : n < ops.size) (hin : i < n) (hL : ∀ up a, L up a → ∀ j, j ∈ Region.ready md ops up → n ≤ j) (f : Nat) :
    ∀ (up : Array Bool) (a : Act), HeadInv md ops n up →
      (∀ j oj, ops[j]? = some oj → j ≠ i → up.getD j true = false → (∀ e ∈ oj.after, Region.binds md e = true → e.on ≠ i) → oi.apart ops oj = true) →
      i ∈ Region.ready md ops up → YieldsIn P ops C oi v a → headAny P md ops C n L f (up.setIfInBounds i true) (a.put oi.dst v) → headAny P md ops C n L (f + 1) up a := by
  induction f with
  | zero =>
    intro up a inv free hr hy H
    have hun := (mem_ready.1 hr).1
    refine And.intro (List.ne_nil_of_mem hr) fun j hj => ?_
    rcases Nat.lt_or_ge j n with hjn | hjn
    · refine And.intro hjn ?_
      rcases Nat.decEq j i with hne | heq
      · exact absurd (hL _ _ H j (ready_mono hj hne)) (by omega)
      · subst heq
        exact hy.qOp hi H
    · exact absurd hj (tail_waits hs hc hn inv _ i rfl hin hun j hjn)
  | succ f ih =>
    intro up a inv free hr hy H
    have hun := (mem_ready.1 hr).1
    refine And.intro (List.ne_nil_of_mem hr) fun j hj => ?_
    rcases Nat.lt_or_ge j n with hjn | hjn
    · refine And.intro hjn ?_
      rcases Nat.decEq j i with hne | heq
      · obtain ⟨hjun, oj, hoj, _⟩ := mem_ready.1 hj
        have step := qOp_put hoj (free j oj hoj hne hjun (not_waiting hun hj hoj)) (fun cs b => hsel i oi cs b hi) (fun cs b => hsel j oj cs b hoj) hy (H.2 j (ready_mono hj hne)).2
        refine qOp_mono (fun a' h => ?_) step
        refine ih (up.setIfInBounds j true) a' (inv.set hj hjn) (fun k ok hk hki hku hno => free k ok hk hki ?_ hno) (ready_mono hr (Ne.symm hne)) h.1 ?_
        · rcases Nat.decEq j k with hjk | hjk
          · rwa [getD_set_ne true hjk] at hku
          · subst hjk
            exact hjun
        · rw [Array.setIfInBounds_comm _ _ hne]
          exact h.2
      · subst heq
        exact hy.qOp hi H
    · exact absurd hj (tail_waits hs hc hn inv _ i rfl hin hun j hjn)
theorem headAny_lex {g : Nat} {Lq : Act → Prop} (hsel : Region.noSelect ops = true) (hs : Region.sinkB md ops n = true) (hc : Region.chainB md ops n = true) (hn : n < ops.size) (l : List Oper) :
    ∀ (k : Nat) (up : Array Bool) (a : Act), (∀ j, j < l.length → l[j]? = ops[k + j]?) → k + l.length = n → HeadInv md ops n up → Region.lexHead md ops g l.length k up = true → wpQuiet P ops C Lq l a →
      headAny P md ops C n (fun up' a' => Region.seqB md ops g n up' = true ∧ Lq a') l.length up a := by
  induction l with
  | nil =>
    intro k up a _ hk _ hB h
    have e : k = n := hk
    subst e
    exact And.intro hB h
  | cons o l ih =>
    intro k up a hl hk inv hB h
    have h0 : ops[k]? = some o := (hl 0 (Nat.succ_pos _)).symm
    simp only [List.length_cons, Region.lexHead, Bool.and_eq_true] at hB
    have hr : k ∈ Region.ready md ops up := by simpa using hB.1.1
    have hkn : k < n := by simp only [List.length_cons] at hk; omega
    obtain ⟨v, hy, hK⟩ := yieldsIn_of_qOp (C := C) (K := wpQuiet P ops C Lq l) h0 (by unfold qOp; rw [h0]; exact h)
    refine headAny_move h0 (Region.noSelect_spec hsel) hs hc hn hkn (fun up' a' hq => seqB_ready hq.1) l.length up a inv (Region.free_spec h0 hB.1.2) hr hy ?_
    refine ih (k + 1) _ _ (fun j hj => ?_) (by simp only [List.length_cons] at hk; omega) (inv.set hr hkn) hB.2 hK
    have := hl (j + 1) (Nat.succ_lt_succ hj)
    rwa [List.getElem?_cons_succ, show k + (j + 1) = k + 1 + j by omega] at this
/-- The law. -/
theorem wp_region_tail {id : Nat} {Q : Exit → Act → World → Prop} {a : Act} {w : World} {l : List Oper} (C : World → Prop) (n : Nat) (hm : P.follows .mixedOrders = true) (hB : Region.lexTailB .any l.toArray n = true) (hC : C w.drew)
    (h : wpQuiet P l.toArray C (fun a' => ∀ w', C w' → wpList P l.toArray Q (l.drop n) a' w') (l.take n) a) : (Code.region id l.toArray true).wp P Q a w := by
  simp only [Region.lexTailB, Bool.and_eq_true, decide_eq_true_eq] at hB
  obtain ⟨⟨⟨⟨hsel, hn⟩, hs⟩, hc⟩, hlex⟩ := hB
  have hn' : n < l.length := hn
  have ht : (l.take n).length = n := by rw [List.length_take]; omega
  have hd : (l.drop n).length = l.toArray.size - n := by rw [List.length_drop, List.size_toArray]
  have unlisted : ∀ j, (Array.replicate l.toArray.size false).getD j false = false := getD_replicate_false _
  have inv : HeadInv .any l.toArray n (Array.replicate l.toArray.size false) := by
    refine ⟨by simp, fun j oj _ h1 => ?_, fun t _ h1 => getD_in (by simpa using h1) (unlisted t)⟩
    rw [unlisted j] at h1
    exact Bool.noConfusion h1
  have H := headAny_lex (P := P) (C := C) (g := l.toArray.size - n) hsel hs hc hn (l.take n) 0 _ a (fun j hj => by rw [ht] at hj; simp [hj]) (by rw [ht]; omega) inv (by rw [ht]; exact hlex) h
  rw [ht] at H
  have H2 := headAny_wpAny (Q := Q) (g := l.toArray.size - n) (fun up a' hq w' hw' => by
    have := wpAny_of_seq (md := .any) (Q' := Q) (l.drop n) n up a' w' (fun j => by simp [List.getElem?_drop]) (by rw [hd]; exact hq.1) (hq.2 w' hw')
    rwa [hd] at this) n _ a w.drew hC H
  refine wp_region_any hm ?_
  rw [show n + (l.toArray.size - n) = l.toArray.size by omega] at H2
  exact H2
/-- The same without last operations of such a kind. -/
theorem wp_region_class {id : Nat} {Q : Exit → Act → World → Prop} {a : Act} {w : World} {l : List Oper} (C : World → Prop) (hm : P.follows .mixedOrders = true) (hB : Region.lexB .any l.toArray = true) (hC : C w.drew)
    (h : wpQuiet P l.toArray C (fun a' => ∀ w', C w' → Q .normal a' w') l a) : (Code.region id l.toArray true).wp P Q a w :=
  wp_region_quiet (C := C) hm hB hC (by simpa using h)

/-! ### Single operations -/
theorem wanted_free {o : Oper} (hg : o.guard = none) (y : Nat → Option Bool) : Region.wanted o y = true := by unfold Region.wanted; rw [hg]
/-- A whole array read. -/
theorem quiet_load {Q : Act → Prop} {a : Act} {o : Oper} {rest : List Oper} (hw : Region.wanted o (yielded ops a.tmps) = true) (ty : TypeId) (x : Operand) (ho : o.op = .load ty x) (b off : Nat) (hx : a.eval x = .pointer (some ⟨b, off, none⟩)) (cs : List Value) (d : TypeDesc)
    (hr : ∀ w, C w → w.rangeAt b off cs) (hu : P.underlying ty = some d) (hd : d.isRow = true) (hi : (P.info? ty).map (·.size) = some cs.length) (h : wpQuiet P ops C Q rest (a.put o.dst (.agg cs.toArray))) : wpQuiet P ops C Q (o :: rest) a := by
  unfold wpQuiet
  rw [if_pos hw]
  refine ⟨.agg cs.toArray, fun w hC => ?_, h⟩
  unfold Oper.quietAt execOp
  simp only [ho, hx, Instr.loadAt, Instr.sureAddr, Sem.run_bind, Sem.run_pure, Result.andThen_ok, run_loadVar_mid w b off ty cs d (hr w hC) hu hd hi, Oper.quietUpon]
  exact ⟨trivial, trivial⟩
/-- A single cell read. -/
theorem quiet_cell {Q : Act → Prop} {a : Act} {o : Oper} {rest : List Oper} (hw : Region.wanted o (yielded ops a.tmps) = true) (ty : TypeId) (x : Operand) (ho : o.op = .load ty x) (b off : Nat) (hx : a.eval x = .pointer (some ⟨b, off, none⟩)) (v : Value) (d : TypeDesc)
    (hr : ∀ w, C w → w.cell? ⟨b, off, none⟩ = some v) (hu : P.underlying ty = some d) (hd : d.isRow = false) (h : wpQuiet P ops C Q rest (a.put o.dst v)) : wpQuiet P ops C Q (o :: rest) a := by
  unfold wpQuiet
  rw [if_pos hw]
  refine ⟨v, fun w hC => ?_, h⟩
  have hagg : (isAgg ty).run P w = .ok false w := by
    unfold isAgg
    rw [Sem.run_bind, run_underlying hu w]
    cases d <;> simp_all
  have hl : (load ⟨b, off, none⟩).run P w = .ok v w := by rw [run_load]; simp [hr w hC]
  unfold Oper.quietAt execOp
  simp only [ho, hx, Instr.loadAt, Instr.sureAddr, Sem.run_bind, Sem.run_pure, Result.andThen_ok, loadVar, hagg, hl, Oper.quietUpon]
  simp [hl, Oper.quietUpon]
/-- What yields one value in every world of the class, and leaves the world as it is. -/
theorem quiet_value {Q : Act → Prop} {a : Act} {o : Oper} {rest : List Oper} (v : Value) (hw : Region.wanted o (yielded ops a.tmps) = true) (hv : ∀ w, C w → (execOp a.eval o).run P w = .ok (.value v) w) (h : wpQuiet P ops C Q rest (a.put o.dst v)) : wpQuiet P ops C Q (o :: rest) a := by
  unfold wpQuiet
  rw [if_pos hw]
  refine ⟨v, fun w hC => ?_, h⟩
  unfold Oper.quietAt
  rw [hv w hC]
  exact ⟨rfl, rfl⟩
/-- A call. -/
theorem quiet_call {Q : Act → Prop} {a : Act} {o : Oper} {rest : List Oper} (f : FuncId) (args : Array Value) (v : Value) (hw : Region.wanted o (yielded ops a.tmps) = true) (he : ∀ w, (execOp a.eval o).run P w = .ok (.enter f args) w)
    (hv : ∀ w, C w → Calls P f args w fun e w' => e = .returned v ∧ C w') (h : wpQuiet P ops C Q rest (a.put o.dst v)) : wpQuiet P ops C Q (o :: rest) a := by
  unfold wpQuiet
  rw [if_pos hw]
  refine ⟨v, fun w hC => ?_, h⟩
  unfold Oper.quietAt
  rw [he w]
  exact ⟨rfl, hv w hC⟩
/-- What is not wanted. -/
theorem quiet_unwanted {Q : Act → Prop} {a : Act} {o : Oper} {rest : List Oper} (hw : Region.wanted o (yielded ops a.tmps) = false) (h : wpQuiet P ops C Q rest (a.put o.dst undef)) : wpQuiet P ops C Q (o :: rest) a := by
  unfold wpQuiet
  rw [if_neg (by rw [hw]; exact Bool.false_ne_true)]
  exact h
end
/-- A call that makes memory at most, in the class 'nothing old has turned'. -/
theorem calls_below {P : Program} {f : FuncId} {args : Array Value} {W w : World} {v : Value} (hb : Below W.heap.size W w) (h : Calls P f args w fun e w' => e = .returned v ∧ Below w.heap.size w w') : Calls P f args w fun e w' => e = .returned v ∧ Below W.heap.size W w' :=
  h.mono fun e w' he => ⟨he.1, hb.trans (he.2.mono hb.size)⟩
theorem calls_same {P : Program} {f : FuncId} {args : Array Value} {W w : World} {v : Value} (hb : Below W.heap.size W w) (h : Calls P f args w fun e w' => e = .returned v ∧ w = w') : Calls P f args w fun e w' => e = .returned v ∧ Below W.heap.size W w' :=
  h.mono fun e w' he => ⟨he.1, he.2 ▸ hb⟩
theorem Blk.range {w : World} {g : Nat} {t : TypeId} {cs : Array Value} (h : Blk w g t cs) : w.rangeAt g 0 cs.toList := fun j v hv => by
  rw [Nat.zero_add, h.cell]
  simpa using hv
end Go.Proofs.Ytnejidaplbonoaa
