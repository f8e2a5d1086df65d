/-
  A loop over an iterator that never ends by itself: what the loop owes is a bound on its rounds, an invariant, and one walk of its body. And: what is walked outside a round goes within a round, too. No function of the program is named here.
-/
import Derived.Test.YtcjbplgjjhenkaaDoorSm4
import Derived.RangeFuncWrites
import Derived.RangeFuncCalls
import Derived.RangeFuncLeaves
import Derived.OrdersIn
import Derived.WalkKit
import Derived.OwnWalkIn
import Derived.TacticsInMore
import Derived.LoopNIn
import Derived.LoopIn
namespace Go.Proofs.YtcjbplgjjhenkaaDoor
open Go.RowKit
set_option linter.unusedVariables false
set_option linter.unusedSimpArgs false

/-- The fence that asks nothing, in a round or outside. -/
abbrev wideAt (ro : Option Nat) : Fence := { Fence.wide with round := ro }
section
variable {P : Program} {ro : Option Nat} {n : Nat}
theorem callsAt {f : FuncId} {args : Array Value} {w : World} {R : Ending → World → Prop} (h : Calls P f args w R) : CallsIn (wideAt ro) n P f args w R := (callsIn_wide (n := n)).2 h
theorem rowsAt {row : String} {args : Array Value} {w : World} {R : Value → World → Prop} (h : Rows P row args w R) : RowsIn (wideAt ro) n P row args w R := fun c cs _ => by
  obtain ⟨v, w', r, s⟩ := h c cs
  exact ⟨v, w', r, stepsIn_wide.2 s⟩
/-- An operation that defers nothing goes anywhere as outside. -/
theorem opAt {o : Oper} {a : Act} {w : World} {K : Act → World → Prop} {Q : Exit → Act → World → Prop} (hd : ∀ c, o.op ≠ .defer c) (h : o.wp P a w K Q) : o.wpIn (wideAt ro) n P a w K Q := by
  refine ⟨fun _ _ => trivial, ?_⟩
  have e : (o.semAt (wideAt ro).round a.eval) = execOp a.eval o := Oper.semAt_eq _ _ _ hd
  rw [e]
  unfold Oper.wp at h
  generalize (execOp a.eval o).run P w = r at h ⊢
  cases r with
  | ok x w' =>
    cases x with
    | value v => exact h
    | skip => exact h
    | defer d => exact h
    | enter f args => exact ⟨fun e => (by cases e), callsAt h⟩
    | row row args => exact ⟨fun e => (by cases e), rowsAt h⟩
    | _ => exact h.elim
  | halt x w' =>
    cases x with
    | panic v => exact h
    | _ => exact h.elim
def noDefer (o : Oper) : Bool := match o.op with | .defer _ => false | _ => true
theorem noDefer_op {o : Oper} (h : noDefer o = true) : ∀ c, o.op ≠ .defer c := fun c e => by
  unfold noDefer at h
  rw [e] at h
  cases h
theorem listAt {ops : Array Oper} {Q : Exit → Act → World → Prop} (hQ : ¬ LetsOut Q) : ∀ (l : List Oper) (a : Act) (w : World), l.all noDefer = true → wpList P ops Q l a w → wpListIn (wideAt ro) n P ops Q l a w
  | [], _, _, _, h => h
  | o :: l, a, w, hd, h => by
    rw [List.all_cons, Bool.and_eq_true] at hd
    unfold wpListIn
    unfold wpList at h
    split
    · rename_i hw
      rw [if_pos hw] at h
      exact Oper.wpIn_mono (fun a' w' => listAt hQ l a' w' hd.2) (opAt (noDefer_op hd.1) (h.resolve_right fun x => hQ x.2))
    · rename_i hw
      rw [if_neg hw] at h
      exact ⟨fun _ _ => trivial, listAt hQ l _ _ hd.2 h⟩
/-- A region that goes in the text's order. -/
theorem regionAt {id : Nat} {l : List Oper} {Q : Exit → Act → World → Prop} {a : Act} {w : World} (hQ : ¬ LetsOut Q) (hd : l.all noDefer = true) (h : wpList P l.toArray Q l a w) : (Code.region id l.toArray false).wpIn (wideAt ro) n P Q a w := wpIn_region_lit (listAt hQ l a w hd h)
theorem anyAt {md : Region.Mode} {ops : Array Oper} {Q : Exit → Act → World → Prop} (hQ : ¬ LetsOut Q) (hd : ops.all noDefer = true) : ∀ (fuel : Nat) (listed : Array Bool) (a : Act) (w : World), wpAny P md ops Q fuel listed a w → wpAnyIn (wideAt ro) n P md ops Q fuel listed a w
  | 0, _, _, _, h => h
  | fuel + 1, listed, a, w, h => by
    refine ⟨h.1, fun i hi => ?_⟩
    have h2 := h.2 i hi
    unfold wpOp at h2
    unfold wpOpIn
    cases ho : ops[i]? with
    | none =>
      rw [ho] at h2
      exact anyAt hQ hd fuel _ _ _ h2
    | some o =>
      rw [ho] at h2
      have hn : noDefer o = true := by
        rw [Array.all_eq_true_iff_forall_mem] at hd
        exact hd o (Array.mem_of_getElem? ho)
      dsimp only at h2 ⊢
      split
      · rename_i hw
        rw [if_pos hw] at h2
        exact Oper.wpIn_mono (fun a' w' => anyAt hQ hd fuel _ a' w') (opAt (noDefer_op hn) (h2.resolve_right fun x => hQ x.2))
      · rename_i hw
        rw [if_neg hw] at h2
        exact ⟨fun _ _ => trivial, anyAt hQ hd fuel _ _ _ h2⟩
/-- A region that draws its order. -/
theorem drawnAt {id : Nat} {l : List Oper} {Q : Exit → Act → World → Prop} {a : Act} {w : World} (hm : P.follows .mixedOrders = true) (hQ : ¬ LetsOut Q) (hd : l.all noDefer = true) (h : wpAny P .any l.toArray Q l.toArray.size (Array.replicate l.toArray.size false) a w.drew) : (Code.region id l.toArray true).wpIn (wideAt ro) n P Q a w :=
  wpIn_region_any hm (anyAt hQ (by simpa using hd) _ _ _ _ h)
end

/-! ### A loop whose body alone ends it -/
/-- The blocks from b to d lie as they lay. -/
structure Span (b d : Nat) (A A' : World) : Prop where
  size : A.heap.size ≤ A'.heap.size
  same : ∀ j, b ≤ j → j < d → A'.heap[j]? = A.heap[j]?
theorem Span.refl (b d : Nat) (A : World) : Span b d A A := ⟨Nat.le_refl _, fun _ _ _ => rfl⟩
theorem Span.trans {b d : Nat} {A B C : World} (h : Span b d A B) (k : Span b d B C) : Span b d A C := ⟨Nat.le_trans h.size k.size, fun j h1 h2 => (k.same j h1 h2).trans (h.same j h1 h2)⟩
theorem Span.below {b d B : Nat} {A A' : World} (hd : d ≤ B) (h : Below B A A') : Span b d A A' := ⟨h.size, fun j _ h2 => h.block j (by omega)⟩
theorem Span.grown {b d : Nat} {A A' : World} {l : Nat} (hd : d ≤ A.heap.size) (h : A.grownBy A' (some l)) (hl : l < b ∨ d ≤ l) : Span b d A A' := ⟨h.size, fun j h1 h2 => h.block j (by omega) (fun e => by cases e; omega)⟩
/-- What is no cells and was laid from B on, and what is told, lies as it lay. -/
def Turns (B : Nat) (A A' : World) : Prop := ∃ l, B ≤ l ∧ A.grownBy A' (some l) ∧ ∃ o : Obj, A.heap[l]? = some o ∧ o.isCells = false
/-- An iterator that yields one value behind the other until a round says no. -/
def Endless (P : Program) (g : Nat) (lb : Array Value) (val : Nat → Value) (M b d : Nat) (w0 : World) : Prop :=
  ∀ (l : Nat) (J : Nat → World → Prop) (X : World → Prop) (W : World), Span b d w0 W →
    (∀ k A A', J k A → Below A.heap.size A A' → J k A') → (∀ A A', X A → Below A.heap.size A A' → X A') →
    (∀ k A, J k A → k < M) →
    (∀ k A, J k A → YieldAt Fence.wide 0 P l #[val k] A fun e A' => (e = .returned (.bool true) ∧ J (k + 1) A' ∧ Span b d A A') ∨ (e = .returned (.bool false) ∧ X A')) →
    J 0 W →
    CallsIn Fence.wide 0 P g (#[.func (.yield l) #[] #[]] ++ lb) W fun e A => (∃ v, e = .returned v) ∧ X A
/-- How a round may be left. -/
def roundEnds (B b d : Nat) (c : Code) (I : World → Prop) (X : World → Prop) (A : World) : Exit → Act → World → Prop
  | .normal, _, A' => KeepsFrom B A A' ∧ Span b d A A' ∧ I A'
  | .exit id, _, A' => c = .exit id ∧ KeepsFrom B A A' ∧ X A'
  | _, _, _ => False
theorem roundEnds_out {B b d : Nat} {c : Code} {I : World → Prop} {X : World → Prop} {A : World} : ¬ LetsOut (roundEnds B b d c I X A) := fun ⟨_, _, h⟩ => h
theorem turns_put {A : World} {B l : Nat} {o : Obj} (o' : Obj) (hl : B ≤ l) (h : A.heap[l]? = some o) (ho : o.isCells = false) : Turns B A (A.putObj l o') := ⟨l, hl, grownBy_putObj' A l o', o, h, ho⟩
theorem keeps_below {A A' : World} (h : Below A.heap.size A A') (k : Nat) (o : Obj) (hk : A.heap[k]? = some o) : A'.heap[k]? = some o := (h.block k (Array.getElem?_eq_some_iff.1 hk).1).trans hk
theorem range_endless {P : Program} {g : Operand} {ps : Array Tmp} {assign body : Code} {Q : Exit → Act → World → Prop} {a : Act} {w : World} {gf : Nat} {lb : Array Value}
    (hg : a.eval g = .func (.func gf) #[] lb) (eg : ∀ args w, (callFunc gf args).run P w = .ok (.enter gf args) w) {val : Nat → Value} {M b d : Nat} (hd : d ≤ w.heap.size) (hseq : Endless P gf lb val M b d w) (hps : ps.size = 1)
    (I : Nat → World → Prop) (X : World → Prop) (Ax : Nat → Act → World → Prop) (c : Code)
    (hIb : ∀ k A A', I k A → Below A.heap.size A A' → I k A') (hIt : ∀ k A A', I k A → Turns w.heap.size A A' → I k A')
    (hXb : ∀ A A', X A → Below A.heap.size A A' → X A') (hXt : ∀ A A', X A → Turns w.heap.size A A' → X A')
    (hAt : ∀ k a' A A', Ax k a' A → Turns w.heap.size A A' → Ax k a' A')
    (h0 : I 0 w) (hM : ∀ k A, I k A → k < M)
    (hassign : ∀ (l k : Nat) (A : World) (K : Act → World → Prop), I k A → (∀ a' A', KeepsFrom w.heap.size A A' → Span b d A A' → Ax k a' A' → K a' A') →
      assign.wpIn (wideAt (some l)) 0 P (Exit.then K (fun _ _ _ => False)) { tmps := (ps.zip #[val k]).foldl (fun t (p, v) => t.setIfInBounds p v) a.tmps, defers := [] } A)
    (hbody : ∀ (l k : Nat) (a' : Act) (A : World), w.heap.size < l → l < A.heap.size → Ax k a' A → body.wpIn (wideAt (some l)) 0 P (roundEnds w.heap.size b d c (I (k + 1)) X A) a' A)
    (hstop : ∀ (D : Nat) (A : World), w.heap.size ≤ D → X A → A.heap[D]? = some (.deferred (some [])) → c.wpIn Fence.wide 0 P Q { a with defers := { target := .collected D, args := #[] } :: a.defers } A) :
    (Code.rangeFunc g ps assign body).wpIn Fence.wide 0 P Q a w := by
  refine wpIn_rangeFunc fun fn _ => ?_
  -- the loop's record
  let rec_ : LoopState → Option Code → Loop := fun st pe => { state := st, pending := pe, fn, tmps := a.tmps, params := ps, assign, body, defers := w.heap.size }
  obtain ⟨R, hR⟩ : ∃ R, R = rec_ := ⟨_, rfl⟩
  obtain ⟨S, hS⟩ : ∃ S, S = w.heap.size := ⟨_, rfl⟩
  obtain ⟨V, hV⟩ : ∃ V, V = (w.alloc (.deferred (some []))).alloc (.loop (R .ready none)) := ⟨_, rfl⟩
  have hbV : Below S w V := by
    rw [hV, hS]
    exact ((Below.refl _ w).alloc (Nat.le_refl _) _).alloc (by simp) _
  have hDV : V.heap[S]? = some (.deferred (some [])) := by
    rw [hV, hS]
    exact (Below.heap_alloc _ _ _ (by simp)).trans (World.alloc_heap_new w _)
  have hLV : V.heap[S + 1]? = some (.loop (R .ready none)) := by
    rw [hV, hS]
    have := World.alloc_heap_new (w.alloc (.deferred (some []))) (.loop (R .ready none))
    rwa [World.size_alloc] at this
  rw [← hS] at hd hIt hXt hAt hassign hbody hstop
  refine ⟨S + 1, [{ target := .collected S, args := #[] }], V, { target := .fn (.func gf) lb, args := #[.func (.yield (S + 1)) #[] #[]] }, V, gf, #[.func (.yield (S + 1)) #[] #[]] ++ lb, V, ?_, ?_, fun _ _ => trivial, ?_, fun e => (by cases e), ?_⟩
  · rw [hV, hR, hS]
    exact run_enterLoop_outer _ _ _ _ _
  · simp only [resolve, hg]
    simp [go_sem]
  · simp [invoke, go_sem, eg]
  · refine (hseq (S + 1) (fun k A => I k A ∧ A.heap[S + 1]? = some (.loop (R .ready none)) ∧ A.heap[S]? = some (.deferred (some [])))
      (fun A => X A ∧ A.heap[S + 1]? = some (.loop (R .done (some c))) ∧ A.heap[S]? = some (.deferred (some []))) V (Span.below (by omega) hbV)
      (fun k A A' h hb => ⟨hIb k A A' h.1 hb, keeps_below hb _ _ h.2.1, keeps_below hb _ _ h.2.2⟩) (fun A A' h hb => ⟨hXb A A' h.1 hb, keeps_below hb _ _ h.2.1, keeps_below hb _ _ h.2.2⟩)
      (fun k A h => hM k A h.1) ?_ ⟨hIb 0 w V h0 (by rw [← hS]; exact hbV), hLV, hDV⟩).mono ?_
    · rintro k A ⟨hi, hl, hk⟩
      have hy := run_yield (P := P) (args := #[val k]) hl (by rw [hR]; simp [rec_, hps])
      rw [hR] at hy
      refine ⟨fn, _, assign, body, hy, roundIn_of_wpIn trivial (hassign _ k A _ hi ?_)⟩
      clear hy
      intro a' A1 hk1 hs1 hax
      have hl1 := hk1.same _ _ (by omega) hl rfl
      have hd1 := hk1.same _ _ (by omega) hk rfl
      have hlt : S + 1 < A1.heap.size := (Array.getElem?_eq_some_iff.1 hl1).1
      refine ⟨_, run_beginRound hl1 (by rw [hR]), ?_⟩
      obtain ⟨A2, hA2⟩ : ∃ A2, A2 = A1.putObj (S + 1) (.loop { R .ready none with state := .busy }) := ⟨_, rfl⟩
      rw [← hA2]
      have ht2 : Turns S A1 A2 := by rw [hA2]; exact turns_put _ (by omega) hl1 rfl
      have hs2 : Span b d A1 A2 := by
        rw [hA2]
        exact Span.grown (by omega) (grownBy_putObj' _ _ _) (.inr (by omega))
      have hl2 : A2.heap[S + 1]? = some (.loop { R .ready none with state := .busy }) := by rw [hA2]; exact World.putObj_heap_same hlt
      have hd2 : A2.heap[S]? = some (.deferred (some [])) := by rw [hA2]; exact (World.putObj_heap_other (by omega)).trans hd1
      have hz2 : S + 1 < A2.heap.size := (Array.getElem?_eq_some_iff.1 hl2).1
      refine wpIn_mono (hbody (S + 1) k a' A2 (by omega) hz2 (hAt k a' A1 A2 hax ht2)) ?_
      rintro e a3 A3 hp
      have fin : ∀ (jump : Option Code), KeepsFrom S A2 A3 → ∃ A4, (Instr.endRound (S + 1) jump).run P A3 = .ok (.bool jump.isNone) A4 ∧ Turns S A3 A4 ∧ A4.heap[S + 1]? = some (.loop (R (if jump.isNone then .ready else .done) jump)) ∧ A4.heap[S]? = some (.deferred (some [])) ∧ Span b d A3 A4 := fun jump hk3 => by
        have hl3 := hk3.same _ _ (by omega) hl2 rfl
        have hd3 := hk3.same _ _ (by omega) hd2 rfl
        have hz3 : S + 1 < A3.heap.size := (Array.getElem?_eq_some_iff.1 hl3).1
        have he := run_endRound (P := P) jump hl3
        refine ⟨_, he, turns_put _ (by omega) hl3 rfl, ?_, (World.putObj_heap_other (by omega)).trans hd3, Span.grown (by omega) (grownBy_putObj' _ _ _) (.inr (by omega))⟩
        rw [World.putObj_heap_same hz3, hR]
      cases e with
      | normal =>
        obtain ⟨hk3, hs3, hi3⟩ := hp
        obtain ⟨A4, hr, ht4, hl4, hd4, hs4⟩ := fin none hk3
        exact ⟨_, A4, hr, .inl ⟨rfl, ⟨hIt _ _ _ hi3 ht4, hl4, hd4⟩, ((hs1.trans hs2).trans hs3).trans hs4⟩⟩
      | exit id =>
        obtain ⟨hc, hk3, hx3⟩ := hp
        subst hc
        obtain ⟨A4, hr, ht4, hl4, hd4, hs4⟩ := fin (some (.exit id)) hk3
        exact ⟨_, A4, hr, .inr ⟨rfl, hXt _ _ hx3 ht4, hl4, hd4⟩⟩
      | _ => exact hp.elim
    · rintro e A ⟨⟨v, rfl⟩, hx, hl, hk⟩
      have he := run_endLoop (P := P) hl (by rw [hR]; simp [rec_])
      have hp : (R LoopState.done (some c)).pending = some c := by rw [hR]
      rw [hp] at he
      exact ⟨some c, _, he, hstop S _ (Nat.le_refl _) (hXt _ _ hx (turns_put _ (by omega) hl rfl)) ((World.putObj_heap_other (by omega)).trans hk)⟩
end Go.Proofs.YtcjbplgjjhenkaaDoor
