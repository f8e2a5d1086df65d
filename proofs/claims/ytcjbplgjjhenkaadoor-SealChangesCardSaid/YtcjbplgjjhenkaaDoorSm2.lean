/-
  Two arrays of numbers compared by '=='.
-/
import Derived.Test.YtcjbplgjjhenkaaDoorSm1
import Derived.Laws.StructEq
namespace Go.Proofs.YtcjbplgjjhenkaaDoor
open Go.RowKit
set_option linter.unusedVariables false

/-- Two arrays of numbers compared. -/
theorem run_equalIn_arr {P : Program} (d : Nat) (t e : TypeId) (n : Nat) (ht : P.underlying t = some (.array n e)) (k' : IntKind) (he : P.underlying e = some (.int k')) (hs : (P.info? e).map (·.size) = some 1)
    (xs ys : Array Value) (k : IntKind) (f g : Nat → Int) (hx : ∀ i, i < n → xs[i]? = some (.int k (f i))) (hy : ∀ i, i < n → ys[i]? = some (.int k (g i))) (w : World) :
    (Op.equalIn (d + 2) t (.agg xs) (.agg ys)).run P w = .ok ((List.range n).all fun i => f i == g i) w := by
  cases hq : P.info? e with
  | none => simp [hq] at hs
  | some i =>
    have hsz : i.size = 1 := by simpa [hq] using hs
    have hagg : (isAgg e).run P w = .ok false w := by
      unfold isAgg
      rw [Sem.run_bind, run_underlying he w]
      simp
    have key : ∀ L : List Nat, (∀ i ∈ L, i < n) → Sem.run P (forIn L ((none, ()) : Option Bool × Unit) fun i __s => do
        let a ← part e xs i
        let b ← part e ys i
        let r ← Op.equalIn (d + 1) e a b
        if r = false then pure (ForInStep.done (some false, ())) else pure (ForInStep.yield (none, ()))) w = .ok (cond (L.all fun i => f i == g i) (none, ()) (some false, ())) w := by
      intro L
      induction L with
      | nil => intro _; simp
      | cons j L ih =>
        intro hL
        have hj := hL j (by simp)
        have h1 : (part e xs j).run P w = .ok (.int k (f j)) w := by simp [part, hagg, hx j hj]
        have h2 : (part e ys j).run P w = .ok (.int k (g j)) w := by simp [part, hagg, hy j hj]
        have h3 := run_equalIn_int (P := P) w d e k k' (f j) (g j) he
        simp only [List.forIn_cons, Sem.run_bind, h1, h2, h3, Result.andThen_ok, List.all_cons]
        by_cases hfg : f j = g j
        · have e1 : (f j == g j) = true := by simp [hfg]
          have := ih (fun i hi => hL i (by simp [hi]))
          simp [e1]
          exact this
        · have e1 : (f j == g j) = false := by simp [hfg]
          simp [e1]
    rw [Op.equalIn]
    simp only [Sem.run_bind, run_underlying ht, Result.andThen_ok, sizeOf, typeInfo]
    simp [hq, hsz]
    have h := key (List.range n) (fun i hi => List.mem_range.1 hi)
    rw [List.range_eq_range'] at h ⊢
    rw [h]
    cases (List.range' 0 n).all fun i => f i == g i <;> simp
theorem run_eql_arr {P : Program} (t e : TypeId) (n : Nat) (ht : P.underlying t = some (.array n e)) (k' : IntKind) (he : P.underlying e = some (.int k')) (hs : (P.info? e).map (·.size) = some 1)
    (xs ys : Array Value) (k : IntKind) (f g : Nat → Int) (hx : ∀ i, i < n → xs[i]? = some (.int k (f i))) (hy : ∀ i, i < n → ys[i]? = some (.int k (g i))) (w : World) :
    (binOp .eql t (.agg xs) (.agg ys)).run P w = .ok (.bool ((List.range n).all fun i => f i == g i)) w := by
  rw [run_eql_struct, run_equalIn_arr 9998 t e n ht k' he hs xs ys k f g hx hy w]
  rfl
theorem run_eql_arr_same {P : Program} (t e : TypeId) (n : Nat) (ht : P.underlying t = some (.array n e)) (k' : IntKind) (he : P.underlying e = some (.int k')) (hs : (P.info? e).map (·.size) = some 1)
    (xs : Array Value) (k : IntKind) (f : Nat → Int) (hx : ∀ i, i < n → xs[i]? = some (.int k (f i))) (w : World) :
    (binOp .eql t (.agg xs) (.agg xs)).run P w = .ok (.bool true) w := by
  rw [run_eql_arr t e n ht k' he hs xs xs k f f hx hx w]
  simp
end Go.Proofs.YtcjbplgjjhenkaaDoor
