/-
  errors.As at a target of one of the project's two error types: the entries of internal/reflectlite that read or write memory, and the methods of the errors.
-/
import Derived.Test.YtfecccobihdopaaDoorErrs
namespace Go.Proofs.YtfecccobihdopaaDoor
open Go.RowKit Go.Extern.Stop Go.Stop Go.Extern
set_option linter.unusedVariables false

theorem rlm (z : Sem Value) (f : TypeId → Addr → Nat → Nat → Sem Value) (v : Value) :
    ReflectliteValue.method z f #[v] = (do match ← ReflectliteValue.parts v with | none => z | some (t, a, fl) => f t a fl (fl % 32)) := rfl
theorem rls (v x : Value) : ReflectliteValue.set #[v, x] = (do
    let (some (dst, a, fl), some (src, b, _)) := (← ReflectliteValue.parts v, ← ReflectliteValue.parts x)
      | unsupported (.noEntry "extern/(internal/reflectlite.Value).Set.zeroValue")
    if fl / ReflectliteValue.flagAddr % 2 == 0 then unsupported (.noEntry "extern/(internal/reflectlite.Value).Set.unaddressable")
    let val ← loadVar src b
    if ← Rtype.directlyAssignable dst src then storeVar dst a val
    else if ← Rtype.implements dst src then
      if (← Rtype.kind src) == 20 then
        match val with
        | .nilIface => unsupported (.noEntry "extern/reflectlite: a nil value of one interface type handed on as a value of another")
        | _ => storeVar dst a val
      else storeVar dst a (.iface src val)
    else panicString ("reflectlite.Set: value of type " ++ (← Rtype.spelt src) ++ " is not assignable to type " ++ (← Rtype.spelt dst))
    pure (.tuple #[])) := rfl

/-! ### The target is a *api.Code -/
theorem partsPC (a : Addr) (w : World) : (ReflectliteValue.parts (.agg #[.pointer (some ⟨5, 59, none⟩), .pointer (some a), .int .u64 150])).run Tryd.prog w = .ok (some (59, a, 150)) w := by kernel_rfl
theorem isNilPC (a p : Addr) (W : World) (ha : W.cell? a = some (.pointer (some p))) :
    (ReflectliteValue.method (ReflectliteValue.valueError "reflectlite.Value.IsNil" 0) ReflectliteValue.isNil #[.agg #[.pointer (some ⟨5, 59, none⟩), .pointer (some a), .int .u64 150]]).run Tryd.prog W = .ok (.bool false) W := by
  rw [rlm]
  simp only [Sem.run_bind, partsPC, Result.andThen]
  simp [ReflectliteValue.isNil, loadVar, isAgg, underlying, Tryd.underlying59, ha, Result.andThen]
theorem elemOfPC (w : World) : (Rtype.elem? 59).run Tryd.prog w = .ok (some 34) w := by kernel_rfl
theorem mkC (p : Addr) (w : World) : (ReflectliteValue.mk 34 p ReflectliteValue.flagAddr).run Tryd.prog w = .ok (.agg #[.pointer (some ⟨5, 34, none⟩), .pointer (some p), .int .u64 386]) w := by kernel_rfl
theorem elemVPC (a p : Addr) (W : World) (ha : W.cell? a = some (.pointer (some p))) :
    (ReflectliteValue.method (ReflectliteValue.valueError "reflectlite.Value.Elem" 0) ReflectliteValue.elem #[.agg #[.pointer (some ⟨5, 59, none⟩), .pointer (some a), .int .u64 150]]).run Tryd.prog W
      = .ok (.agg #[.pointer (some ⟨5, 34, none⟩), .pointer (some p), .int .u64 386]) W := by
  rw [rlm]
  simp only [Sem.run_bind, partsPC, Result.andThen]
  simp [ReflectliteValue.elem, loadVar, isAgg, underlying, Tryd.underlying59, ha, Result.andThen, elemOfPC, mkC]
theorem partsCa (a : Addr) (w : World) : (ReflectliteValue.parts (.agg #[.pointer (some ⟨5, 34, none⟩), .pointer (some a), .int .u64 386])).run Tryd.prog w = .ok (some (34, a, 386)) w := by kernel_rfl
theorem partsC (a : Addr) (w : World) : (ReflectliteValue.parts (.agg #[.pointer (some ⟨5, 34, none⟩), .pointer (some a), .int .u64 130])).run Tryd.prog w = .ok (some (34, a, 130)) w := by kernel_rfl
theorem directC (w : World) : (Rtype.directlyAssignable 34 34).run Tryd.prog w = .ok true w := by kernel_rfl

theorem setC (ta b : Addr) (c : Int) (old : Value) (W : World) (hb : W.cell? b = some (.int .i64 c)) (ht : W.cell? ta = some old) (hf : W.frozen? ta = false) :
    (ReflectliteValue.set #[.agg #[.pointer (some ⟨5, 34, none⟩), .pointer (some ta), .int .u64 386], .agg #[.pointer (some ⟨5, 34, none⟩), .pointer (some b), .int .u64 130]]).run Tryd.prog W
      = .ok (.tuple #[]) (W.setCell ta (.int .i64 c)) := by
  rw [rls]
  simp only [Sem.run_bind, partsCa, partsC, Result.andThen]
  simp [ReflectliteValue.flagAddr, loadVar, isAgg, underlying, Tryd.underlying34, hb, Result.andThen, directC, storeVar, Value.cells, storeCells, Addr.add]
  rw [run_store Tryd.prog W ta _ _ (by rfl)]
  simp [ht, hf]

/-! ### The target is a *api.Fault -/
theorem partsPF (a : Addr) (w : World) : (ReflectliteValue.parts (.agg #[.pointer (some ⟨5, 57, none⟩), .pointer (some a), .int .u64 150])).run Tryd.prog w = .ok (some (57, a, 150)) w := by kernel_rfl
theorem isNilPF (a p : Addr) (W : World) (ha : W.cell? a = some (.pointer (some p))) :
    (ReflectliteValue.method (ReflectliteValue.valueError "reflectlite.Value.IsNil" 0) ReflectliteValue.isNil #[.agg #[.pointer (some ⟨5, 57, none⟩), .pointer (some a), .int .u64 150]]).run Tryd.prog W = .ok (.bool false) W := by
  rw [rlm]
  simp only [Sem.run_bind, partsPF, Result.andThen]
  simp [ReflectliteValue.isNil, loadVar, isAgg, underlying, Tryd.underlying57, ha, Result.andThen]
theorem elemOfPF (w : World) : (Rtype.elem? 57).run Tryd.prog w = .ok (some 45) w := by kernel_rfl
theorem mkF (p : Addr) (w : World) : (ReflectliteValue.mk 45 p ReflectliteValue.flagAddr).run Tryd.prog w = .ok (.agg #[.pointer (some ⟨5, 45, none⟩), .pointer (some p), .int .u64 409]) w := by kernel_rfl
theorem elemVPF (a p : Addr) (W : World) (ha : W.cell? a = some (.pointer (some p))) :
    (ReflectliteValue.method (ReflectliteValue.valueError "reflectlite.Value.Elem" 0) ReflectliteValue.elem #[.agg #[.pointer (some ⟨5, 57, none⟩), .pointer (some a), .int .u64 150]]).run Tryd.prog W
      = .ok (.agg #[.pointer (some ⟨5, 45, none⟩), .pointer (some p), .int .u64 409]) W := by
  rw [rlm]
  simp only [Sem.run_bind, partsPF, Result.andThen]
  simp [ReflectliteValue.elem, loadVar, isAgg, underlying, Tryd.underlying57, ha, Result.andThen, elemOfPF, mkF]
theorem partsFa (a : Addr) (w : World) : (ReflectliteValue.parts (.agg #[.pointer (some ⟨5, 45, none⟩), .pointer (some a), .int .u64 409])).run Tryd.prog w = .ok (some (45, a, 409)) w := by kernel_rfl
theorem partsF (a : Addr) (w : World) : (ReflectliteValue.parts (.agg #[.pointer (some ⟨5, 45, none⟩), .pointer (some a), .int .u64 153])).run Tryd.prog w = .ok (some (45, a, 153)) w := by kernel_rfl
theorem directF (w : World) : (Rtype.directlyAssignable 45 45).run Tryd.prog w = .ok true w := by kernel_rfl

theorem setF (T B : Nat) (c a : Int) (old0 old1 : Value) (W : World) (hb0 : W.cell? ⟨B, 0, none⟩ = some (.int .i64 c)) (hb1 : W.cell? ⟨B, 1, none⟩ = some (.int .i64 a))
    (ht0 : W.cell? ⟨T, 0, none⟩ = some old0) (ht1 : W.cell? ⟨T, 1, none⟩ = some old1) (hf0 : W.frozen? ⟨T, 0, none⟩ = false) (hf1 : W.frozen? ⟨T, 1, none⟩ = false) :
    (ReflectliteValue.set #[.agg #[.pointer (some ⟨5, 45, none⟩), .pointer (some ⟨T, 0, none⟩), .int .u64 409], .agg #[.pointer (some ⟨5, 45, none⟩), .pointer (some ⟨B, 0, none⟩), .int .u64 153]]).run Tryd.prog W
      = .ok (.tuple #[]) ((W.setCell ⟨T, 0, none⟩ (.int .i64 c)).setCell ⟨T, 1, none⟩ (.int .i64 a)) := by
  rw [rls]
  simp only [Sem.run_bind, partsFa, partsF, Result.andThen]
  have s2 : ∀ w, (sizeOf 45).run Tryd.prog w = .ok 2 w := fun w => by kernel_rfl
  have hl := run_loadCells_list (P := Tryd.prog) (w := W) ⟨B, 0, none⟩ [.int .i64 c, .int .i64 a] (by
    intro j v hj
    match j, hj with
    | 0, hj => simp at hj; subst hj; exact hb0
    | 1, hj => simp at hj; subst hj; exact hb1)
  unfold loadCells at hl
  simp only [List.length_cons, List.length_nil] at hl
  have h1 : (W.setCell ⟨T, 0, none⟩ (.int .i64 c)).cell? ⟨T, 1, none⟩ = some old1 := by rw [World.cell?_setCell_other _ _ _ _ (by simp)]; exact ht1
  have h2 : (W.setCell ⟨T, 0, none⟩ (.int .i64 c)).frozen? ⟨T, 1, none⟩ = false := by rw [World.frozen?_setCell]; exact hf1
  have st0 : (store ⟨T, 0, none⟩ (.int .i64 c)).run Tryd.prog W = .ok () (W.setCell ⟨T, 0, none⟩ (.int .i64 c)) := by
    rw [run_store Tryd.prog W _ _ _ (by rfl)]
    simp [ht0, hf0]
  have st1 : (store ⟨T, 1, none⟩ (.int .i64 a)).run Tryd.prog (W.setCell ⟨T, 0, none⟩ (.int .i64 c)) = .ok () ((W.setCell ⟨T, 0, none⟩ (.int .i64 c)).setCell ⟨T, 1, none⟩ (.int .i64 a)) := by
    rw [run_store Tryd.prog _ _ _ _ (by rfl)]
    simp [h1, h2]
  simp [ReflectliteValue.flagAddr, loadVar, isAgg, underlying, Tryd.underlying45, Result.andThen, directF, storeVar, Value.cells, storeCells, Addr.add, s2, loadCells, hl, st0, st1]

/-! ### What the errors' types have -/
theorem noAsP (v : Value) (w : World) : (Instr.typeAssert (.iface 46 v) 28 83 true).run Tryd.prog w = .ok (.tuple #[.nilIface, .bool false]) w := run_typeAssert_lacksB Tryd.underlying83 (by kernel_rfl) (by kernel_rfl) v _ w
theorem noAsF (v : Value) (w : World) : (Instr.typeAssert (.iface 45 v) 28 83 true).run Tryd.prog w = .ok (.tuple #[.nilIface, .bool false]) w := run_typeAssert_lacksB Tryd.underlying83 (by kernel_rfl) (by kernel_rfl) v _ w
theorem noAsC (v : Value) (w : World) : (Instr.typeAssert (.iface 34 v) 28 83 true).run Tryd.prog w = .ok (.tuple #[.nilIface, .bool false]) w := run_typeAssert_lacksB Tryd.underlying83 (by kernel_rfl) (by kernel_rfl) v _ w
theorem hasUnP (v : Value) (w : World) : (Instr.typeAssert (.iface 46 v) 28 49 true).run Tryd.prog w = .ok (.tuple #[.iface 46 v, .bool true]) w := run_typeAssert_hasB Tryd.underlying49 (by kernel_rfl) v _ w
theorem hasUnF (v : Value) (w : World) : (Instr.typeAssert (.iface 45 v) 28 49 true).run Tryd.prog w = .ok (.tuple #[.iface 45 v, .bool true]) w := run_typeAssert_hasB Tryd.underlying49 (by kernel_rfl) v _ w
theorem noUnC (v : Value) (w : World) : (Instr.typeAssert (.iface 34 v) 28 49 true).run Tryd.prog w = .ok (.tuple #[.nilIface, .bool false]) w := run_typeAssert_lacksB Tryd.underlying49 (by kernel_rfl) (by kernel_rfl) v _ w
theorem noUnsC (v : Value) (w : World) : (Instr.typeAssert (.iface 34 v) 28 68 true).run Tryd.prog w = .ok (.tuple #[.nilIface, .bool false]) w := run_typeAssert_lacksB Tryd.underlying68 (by kernel_rfl) (by kernel_rfl) v _ w
theorem methodUnP (a : Option Addr) (w : World) : (Go.method 234 46 (.pointer a) "Unwrap").run Tryd.prog w = .ok (61, .pointer a) w := by kernel_rfl
theorem methodUnF (x y : Value) (w : World) : (Go.method 234 45 (.agg #[x, y]) "Unwrap").run Tryd.prog w = .ok (59, .agg #[x, y]) w := by kernel_rfl

theorem unwrapP_any (w : World) (b : Nat) (s : ByteArray) (u : Value) (h : Blk w b 48 #[.string s, u]) : Calls Tryd.prog 61 #[.pointer (some ⟨b, 0, none⟩)] w fun e w' => e = .returned u ∧ w = w' := by
  have c1 := h.cell 1
  simp only [List.getElem?_toArray, List.getElem?_cons_succ, List.getElem?_cons_zero] at c1
  go_enter Tryd.func61, Tryd.ntmps61
  go_wp2
  go_ret
  exact ⟨rfl, rfl⟩
theorem unwrapF_any (w : World) (c a : Int) : Calls Tryd.prog 59 #[.agg #[.int .i64 c, .int .i64 a]] w fun e w' => e = .returned (.iface 34 (.int .i64 c)) ∧ Below w.heap.size w w' := by
  go_enter Tryd.func59, Tryd.ntmps59
  go_wp2
  go_ret
  exact ⟨rfl, (Below.refl _ _).alloc (Nat.le_refl _) _⟩

end Go.Proofs.YtfecccobihdopaaDoor
