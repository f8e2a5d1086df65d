/-
  Errors of the project as values in memory; errors.As at a target of one of the project's two error types, by contracts.
-/
import Derived.Test.YtfecccobihdopaaDoorWords
import Derived.WalkSpells
import Derived.WalkLawsBesides
import Derived.LaidEql
import Derived.Stop.Asserts
import Derived.RowKitTokens
import Derived.Lib.Hide
import Derived.Deep.LoopGhost
namespace Go.Proofs.YtfecccobihdopaaDoor
open Go.RowKit Go.Extern.Stop Go.Stop Go.Extern
set_option linter.unusedVariables false

/-- An error: a code, a fault, or one that a part is around. -/
inductive Err where
  | code (c : Int)
  | fault (c a : Int)
  | part (s : ByteArray) (e : Err)
namespace Err
def codeOf : Err → Int
  | .code c => c
  | .fault c _ => c
  | .part _ e => e.codeOf
def placeOf : Err → Option Int
  | .code _ => none
  | .fault _ a => some a
  | .part _ e => e.placeOf
def depth : Err → Nat
  | .code _ => 0
  | .fault _ _ => 1
  | .part _ e => e.depth + 2
end Err
/-- The value v is that error. -/
def ErrAt (w : World) : Value → Err → Prop
  | v, .code c => v = .iface 34 (.int .i64 c)
  | v, .fault c a => v = .iface 45 (.agg #[.int .i64 c, .int .i64 a])
  | v, .part s e => ∃ b u, v = .iface 46 (.pointer (some ⟨b, 0, none⟩)) ∧ Blk w b 48 #[.string s, u] ∧ ErrAt w u e
theorem ErrAt.keep {w w' : World} : ∀ {e : Err} {v : Value}, ErrAt w v e → (∀ b, b < w.heap.size → w'.heap[b]? = w.heap[b]?) → ErrAt w' v e
  | .code _, _, h, _ => h
  | .fault _ _, _, h, _ => h
  | .part _ e, _, ⟨b, u, hv, hb, hu⟩, hk => ⟨b, u, hv, hb.keep (hk b hb.lt), ErrAt.keep hu hk⟩
theorem ErrAt.below {w w' : World} {e : Err} {v : Value} (h : ErrAt w v e) (hb : Below w.heap.size w w') : ErrAt w' v e := h.keep fun b hlt => hb.block b hlt
theorem ErrAt.alloc {w : World} {e : Err} {v : Value} (h : ErrAt w v e) (o : Obj) : ErrAt (w.alloc o) v e := h.keep fun b hlt => Below.heap_alloc w o b hlt
theorem ErrAt.iface {w : World} {e : Err} {v : Value} (h : ErrAt w v e) : ∃ t x, v = .iface t x := by
  cases e with
  | code c => exact ⟨_, _, h⟩
  | fault c a => exact ⟨_, _, h⟩
  | part s e => obtain ⟨b, u, hv, _⟩ := h; exact ⟨_, _, hv⟩

/-- The cell of errors.errorType holds the handle of the type error. -/
def EtAt (w : World) : Prop := w.cell? ⟨1, 0, none⟩ = some (.iface 63 (.agg #[.pointer (some ⟨5, 28, none⟩)]))
theorem EtAt.lt {w : World} (h : EtAt w) : 1 < w.heap.size := World.block_lt_of_cell? w ⟨1, 0, none⟩ h
theorem EtAt.below {w w' : World} (h : EtAt w) (hb : Below w.heap.size w w') : EtAt w' := (hb.cell (p := ⟨1, 0, none⟩) h.lt).trans h
theorem EtAt.alloc {w : World} (h : EtAt w) (o : Obj) : EtAt (w.alloc o) := (World.cell?_alloc_lt _ _ ⟨1, 0, none⟩ h.lt).trans h

/-! ### Closed facts on the model's entries for internal/reflectlite -/
abbrev hnd (t : Nat) : Value := .pointer (some ⟨5, t, none⟩)
theorem valueOfPC (t : Addr) (w : World) : (ReflectliteValue.unpack (.iface 59 (.pointer (some t)))).run Tryd.prog w
    = .ok (.agg #[.pointer (some ⟨5, 59, none⟩), .pointer (some ⟨w.heap.size, 0, none⟩), .int .u64 150]) (w.alloc (.cells #[.pointer (some t)] 59)) := by kernel_rfl
theorem valueOfPF (t : Addr) (w : World) : (ReflectliteValue.unpack (.iface 57 (.pointer (some t)))).run Tryd.prog w
    = .ok (.agg #[.pointer (some ⟨5, 57, none⟩), .pointer (some ⟨w.heap.size, 0, none⟩), .int .u64 150]) (w.alloc (.cells #[.pointer (some t)] 57)) := by kernel_rfl
theorem typePC (a : Addr) (w : World) : (ReflectliteValue.methodAny (ReflectliteValue.valueError "reflectlite.Value.Type" 0) (fun t _ _ _ => ReflectliteType.toType t) #[.agg #[.pointer (some ⟨5, 59, none⟩), .pointer (some a), .int .u64 150]]).run Tryd.prog w
    = .ok (.iface 63 (.agg #[.pointer (some ⟨5, 59, none⟩)])) w := by kernel_rfl
theorem typePF (a : Addr) (w : World) : (ReflectliteValue.methodAny (ReflectliteValue.valueError "reflectlite.Value.Type" 0) (fun t _ _ _ => ReflectliteType.toType t) #[.agg #[.pointer (some ⟨5, 57, none⟩), .pointer (some a), .int .u64 150]]).run Tryd.prog w
    = .ok (.iface 63 (.agg #[.pointer (some ⟨5, 57, none⟩)])) w := by kernel_rfl
theorem methodKind (h : Value) (w : World) : (Go.method 234 63 (.agg #[h]) "Kind").run Tryd.prog w = .ok (40, h) w := by kernel_rfl
theorem methodElem (h : Value) (w : World) : (Go.method 234 63 (.agg #[h]) "Elem").run Tryd.prog w = .ok (65, .agg #[h]) w := by kernel_rfl
theorem methodImplements (h : Value) (w : World) : (Go.method 234 63 (.agg #[h]) "Implements").run Tryd.prog w = .ok (66, .agg #[h]) w := by kernel_rfl
theorem methodAssignableTo (h : Value) (w : World) : (Go.method 234 63 (.agg #[h]) "AssignableTo").run Tryd.prog w = .ok (63, .agg #[h]) w := by kernel_rfl
theorem kindPC (w : World) : ((ReflectliteType.abiMethod fun t => (fun a : Nat => Value.int IntKind.u8 (a : Int)) <$> Rtype.kind t) #[.pointer (some ⟨5, 59, none⟩)]).run Tryd.prog w = .ok (.int .u8 22) w := by kernel_rfl
theorem kindPF (w : World) : ((ReflectliteType.abiMethod fun t => (fun a : Nat => Value.int IntKind.u8 (a : Int)) <$> Rtype.kind t) #[.pointer (some ⟨5, 57, none⟩)]).run Tryd.prog w = .ok (.int .u8 22) w := by kernel_rfl
theorem kindC (w : World) : ((ReflectliteType.abiMethod fun t => (fun a : Nat => Value.int IntKind.u8 (a : Int)) <$> Rtype.kind t) #[.pointer (some ⟨5, 34, none⟩)]).run Tryd.prog w = .ok (.int .u8 2) w := by kernel_rfl
theorem kindF (w : World) : ((ReflectliteType.abiMethod fun t => (fun a : Nat => Value.int IntKind.u8 (a : Int)) <$> Rtype.kind t) #[.pointer (some ⟨5, 45, none⟩)]).run Tryd.prog w = .ok (.int .u8 25) w := by kernel_rfl
theorem elemPC (w : World) : (ReflectliteType.method ReflectliteType.elem #[.agg #[.pointer (some ⟨5, 59, none⟩)]]).run Tryd.prog w = .ok (.iface 63 (.agg #[.pointer (some ⟨5, 34, none⟩)])) w := by kernel_rfl
theorem elemPF (w : World) : (ReflectliteType.method ReflectliteType.elem #[.agg #[.pointer (some ⟨5, 57, none⟩)]]).run Tryd.prog w = .ok (.iface 63 (.agg #[.pointer (some ⟨5, 45, none⟩)])) w := by kernel_rfl
theorem implC (w : World) : (ReflectliteType.relation "Implements" ReflectliteType.implements_ #[.agg #[.pointer (some ⟨5, 34, none⟩)], .iface 63 (.agg #[.pointer (some ⟨5, 28, none⟩)])]).run Tryd.prog w = .ok (.bool true) w := by kernel_rfl
theorem implF (w : World) : (ReflectliteType.relation "Implements" ReflectliteType.implements_ #[.agg #[.pointer (some ⟨5, 45, none⟩)], .iface 63 (.agg #[.pointer (some ⟨5, 28, none⟩)])]).run Tryd.prog w = .ok (.bool true) w := by kernel_rfl
theorem typeOfP (v : Value) (w : World) : (ReflectliteType.typeOf #[.iface 46 v]).run Tryd.prog w = .ok (.iface 63 (.agg #[.pointer (some ⟨5, 46, none⟩)])) w := by kernel_rfl
theorem typeOfF (v : Value) (w : World) : (ReflectliteType.typeOf #[.iface 45 v]).run Tryd.prog w = .ok (.iface 63 (.agg #[.pointer (some ⟨5, 45, none⟩)])) w := by kernel_rfl
theorem typeOfC (v : Value) (w : World) : (ReflectliteType.typeOf #[.iface 34 v]).run Tryd.prog w = .ok (.iface 63 (.agg #[.pointer (some ⟨5, 34, none⟩)])) w := by kernel_rfl
abbrev assignable (x y : Nat) : Sem Value := ReflectliteType.relation "AssignableTo" ReflectliteType.assignableTo #[.agg #[.pointer (some ⟨5, x, none⟩)], .iface 63 (.agg #[.pointer (some ⟨5, y, none⟩)])]
theorem asgPC (w : World) : (assignable 46 34).run Tryd.prog w = .ok (.bool false) w := by kernel_rfl
theorem asgFC (w : World) : (assignable 45 34).run Tryd.prog w = .ok (.bool false) w := by kernel_rfl
theorem asgCC (w : World) : (assignable 34 34).run Tryd.prog w = .ok (.bool true) w := by kernel_rfl
theorem asgPF (w : World) : (assignable 46 45).run Tryd.prog w = .ok (.bool false) w := by kernel_rfl
theorem asgFF (w : World) : (assignable 45 45).run Tryd.prog w = .ok (.bool true) w := by kernel_rfl
theorem asgCF (w : World) : (assignable 34 45).run Tryd.prog w = .ok (.bool false) w := by kernel_rfl
theorem valueOfC (c : Int) (w : World) : (ReflectliteValue.unpack (.iface 34 (.int .i64 c))).run Tryd.prog w
    = .ok (.agg #[.pointer (some ⟨5, 34, none⟩), .pointer (some ⟨w.heap.size, 0, none⟩), .int .u64 130]) (w.alloc (.cells #[.int .i64 c] 34)) := by kernel_rfl
theorem valueOfF (c a : Int) (w : World) : (ReflectliteValue.unpack (.iface 45 (.agg #[.int .i64 c, .int .i64 a]))).run Tryd.prog w
    = .ok (.agg #[.pointer (some ⟨5, 45, none⟩), .pointer (some ⟨w.heap.size, 0, none⟩), .int .u64 153]) (w.alloc (.cells #[.int .i64 c, .int .i64 a] 45)) := by kernel_rfl

end Go.Proofs.YtfecccobihdopaaDoor
