/-
  errors.Is at a target that is a code, errors.Unwrap at a part: by contracts.
-/
import Derived.Test.YtfecccobihdopaaDoorErrsE
namespace Go.Proofs.YtfecccobihdopaaDoor
open Go.RowKit Go.Extern.Stop Go.Stop Go.Extern
set_option linter.unusedVariables false

theorem comparableC (w : World) : ((ReflectliteType.method fun t => do Rtype.noPackHeld "Comparable" t; (fun a => Value.bool a.comparable) <$> typeInfo t) #[.agg #[.pointer (some ⟨5, 34, none⟩)]]).run Tryd.prog w = .ok (.bool true) w := by kernel_rfl
theorem methodComparable (h : Value) (w : World) : (Go.method 234 63 (.agg #[h]) "Comparable").run Tryd.prog w = .ok (64, .agg #[h]) w := by kernel_rfl
theorem noIsP (v : Value) (w : World) : (Instr.typeAssert (.iface 46 v) 28 65 true).run Tryd.prog w = .ok (.tuple #[.nilIface, .bool false]) w := run_typeAssert_lacksB Tryd.underlying65 (by kernel_rfl) (by kernel_rfl) v _ w
theorem noIsF (v : Value) (w : World) : (Instr.typeAssert (.iface 45 v) 28 65 true).run Tryd.prog w = .ok (.tuple #[.nilIface, .bool false]) w := run_typeAssert_lacksB Tryd.underlying65 (by kernel_rfl) (by kernel_rfl) v _ w
theorem noIsC (v : Value) (w : World) : (Instr.typeAssert (.iface 34 v) 28 65 true).run Tryd.prog w = .ok (.tuple #[.nilIface, .bool false]) w := run_typeAssert_lacksB Tryd.underlying65 (by kernel_rfl) (by kernel_rfl) v _ w
theorem eqPC (a d : Value) (w : World) : (binOp .eql 28 (.iface 46 a) (.iface 34 d)).run Tryd.prog w = .ok (.bool false) w := by kernel_rfl
theorem eqFC (a d : Value) (w : World) : (binOp .eql 28 (.iface 45 a) (.iface 34 d)).run Tryd.prog w = .ok (.bool false) w := by kernel_rfl
theorem eqCC (a d : Int) (w : World) : (binOp .eql 28 (.iface 34 (.int .i64 a)) (.iface 34 (.int .i64 d))).run Tryd.prog w = .ok (.bool (a == d)) w := by kernel_rfl

set_option maxHeartbeats 4000000 in
/-- errors.is at a target that is the code d. -/
theorem is_code (er : Err) (v : Value) (w : World) (d : Int) (hv : ErrAt w v er) :
    Calls Tryd.prog 17 #[v, .iface 34 (.int .i64 d), .bool true] w fun e w' => e = .returned (.bool (er.codeOf == d)) ∧ Below w.heap.size w w' := by
  have nP := noIsP
  have nF := noIsF
  have nC := noIsC
  have uP := hasUnP
  have uF := hasUnF
  have nU := noUnC
  have nUs := noUnsC
  have mP := methodUnP
  have mF := methodUnF
  have qP := eqPC
  have qF := eqFC
  have qC := eqCC
  have HV := Lib.hid hv
  clear hv
  generalize hcc : er.codeOf = cc
  have HC := Lib.hid hcc
  clear hcc
  go_enter Tryd.func17, Tryd.ntmps17
  go_wp2
  go_loopg [0] (er.depth + 1) (fun k u wr => ∃ e' : Err, ErrAt wr u e' ∧ e'.codeOf = cc ∧ e'.depth < k ∧ Below w.heap.size w wr)
  case atStart => exact ⟨er, HV.out, HC.out, Nat.lt_succ_self _, Below.refl _ _⟩
  case round =>
    obtain ⟨e', hu, hec, hd, hbw⟩ := hrel
    have HEC := Lib.hid hec
    clear hec
    have hws := hbw.size
    cases e' with
    | part s e2 =>
      obtain ⟨b, u2, rfl, hb, hu2⟩ := hu
      obtain ⟨t2, x2, rfl⟩ := hu2.iface
      have HU := Lib.hid hu2
      clear hu2
      go_wp2_with (first | (go_at_call 61; refine (unwrapP_any _ b s _ hb).mono ?_; rintro e9 w9 ⟨rfl, rfl⟩))
      go_roundg (gk - 2)
      case measure => have : e2.depth + 2 < gk := hd; omega
      case rel => exact ⟨e2, HU.out, HEC.out, by have : e2.depth + 2 < gk := hd; omega, hbw⟩
    | fault c a =>
      unfold ErrAt at hu
      subst hu
      go_wp2_with (first | (go_at_call 59; refine (unwrapF_any _ c a).mono ?_; rintro e9 w9 ⟨rfl, hb9⟩))
      go_roundg (gk - 1)
      case measure => have : 1 < gk := hd; omega
      case rel => exact ⟨.code c, rfl, HEC.out, by have : 1 < gk := hd; show 0 < gk - 1; omega, hbw.trans (hb9.mono hbw.size)⟩
    | code c =>
      unfold ErrAt at hu
      subst hu
      have ec : c = cc := HEC.out
      subst ec
      clear HV HC HEC
      by_cases hcd : c = d
      · subst hcd
        go_wp2
        go_ret
        exact ⟨by simp, hbw⟩
      · have hb : (c == d) = false := by simpa using hcd
        have HB := Lib.hid hb
        clear hcd
        go_wp2
        go_ret
        rw [HB.out]
        exact ⟨rfl, hbw⟩

theorem Is_any (er : Err) (v : Value) (w : World) (d : Int) (hv : ErrAt w v er) :
    Calls Tryd.prog 9 #[v, .iface 34 (.int .i64 d)] w fun e w' => e = .returned (.bool (er.codeOf == d)) ∧ Below w.heap.size w w' := by
  have h1 := @run_callFunc_extern Tryd.prog 16 _ ReflectliteType.typeOf Tryd.func16 (by kernel_rfl) (by kernel_rfl) (by kernel_rfl) (by kernel_rfl)
  have h2 := @run_callFunc_extern Tryd.prog 64 _ (ReflectliteType.method fun t => do Rtype.noPackHeld "Comparable" t; pure (.bool (← typeInfo t).comparable)) Tryd.func64 (by kernel_rfl) (by kernel_rfl) (by kernel_rfl) (by kernel_rfl)
  have tC := typeOfC
  have cC := comparableC
  have mC := methodComparable
  have hc := is_code er v w d hv
  obtain ⟨t, x, rfl⟩ := hv.iface
  have HC := Lib.hid hc
  clear hc hv
  go_enter Tryd.func9, Tryd.ntmps9
  go_wp2_with fail
  refine HC.out.mono ?_
  rintro e9 w9 ⟨rfl, hb⟩
  go_wp2_with fail
  go_ret
  exact ⟨rfl, hb⟩

theorem unwrap_any (s : ByteArray) (er : Err) (v : Value) (w : World) (hv : ErrAt w v (.part s er)) :
    Calls Tryd.prog 8 #[v] w fun e w' => (∃ u, e = .returned u ∧ ErrAt w u er) ∧ w = w' := by
  obtain ⟨b, u, rfl, hb, hu⟩ := hv
  have uP := hasUnP
  have mP := methodUnP
  have HU := Lib.hid hu
  clear hu
  go_enter Tryd.func8, Tryd.ntmps8
  go_wp2_with (first | (go_at_call 61; refine (unwrapP_any _ b s _ hb).mono ?_; rintro e9 w9 ⟨rfl, rfl⟩))
  go_ret
  exact ⟨⟨_, rfl, HU.out⟩, rfl⟩
end Go.Proofs.YtfecccobihdopaaDoor
