/-
  errors.As whole, at a target of one of the project's two error types; package fault's Code and Place, New and In.
-/
import Derived.Test.YtfecccobihdopaaDoorErrsD
import Derived.Deep.RegionWith
namespace Go.Proofs.YtfecccobihdopaaDoor
open Go.RowKit Go.Extern.Stop Go.Stop Go.Extern
set_option linter.unusedVariables false

theorem As_nil (t : Value) (w : World) : Calls Tryd.prog 18 #[.nilIface, t] w fun e w' => e = .returned (.bool false) ∧ w = w' := by
  go_enter Tryd.func18, Tryd.ntmps18
  go_wp2
  go_ret
  exact ⟨rfl, rfl⟩

theorem asCodePost.of {w w1 : World} {T : Nat} {c : Int} {e : Ending} {w' : World} (hb : Below w.heap.size w w1) (h : asCodePost w1 T c e w') : asCodePost w T c e w' :=
  ⟨h.1, h.2.1, gb_then (gb_of_below hb (some T)) h.2.2 (.inl rfl)⟩
theorem asFaultPost.of {w w1 : World} {T : Nat} {c : Int} {p : Option Int} {e : Ending} {w' : World} (hb : Below w.heap.size w w1) (h : asFaultPost w1 T c p e w') : asFaultPost w T c p e w' := by
  rcases h with ⟨a, h1, h2, h3, h4⟩ | ⟨h1, h2, h3⟩
  · exact .inl ⟨a, h1, h2, h3, gb_then (gb_of_below hb (some T)) h4 (.inl rfl)⟩
  · exact .inr ⟨h1, h2, hb.trans (h3.mono hb.size)⟩

set_option maxHeartbeats 4000000 in
theorem As_code (er : Err) (v : Value) (w : World) (T : Nat) (old : Value) (hg : EtAt w) (hv : ErrAt w v er) (hT : Blk w T 34 #[old]) :
    Calls Tryd.prog 18 #[v, .iface 59 (.pointer (some ⟨T, 0, none⟩))] w (asCodePost w T er.codeOf) := by
  have h6 := @run_callFunc_extern Tryd.prog 20 _ (fun args => ReflectliteValue.unpack (args.getD 0 (.tuple #[]))) Tryd.func20 (by kernel_rfl) (by kernel_rfl) (by kernel_rfl) (by kernel_rfl)
  have h7 := @run_callFunc_extern Tryd.prog 21 _ (ReflectliteValue.methodAny (ReflectliteValue.valueError "reflectlite.Value.Type" 0) (fun t _ _ _ => ReflectliteType.toType t)) Tryd.func21 (by kernel_rfl) (by kernel_rfl) (by kernel_rfl) (by kernel_rfl)
  have h8 := @run_callFunc_extern Tryd.prog 22 _ (ReflectliteValue.method (ReflectliteValue.valueError "reflectlite.Value.IsNil" 0) ReflectliteValue.isNil) Tryd.func22 (by kernel_rfl) (by kernel_rfl) (by kernel_rfl) (by kernel_rfl)
  have h27 := @run_callFunc_extern Tryd.prog 40 _ (ReflectliteType.abiMethod fun t => do pure (.int .u8 (← Rtype.kind t))) Tryd.func40 (by kernel_rfl) (by kernel_rfl) (by kernel_rfl) (by kernel_rfl)
  have h37 := @run_callFunc_extern Tryd.prog 65 _ (ReflectliteType.method ReflectliteType.elem) Tryd.func65 (by kernel_rfl) (by kernel_rfl) (by kernel_rfl) (by kernel_rfl)
  have h38 := @run_callFunc_extern Tryd.prog 66 _ (ReflectliteType.relation "Implements" ReflectliteType.implements_) Tryd.func66 (by kernel_rfl) (by kernel_rfl) (by kernel_rfl) (by kernel_rfl)
  have f6 := valueOfPC
  have f7 := typePC
  have mK := methodKind
  have mE := methodElem
  have mI := methodImplements
  have k1 := kindPC
  have k2 := kindC
  have e1 := elemPC
  have i1 := implC
  obtain ⟨t, x, rfl⟩ := hv.iface
  have B1 : Below w.heap.size w ((w.alloc (.cells #[.pointer (some ⟨T, 0, none⟩)] 59)).alloc (.cells #[.pointer (some ⟨5, 59, none⟩), .pointer (some ⟨w.heap.size, 0, none⟩), .int .u64 150] 74)) :=
    ((Below.refl _ _).alloc (Nat.le_refl _) _).alloc (by simp) _
  have hg2 : ((w.alloc (.cells #[.pointer (some ⟨T, 0, none⟩)] 59)).alloc (.cells #[.pointer (some ⟨5, 59, none⟩), .pointer (some ⟨w.heap.size, 0, none⟩), .int .u64 150] 74)).cell? ⟨1, 0, none⟩ = some (.iface 63 (.agg #[.pointer (some ⟨5, 28, none⟩)])) := hg.below B1
  have n8 := isNilPC ⟨w.heap.size, 0, none⟩ ⟨T, 0, none⟩ ((w.alloc (.cells #[.pointer (some ⟨T, 0, none⟩)] 59)).alloc (.cells #[.pointer (some ⟨5, 59, none⟩), .pointer (some ⟨w.heap.size, 0, none⟩), .int .u64 150] 74)) (by simp)
  have hc := as_code er (.iface t x) _ T w.heap.size old (hv.below B1) (hT.below B1 hT.lt) ((Blk.new w 59 #[.pointer (some ⟨T, 0, none⟩)]).alloc _)
  have HC := Lib.hid hc
  have HB := Lib.hid B1
  clear hc hv hT B1
  go_enter Tryd.func18, Tryd.ntmps18
  go_wp2_with (first | (go_at_call 23; refine HC.out.mono ?_; intro e9 w9 h9; have e9' := h9.1; subst e9'; have h9' := Lib.hid (h9.of HB.out); clear h9))
  go_ret
  exact h9'.out

set_option maxHeartbeats 4000000 in
theorem As_fault (er : Err) (v : Value) (w : World) (T : Nat) (old0 old1 : Value) (hg : EtAt w) (hv : ErrAt w v er) (hT : Blk w T 45 #[old0, old1]) :
    Calls Tryd.prog 18 #[v, .iface 57 (.pointer (some ⟨T, 0, none⟩))] w (asFaultPost w T er.codeOf er.placeOf) := by
  have h6 := @run_callFunc_extern Tryd.prog 20 _ (fun args => ReflectliteValue.unpack (args.getD 0 (.tuple #[]))) Tryd.func20 (by kernel_rfl) (by kernel_rfl) (by kernel_rfl) (by kernel_rfl)
  have h7 := @run_callFunc_extern Tryd.prog 21 _ (ReflectliteValue.methodAny (ReflectliteValue.valueError "reflectlite.Value.Type" 0) (fun t _ _ _ => ReflectliteType.toType t)) Tryd.func21 (by kernel_rfl) (by kernel_rfl) (by kernel_rfl) (by kernel_rfl)
  have h8 := @run_callFunc_extern Tryd.prog 22 _ (ReflectliteValue.method (ReflectliteValue.valueError "reflectlite.Value.IsNil" 0) ReflectliteValue.isNil) Tryd.func22 (by kernel_rfl) (by kernel_rfl) (by kernel_rfl) (by kernel_rfl)
  have h27 := @run_callFunc_extern Tryd.prog 40 _ (ReflectliteType.abiMethod fun t => do pure (.int .u8 (← Rtype.kind t))) Tryd.func40 (by kernel_rfl) (by kernel_rfl) (by kernel_rfl) (by kernel_rfl)
  have h37 := @run_callFunc_extern Tryd.prog 65 _ (ReflectliteType.method ReflectliteType.elem) Tryd.func65 (by kernel_rfl) (by kernel_rfl) (by kernel_rfl) (by kernel_rfl)
  have h38 := @run_callFunc_extern Tryd.prog 66 _ (ReflectliteType.relation "Implements" ReflectliteType.implements_) Tryd.func66 (by kernel_rfl) (by kernel_rfl) (by kernel_rfl) (by kernel_rfl)
  have f6 := valueOfPF
  have f7 := typePF
  have mK := methodKind
  have mE := methodElem
  have mI := methodImplements
  have k1 := kindPF
  have k2 := kindF
  have e1 := elemPF
  have i1 := implF
  obtain ⟨t, x, rfl⟩ := hv.iface
  have B1 : Below w.heap.size w ((w.alloc (.cells #[.pointer (some ⟨T, 0, none⟩)] 57)).alloc (.cells #[.pointer (some ⟨5, 57, none⟩), .pointer (some ⟨w.heap.size, 0, none⟩), .int .u64 150] 74)) :=
    ((Below.refl _ _).alloc (Nat.le_refl _) _).alloc (by simp) _
  have hg2 : ((w.alloc (.cells #[.pointer (some ⟨T, 0, none⟩)] 57)).alloc (.cells #[.pointer (some ⟨5, 57, none⟩), .pointer (some ⟨w.heap.size, 0, none⟩), .int .u64 150] 74)).cell? ⟨1, 0, none⟩ = some (.iface 63 (.agg #[.pointer (some ⟨5, 28, none⟩)])) := hg.below B1
  have n8 := isNilPF ⟨w.heap.size, 0, none⟩ ⟨T, 0, none⟩ ((w.alloc (.cells #[.pointer (some ⟨T, 0, none⟩)] 57)).alloc (.cells #[.pointer (some ⟨5, 57, none⟩), .pointer (some ⟨w.heap.size, 0, none⟩), .int .u64 150] 74)) (by simp)
  have hc := as_fault er (.iface t x) _ T w.heap.size old0 old1 (hv.below B1) (hT.below B1 hT.lt) ((Blk.new w 57 #[.pointer (some ⟨T, 0, none⟩)]).alloc _)
  have HC := Lib.hid hc
  have HB := Lib.hid B1
  clear hc hv hT B1
  go_enter Tryd.func18, Tryd.ntmps18
  go_wp2_with fail
  refine HC.out.mono ?_
  rintro e9 w9 h9
  replace h9 := h9.of HB.out
  rcases h9 with ⟨a, h1, rfl, h3, h4⟩ | ⟨h1, rfl, h3⟩
  · have H := Lib.hid (show asFaultPost w T er.codeOf er.placeOf (.returned (.bool true)) w9 from .inl ⟨a, h1, rfl, h3, h4⟩)
    clear h1 h3 h4
    go_wp2
    go_ret
    exact H.out
  · have H := Lib.hid (show asFaultPost w T er.codeOf er.placeOf (.returned (.bool false)) w9 from .inr ⟨h1, rfl, h3⟩)
    clear h1 h3
    go_wp2
    go_ret
    exact H.out

/-! ### Package fault's Code, Place, New, In -/
theorem code_nil (w : World) : Calls Tryd.prog 13 #[.nilIface] w fun e w' => e = .returned (.int .i64 0) ∧ Below w.heap.size w w' := by
  go_enter Tryd.func13, Tryd.ntmps13
  go_wp2_with (first | (go_at_call 18; refine (As_nil _ _).mono ?_; rintro e9 w9 ⟨rfl, rfl⟩))
  go_ret
  exact ⟨rfl, (Below.refl _ _).alloc (Nat.le_refl _) _⟩
theorem place_nil (w : World) : Calls Tryd.prog 11 #[.nilIface] w fun e w' => e = .returned (.tuple #[.int .i64 0, .bool false]) ∧ Below w.heap.size w w' := by
  go_enter Tryd.func11, Tryd.ntmps11
  go_wp2_with (first | (go_at_call 18; refine (As_nil _ _).mono ?_; rintro e9 w9 ⟨rfl, rfl⟩))
  go_ret2
  exact ⟨rfl, (Below.refl _ _).alloc (Nat.le_refl _) _⟩
theorem code_any (er : Err) (v : Value) (w : World) (hg : EtAt w) (hv : ErrAt w v er) : Calls Tryd.prog 13 #[v] w fun e w' => e = .returned (.int .i64 er.codeOf) ∧ Below w.heap.size w w' := by
  have hc := As_code er v _ w.heap.size (.int .i64 0) (hg.alloc _) (hv.alloc _) (Blk.new w 34 #[.int .i64 0])
  have HC := Lib.hid hc
  clear hc hg hv
  go_enter Tryd.func13, Tryd.ntmps13
  go_wp2_with (first | (go_at_call 18; refine HC.out.mono ?_; rintro e9 w9 ⟨rfl, h1, h2⟩; have hb := below_of_gb (gb_then ((Below.refl w.heap.size w).alloc (Nat.le_refl _) (.cells #[.int .i64 0] 34) |> fun b => gb_of_below b (some w.heap.size)) h2 (.inl rfl)) (Nat.le_refl _) (by intro k hk; injection hk; omega); have c0 := h1.cell 0; simp only [List.getElem?_toArray, List.getElem?_cons_zero] at c0; clear h1 h2))
  go_ret
  exact ⟨rfl, hb⟩
/-- What Place returns. -/
def placeV : Option Int → Value
  | none => .tuple #[.int .i64 0, .bool false]
  | some a => .tuple #[.int .i64 a, .bool true]
theorem place_any (er : Err) (v : Value) (w : World) (hg : EtAt w) (hv : ErrAt w v er) : Calls Tryd.prog 11 #[v] w fun e w' => e = .returned (placeV er.placeOf) ∧ Below w.heap.size w w' := by
  have hc := As_fault er v _ w.heap.size (.int .i64 0) (.int .i64 0) (hg.alloc _) (hv.alloc _) (Blk.new w 45 #[.int .i64 0, .int .i64 0])
  have HC := Lib.hid hc
  clear hc hg hv
  go_enter Tryd.func11, Tryd.ntmps11
  go_wp2_with fail
  refine HC.out.mono ?_
  rintro e9 w9 (⟨a, h0, rfl, h1, h2⟩ | ⟨h0, rfl, h1⟩)
  · have hb := below_of_gb (gb_then ((Below.refl w.heap.size w).alloc (Nat.le_refl _) (.cells #[.int .i64 0, .int .i64 0] 45) |> fun b => gb_of_below b (some w.heap.size)) h2 (.inl rfl)) (Nat.le_refl _) (by intro k hk; injection hk; omega)
    have c1 := h1.cell 1
    simp only [List.getElem?_toArray, List.getElem?_cons_zero, List.getElem?_cons_succ] at c1
    have H := Lib.hid h0
    clear h0 h1 h2
    go_wp2
    go_ret2
    rw [H.out]
    exact ⟨rfl, hb⟩
  · have hb := ((Below.refl w.heap.size w).alloc (Nat.le_refl _) (.cells #[.int .i64 0, .int .i64 0] 45)).trans (h1.mono (by simp))
    have H := Lib.hid h0
    clear h0 h1
    go_wp2
    go_ret2
    rw [H.out]
    exact ⟨rfl, hb⟩
theorem new_any (c a : Int) (w : World) : Calls Tryd.prog 10 #[.int .i64 c, .int .i64 a] w fun e w' => (∃ v, e = .returned v ∧ ErrAt w v (.fault c a)) ∧ w = w' := by
  go_enter Tryd.func10, Tryd.ntmps10
  go_wp2
  go_ret
  exact ⟨⟨_, rfl, rfl⟩, rfl⟩
theorem in_nil (s : ByteArray) (w : World) : Calls Tryd.prog 7 #[.string s, .nilIface] w fun e w' => e = .returned .nilIface ∧ w = w' := by
  go_enter Tryd.func7, Tryd.ntmps7
  go_wp2
  go_ret
  exact ⟨rfl, rfl⟩
theorem in_any (s : ByteArray) (er : Err) (v : Value) (w : World) (hv : ErrAt w v er) : Calls Tryd.prog 7 #[.string s, v] w fun e w' => (∃ v', e = .returned v' ∧ ErrAt w' v' (.part s er)) ∧ Below w.heap.size w w' := by
  obtain ⟨t, x, rfl⟩ := hv.iface
  have hv' : ErrAt (w.alloc (.cells #[.string s, .iface t x] 48)) (.iface 46 (.pointer (some ⟨w.heap.size, 0, none⟩))) (.part s er) := ⟨_, _, rfl, Blk.new w _ _, hv.alloc _⟩
  have HV := Lib.hid hv'
  clear hv hv'
  go_enter Tryd.func7, Tryd.ntmps7
  go_wp2
  go_ret
  exact ⟨⟨_, rfl, HV.out⟩, (Below.refl _ _).alloc (Nat.le_refl _) _⟩

end Go.Proofs.YtfecccobihdopaaDoor
