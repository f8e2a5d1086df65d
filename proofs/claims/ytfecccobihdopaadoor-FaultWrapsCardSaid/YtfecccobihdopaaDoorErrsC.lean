/-
  errors.As at a target of one of the project's two error types: the two functions of the library, by contracts.
-/
import Derived.Test.YtfecccobihdopaaDoorErrsB
namespace Go.Proofs.YtfecccobihdopaaDoor
open Go.RowKit Go.Extern.Stop Go.Stop Go.Extern
set_option linter.unusedVariables false

theorem bcell {W w1 : World} (hb : Below W.heap.size W w1) : (∀ b o, b < W.heap.size → w1.cell? ⟨b, o, none⟩ = W.cell? ⟨b, o, none⟩) ∧ (∀ b o, b < W.heap.size → w1.frozen? ⟨b, o, none⟩ = W.frozen? ⟨b, o, none⟩) :=
  ⟨fun b o h => hb.cell (p := ⟨b, o, none⟩) h, fun b o h => hb.frozen (p := ⟨b, o, none⟩) h⟩
theorem blk_lt_of {w : World} {g : Nat} {t : TypeId} {cs : Array Value} (h : Blk w g t cs) : g < w.heap.size := h.lt

/-- errors.as at a *api.Code: the first code in the chain. T: the target's block; q: the block of reflectlite's own copy of the pointer. -/
def asCodePost (w : World) (T : Nat) (c : Int) (e : Ending) (w' : World) : Prop := e = .returned (.bool true) ∧ Blk w' T 34 #[.int .i64 c] ∧ w.grownBy w' (some T)
set_option maxRecDepth 100000 in
set_option maxHeartbeats 4000000 in
theorem as_code (e : Err) (v : Value) (w : World) (T q : Nat) (old : Value) (hv : ErrAt w v e) (hT : Blk w T 34 #[old]) (hq : Blk w q 59 #[.pointer (some ⟨T, 0, none⟩)]) :
    Calls Tryd.prog 23 #[v, .iface 59 (.pointer (some ⟨T, 0, none⟩)), .agg #[.pointer (some ⟨5, 59, none⟩), .pointer (some ⟨q, 0, none⟩), .int .u64 150], .iface 63 (.agg #[.pointer (some ⟨5, 34, none⟩)])] w (asCodePost w T e.codeOf) := by
  have h1 := @run_callFunc_extern Tryd.prog 16 _ ReflectliteType.typeOf Tryd.func16 (by kernel_rfl) (by kernel_rfl) (by kernel_rfl) (by kernel_rfl)
  have h2 := @run_callFunc_extern Tryd.prog 63 _ (ReflectliteType.relation "AssignableTo" ReflectliteType.assignableTo) Tryd.func63 (by kernel_rfl) (by kernel_rfl) (by kernel_rfl) (by kernel_rfl)
  have h3 := @run_callFunc_extern Tryd.prog 24 _ (ReflectliteValue.method (ReflectliteValue.valueError "reflectlite.Value.Elem" 0) ReflectliteValue.elem) Tryd.func24 (by kernel_rfl) (by kernel_rfl) (by kernel_rfl) (by kernel_rfl)
  have h4 := @run_callFunc_extern Tryd.prog 20 _ (fun args => ReflectliteValue.unpack (args.getD 0 (.tuple #[]))) Tryd.func20 (by kernel_rfl) (by kernel_rfl) (by kernel_rfl) (by kernel_rfl)
  have h5 := @run_callFunc_extern Tryd.prog 25 _ ReflectliteValue.set Tryd.func25 (by kernel_rfl) (by kernel_rfl) (by kernel_rfl) (by kernel_rfl)
  have tP := typeOfP
  have tF := typeOfF
  have tC := typeOfC
  have mA := methodAssignableTo
  have aP := asgPC
  have aF := asgFC
  have aC := asgCC
  have vC := valueOfC
  have nP := noAsP
  have nF := noAsF
  have nC := noAsC
  have uP := hasUnP
  have uF := hasUnF
  have mP := methodUnP
  have mF := methodUnF
  have kT := hT.cell 0
  have kq := hq.cell 0
  simp only [List.getElem?_toArray, List.getElem?_cons_zero] at kT kq
  have hTl := hT.lt
  have hql := hq.lt
  have fT := hT.frozen 0
  have HT := Lib.hid hT
  clear hT hq
  have HV := Lib.hid hv
  clear hv
  have tv := Blk.new w 74 #[.pointer (some ⟨5, 59, none⟩), .pointer (some ⟨q, 0, none⟩), .int .u64 150]
  have TV := Lib.hid tv
  clear tv
  generalize hcc : e.codeOf = cc
  have HC := Lib.hid hcc
  clear hcc
  have aw : Below w.heap.size w (w.alloc (.cells #[.pointer (some ⟨5, 59, none⟩), .pointer (some ⟨q, 0, none⟩), .int .u64 150] 74)) := (Below.refl _ _).alloc (Nat.le_refl _) _
  have hva := HV.out.below aw
  have HVA := Lib.hid hva
  clear hva
  go_enter Tryd.func23, Tryd.ntmps23
  go_wp2
  go_loopg [0] (e.depth + 1) (fun k u wr => ∃ e' : Err, ErrAt wr u e' ∧ e'.codeOf = cc ∧ e'.depth < k ∧ Below w.heap.size w wr ∧ Blk wr w.heap.size 74 #[.pointer (some ⟨5, 59, none⟩), .pointer (some ⟨q, 0, none⟩), .int .u64 150])
  case atStart => exact ⟨e, HVA.out, HC.out, Nat.lt_succ_self _, aw, TV.out⟩
  case round =>
    obtain ⟨e', hu, hec, hd, hbw, hbv⟩ := hrel
    have HEC := Lib.hid hec
    clear hec
    have hws := hbw.size
    cases e' with
    | part s e2 =>
      obtain ⟨b, u2, rfl, hb, hu2⟩ := hu
      obtain ⟨t2, x2, rfl⟩ := hu2.iface
      have HU := Lib.hid hu2
      clear hu2
      go_wp2_with (first | (go_at_call 61; refine (unwrapP_any _ b s _ hb).mono ?_; rintro e9 w9 ⟨rfl, rfl⟩))
      go_roundg (gk - 2)
      case measure => have : e2.depth + 2 < gk := hd; omega
      case rel => exact ⟨e2, HU.out, HEC.out, by have : e2.depth + 2 < gk := hd; omega, hbw, hbv⟩
    | fault c a =>
      unfold ErrAt at hu
      subst hu
      go_wp2_with (first | (go_at_call 59; refine (unwrapF_any _ c a).mono ?_; rintro e9 w9 ⟨rfl, hb9⟩))
      go_roundg (gk - 1)
      case measure => have : 1 < gk := hd; omega
      case rel => exact ⟨.code c, rfl, HEC.out, by have : 1 < gk := hd; show 0 < gk - 1; omega, hbw.trans (hb9.mono hbw.size), hbv.below hb9 hbv.lt⟩
    | code c =>
      unfold ErrAt at hu
      subst hu
      have ec : c = cc := HEC.out
      subst ec
      obtain ⟨hc0, hf0⟩ := bcell hbw
      have kT' := (hc0 T 0 hTl).trans kT
      have kq' := (hc0 q 0 hql).trans kq
      have fT' := (hf0 T 0 hTl).trans fT
      have w0 := hbv.cell 0
      have w1 := hbv.cell 1
      have w2 := hbv.cell 2
      simp only [List.getElem?_toArray, List.getElem?_cons_zero, List.getElem?_cons_succ] at w0 w1 w2
      clear hc0 hf0 hbv HV HVA TV HEC HC
      have el := elemVPC ⟨q, 0, none⟩ ⟨T, 0, none⟩ wr kq'
      have st := setC ⟨T, 0, none⟩ ⟨wr.heap.size, 0, none⟩ c old (wr.alloc (.cells #[.int .i64 c] 34)) (by rw [World.cell?_alloc_at _ _ _ _ (by simp)]; rfl)
        (by rw [World.cell?_alloc_lt _ _ ⟨T, 0, none⟩ (by simp; omega)]; exact kT') (by rw [World.frozen?_alloc_old _ _ ⟨T, 0, none⟩ (by simp; omega)]; exact fT')
      have hfin : asCodePost w T c (.returned (.bool true)) ((wr.alloc (.cells #[.int .i64 c] 34)).setCell ⟨T, 0, none⟩ (.int .i64 c)) :=
        ⟨rfl, ((HT.out.below hbw hTl).alloc _).put 0 _, gb_setCell (gb_alloc (gb_of_below hbw _) _) (.inl rfl) _⟩
      have HF := Lib.hid hfin
      clear hfin
      go_wp2
      go_ret
      exact HF.out

end Go.Proofs.YtfecccobihdopaaDoor
