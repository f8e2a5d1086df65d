/-
  What the listed variables give the walks; a world that meets the condition; opening the arguments of layer 2's laws.
-/
import Derived.Test.YtfecccobihdopaaDoorFAwake
import Derived.ProofKit
import Derived.LaidMore
import Derived.LaidHandle
import Derived.LaidLaws
import Derived.OpenShut
import Derived.ShutString
import Derived.ChangeMaps5
import Derived.ChangeOld
import Derived.Stop.Joined
import Derived.SevenTiedAt
namespace Go.Proofs.YtfecccobihdopaaDoor
open Go.ChangeShapes Go.WideShapes Go.ChangeAt Go.RowKit
set_option linter.unusedVariables false

theorem own_knob : ownKnob Tryd.prog.godebug = none := by kernel_rfl
theorem laid_out : laidOutB Tryd.prog = true := by kernel_rfl
abbrev laidL : List (String × DataW Unit) := [("errors.errorType", Rows.laid_errors_errorType), ("toll/fault.names", Rows.laid_toll_fault_names)]

theorem gEt : Tryd.prog.globalNamed "errors.errorType" = some 1 := by kernel_rfl
theorem gNm : Tryd.prog.globalNamed "toll/fault.names" = some 0 := by kernel_rfl
theorem tNm : (Tryd.prog.globals[0]?).map (·.type) = some 58 := by kernel_rfl
theorem rtT : (Tryd.prog.cutTypes.find? (·.1 == "internal/reflectlite.rtype")).map (·.2) = some 63 := by kernel_rfl
theorem oneRow : ((List.range Tryd.prog.types.size).filter fun t => Tryd.prog.rowNamed t [101, 114, 114, 111, 114]) = [28] := by kernel_rfl

theorem et_of_laid {W : World} (h : laidMetH Tryd.prog laidL W) : EtAt W := by
  have h' : laidMet Tryd.prog [("toll/fault.names", Rows.laid_toll_fault_names)] W ∧ handlesMet Tryd.prog [("errors.errorType", Rows.laid_errors_errorType)] W := h
  obtain ⟨name, u, ty, e1, e2, e3, e4, e5⟩ := h'.2 _ (List.mem_singleton.2 rfl)
  have en : name = [101, 114, 114, 111, 114] := (Option.some.inj e1).symm
  subst en
  obtain rfl := Option.some.inj (rtT.symm.trans e2)
  have hm : ty ∈ (List.range Tryd.prog.types.size).filter fun t => Tryd.prog.rowNamed t [101, 114, 114, 111, 114] := List.mem_filter.2 ⟨List.mem_range.2 e3, e4⟩
  rw [oneRow] at hm
  obtain rfl := List.mem_singleton.1 hm
  have hh : typeHandle Tryd.prog 28 = .pointer (some ⟨5, 28, none⟩) := by kernel_rfl
  rw [hh] at e5
  exact World.var?_cell gEt e5 0

def nmD : List (DataW Unit) := nmL.map fun b => .lit (.string b)
theorem nm_of_laid {W : World} (h : laidMetH Tryd.prog laidL W) : NmAt W := by
  have h' : laidMet Tryd.prog [("toll/fault.names", Rows.laid_toll_fault_names)] W ∧ handlesMet Tryd.prog [("errors.errorType", Rows.laid_errors_errorType)] W := h
  obtain ⟨ps, ⟨g0, t0, cs0, f0, p0, q0, hg0, ht0, hv0, hd0, _, _⟩, _, _⟩ := h'.1
  obtain rfl := Option.some.inj (gNm.symm.trans hg0)
  obtain rfl := Option.some.inj (tNm.symm.trans ht0)
  obtain ⟨xs, m, rfl, hx, hlen, hn, hel⟩ := DataW.trod_array Tryd.underlying58 hd0
  have c1 : Tryd.prog.cellsOf 9 = 1 := by kernel_rfl
  have c17 : Tryd.prog.cellsOf 58 = 17 := by kernel_rfl
  rw [c17] at hlen
  have hl : Rows.laid_toll_fault_names = DataW.agg nmD := rfl
  rw [hl] at hx
  simp only [Prod.mk.injEq, DataW.agg.injEq] at hx
  have hcs : cs0 = nmA := by
    apply Array.ext'
    apply List.ext_getElem?
    intro i
    by_cases hi : i < 17
    · have h1 := hel i hi
      rw [c1, Nat.mul_one] at h1
      obtain ⟨x, hxi⟩ : ∃ x, xs[i]? = some x := ⟨_, List.getElem?_eq_getElem (by omega)⟩
      rw [hxi] at h1
      obtain ⟨s, hs1, hs2, _⟩ := DataW.trod_string Tryd.underlying9 h1
      have h2 : nmD[i]? = some x.1 := by rw [hx.1, List.getElem?_map, hxi]; rfl
      have h3 : nmA.toList[i]? = some (.string (nmB i)) := by rw [Array.getElem?_toList]; exact nmA_at hi
      have h4 : cs0.toList[i]? = some (.string s) := by
        have := congrArg (fun l : List Value => l[0]?) hs1
        simpa using this
      rw [hs2] at h2
      have h5 : nmL[i]? = some s.data.toList := by
        unfold nmD at h2
        rw [List.getElem?_map] at h2
        cases hq : nmL[i]? with
        | none => rw [hq] at h2; cases h2
        | some b =>
          rw [hq] at h2
          simp only [Option.map_some, Option.some.injEq, DataW.lit.injEq, Lit.string.injEq] at h2
          rw [h2]
      have hs : s = nmB i := Go.WideShapes.bytes_inj (by simp [nmB, List.getD, h5])
      rw [h3, h4, hs]
    · have h1 : nmA.toList.length = 17 := rfl
      rw [List.getElem?_eq_none (by omega), List.getElem?_eq_none (by omega)]
  subst hcs
  unfold World.var? at hv0
  rw [gNm] at hv0
  simp only [Option.bind_some] at hv0
  split at hv0
  · rename_i cs t fr he
    injection hv0 with hv0
    subst hv0
    exact ⟨t, fr, he⟩
  · cases hv0

/-- A world that meets the condition: the settled one, the two variables laid. -/
noncomputable def laidWorld (os : Os) : World :=
  let w0 := World.holding Tryd.prog os ⟨#[], #[], []⟩
  { w0 with heap := (w0.heap.modify 1 fun
      | .cells _ t frozen => .cells #[.iface 63 (.agg #[.pointer (some ⟨5, 28, none⟩)])] t frozen
      | o => o).modify 0 fun
      | .cells _ t frozen => .cells nmA t frozen
      | o => o }
theorem laidWorld_met (os : Os) (args : Array Value) : laidMetH Tryd.prog laidL ((laidWorld os).forCall (fun _ _ => 0) ⟨#[], args, []⟩).memory :=
  laidMetH_of_parts (laidMet_of_run' 8 (by kernel_rfl) (by kernel_rfl)) (by kernel_rfl)

theorem keep_arg {H : Type} {enc : TypeId × Value → H} {t : TypeId} (hr : Tryd.prog.readableRec t = true) (hrow : t < Tryd.prog.types.size) {W W' : World} {v : Value} {d : DataW H} {ps : List MemPlace}
    (h : DataW.Trod enc Tryd.prog W 0 (fun _ => true) true t v d ps) (hb : Below W.heap.size W W') :
    DataW.Trod enc Tryd.prog W' 0 (fun b => decide (b < W.heap.size)) true t v d ps :=
  Below.trod laid_out hr hrow h hb (by obtain ⟨m, hm⟩ := h; exact DataW.trod_lt m _ _ _ hm)

end Go.Proofs.YtfecccobihdopaaDoor
