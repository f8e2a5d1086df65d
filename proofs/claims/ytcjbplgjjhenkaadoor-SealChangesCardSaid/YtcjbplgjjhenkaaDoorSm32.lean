/-
  What the listed variable of package sha gives the walks; a world that meets the condition (for seats that open arrays, too).
-/
import Derived.Test.YtcjbplgjjhenkaaDoorSm17
import Derived.Test.YtcjbplgjjhenkaaDoorSm14
import Derived.Test.YtcjbplgjjhenkaaDoorCards
import Derived.Test.YtcjbplgjjhenkaaDoorTie
import Derived.ProofKit
import Derived.LaidMore
import Derived.LaidHandle
import Derived.LaidLaws
import Derived.OpenShut
import Derived.ShutString
import Derived.ChangeMaps5
import Derived.ChangeOld
import Derived.Stop.Joined
import Derived.SevenTiedAt
namespace Go.Proofs.YtcjbplgjjhenkaaDoor
open Go.ChangeShapes Go.WideShapes Go.ChangeAt Go.RowKit
set_option linter.unusedVariables false

abbrev laidL : List (String × DataW Unit) := [("toll/sha.constants", Rows.laid_toll_sha_constants)]
theorem gK : Tryd.prog.globalNamed "toll/sha.constants" = some 0 := by kernel_rfl
theorem tK : (Tryd.prog.globals[0]?).map (·.type) = some 79 := by kernel_rfl
theorem kData : (Rows.laid_toll_sha_constants : DataW Unit) = .agg ((List.range 64).map fun j => .lit (.int .u32 (wi (kF j)))) := by rfl
theorem ka_of_laid {W : World} (h : laidMetH Tryd.prog laidL W) : KAt W := by
  have h' : laidMet Tryd.prog [("toll/sha.constants", Rows.laid_toll_sha_constants)] W := h
  obtain ⟨ps, ⟨g0, t0, cs0, f0, p0, q0, hg0, ht0, hv0, hd0, _, _⟩, _, _⟩ := h'
  obtain rfl := Option.some.inj (gK.symm.trans hg0)
  obtain rfl := Option.some.inj (tK.symm.trans ht0)
  obtain ⟨xs, m, rfl, hx, hlen, hn, hel⟩ := DataW.trod_array Tryd.underlying79 hd0
  have c1 : Tryd.prog.cellsOf 76 = 1 := by kernel_rfl
  have c64 : Tryd.prog.cellsOf 79 = 64 := by kernel_rfl
  rw [c64] at hlen
  rw [kData] at hx
  simp only [Prod.mk.injEq, DataW.agg.injEq] at hx
  have hcs : cs0 = wA kF := by
    apply Array.ext'
    apply List.ext_getElem?
    intro i
    by_cases hi : i < 64
    · have h1 := hel i hi
      rw [c1, Nat.mul_one] at h1
      obtain ⟨x, hxi⟩ : ∃ x, xs[i]? = some x := ⟨_, List.getElem?_eq_getElem (by omega)⟩
      rw [hxi] at h1
      obtain ⟨s, hs1, hs2, _⟩ := DataW.trod_int Tryd.underlying76 h1
      have h2 : ((List.range 64).map fun j => (DataW.lit (.int .u32 (wi (kF j))) : DataW Unit))[i]? = some x.1 := by rw [hx.1, List.getElem?_map, hxi]; rfl
      have h3 : (wA kF).toList[i]? = some (.int .u32 (wi (kF i))) := by rw [Array.getElem?_toList]; exact wA_at kF hi
      have h4 : cs0.toList[i]? = some (.int .u32 s) := by
        have := congrArg (fun l : List Value => l[0]?) hs1
        simpa using this
      rw [hs2] at h2
      have h5 : s = wi (kF i) := by
        simp only [List.getElem?_map, List.getElem?_range hi, Option.map_some, Option.some.injEq, DataW.lit.injEq, Lit.int.injEq, true_and] at h2
        exact h2.symm
      rw [h3, h4, h5]
    · have h1 : (wA kF).toList.length = 64 := by simp [wA]
      rw [List.getElem?_eq_none (by omega), List.getElem?_eq_none (by omega)]
  subst hcs
  unfold World.var? at hv0
  rw [gK] at hv0
  simp only [Option.bind_some] at hv0
  split at hv0
  · rename_i cs t fr he
    injection hv0 with hv0
    subst hv0
    exact ⟨t, fr, he⟩
  · cases hv0

/-- A world that meets the condition: the settled one, the variable laid. -/
noncomputable def laidWorld (os : Os) : World :=
  let w0 := World.holding Tryd.prog os ⟨#[], #[], []⟩
  { w0 with heap := w0.heap.modify 0 fun
      | .cells _ t frozen => .cells (wA kF) t frozen
      | o => o }
theorem laidWorld_met (os : Os) (args : Array Value) : laidMetH Tryd.prog laidL ((laidWorld os).forCall (fun _ _ => 0) ⟨#[], args, []⟩).memory :=
  show laidMet Tryd.prog laidL _ from laidMet_of_run' 8 (by kernel_rfl) (by kernel_rfl)
end Go.Proofs.YtcjbplgjjhenkaaDoor
