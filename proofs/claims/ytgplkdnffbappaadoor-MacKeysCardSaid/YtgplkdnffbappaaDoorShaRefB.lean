/-
  The reference's Start, by a contract.
-/
import Derived.Test.YtgplkdnffbappaaDoorShaRef
namespace Go.Proofs.YtgplkdnffbappaaDoor
open Go.RowKit
set_option linter.unusedVariables false

set_option maxHeartbeats 1000000 in
set_option maxRecDepth 100000 in
theorem rstart_any (w : World) : Calls Tryd.prog 27 #[] w fun e w' => e = .returned (.agg (stA startS)) ∧ Below w.heap.size w w' := by
  go_enter Tryd.func27, Tryd.ntmps27
  go_wp2
  exact bodyPost_ret (v := .agg (stA startS)) (by simp [results, Tryd.results27, go_sem]; rfl) rfl ⟨rfl, (Below.refl _ _).alloc (Nat.le_refl _) _⟩
end Go.Proofs.YtgplkdnffbappaaDoor
