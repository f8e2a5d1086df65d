/-
  The reference's Table, by a contract.
-/
import Derived.Test.YtgplkdnffbappaaDoorShaSum
namespace Go.Proofs.YtgplkdnffbappaaDoor
open Go.RowKit
set_option linter.unusedVariables false
set_option linter.unusedSimpArgs false

set_option maxHeartbeats 1000000 in
set_option maxRecDepth 100000 in
theorem rtable_any (w : World) : Calls Tryd.prog 28 #[] w fun e w' => e = .returned (.agg (kList.map wv).toArray) ∧ Below w.heap.size w w' := by
  rw [kA_eq]
  go_enter Tryd.func28, Tryd.ntmps28
  go_wp2_with (first | (refine wpList_built rfl 52 _ rfl (wA kF) (by kernel_rfl) ?_) | (refine wpList_store_row rfl 52 _ _ rfl w.heap.size (wA kF) rfl rfl 52 (wA fun _ => 0) (Blk.new w _ _) (by rw [w64_size, wA_size]) (by rw [wA_size, wA_size]) (wA_one _) ?_))
  exact bodyPost_ret (v := .agg (wA kF)) (results_cell_row Tryd.results28 _ _ w.heap.size 52 (wA kF) (0, 0) _ rfl (setRow_heap _ _ _ _ _ _ (Blk.new w _ (wA fun _ => 0))) Tryd.underlying52 rfl (by rw [w64_size, wA_size])) rfl ⟨rfl, below_setRow ((Below.refl _ w).alloc (Nat.le_refl _) _) (Nat.le_refl _) _⟩
end Go.Proofs.YtgplkdnffbappaaDoor
