/-
  The fixed examples that every statement of layer 3 checks first are met.
-/
import Derived.Test.YtlimfchobijhaaaTimes
namespace Go.Proofs.Ytlimfchobijhaaa
open Go.RowKit Go.ChangeShapes Go.WideShapes
set_option linter.unusedVariables false

theorem awake_any (w : World) : Calls Try.prog 7 #[] w fun e w' => e = .returned (.bool true) ∧ Below w.heap.size w w' := by
  go_enter Try.func7, Try.ntmps7
  go_wp2_with fail
  refine (window_any 10 20 1 _ (by unfold Fits; omega) (by unfold Fits; omega) (by unfold Fits; omega)).mono ?_
  rw [show sSub 10 1 = 9 by decide, show sAdd 20 1 = 21 by decide]
  rintro e w1 ⟨rfl, b1⟩
  go_wp2_with fail
  have z1 := b1.size
  replace b1 := b1.alloc b1.size (.cells #[.int .i64 5] 2)
  refine (add_one 9223372036854775807 5 _ _ _ (mem_one _ _) (by unfold Fits; omega) (by unfold Fits; omega)).mono ?_
  rw [show sAdd 9223372036854775807 5 = 9223372036854775807 by decide]
  rintro e w2 ⟨rfl, rfl⟩
  go_wp2_with fail
  refine (sub_any (-9223372036854775808) 1 _ (by unfold Fits; omega) (by unfold Fits; omega)).mono ?_
  rw [show sSub (-9223372036854775808) 1 = -9223372036854775808 by decide]
  rintro e w2 ⟨rfl, rfl⟩
  go_wp2_with fail
  refine (side_any 9 10 20 1 _ (by unfold Fits; omega) (by unfold Fits; omega) (by unfold Fits; omega)).mono ?_
  rw [show sSide 9 10 20 1 = 0 by decide]
  rintro e w3 ⟨rfl, b3⟩
  replace b3 := b1.trans (b3.mono b1.size)
  clear b1
  go_wp2_with fail
  refine (apart_any 3 10 _ (by unfold Fits; omega) (by unfold Fits; omega)).mono ?_
  rw [show sApart 3 10 = 7 by decide]
  rintro e w2 ⟨rfl, rfl⟩
  go_wp2_with fail
  refine (most_any _ 0 none 0 0 [] rfl (.inl rfl) (by simp) (by simp)).mono ?_
  rw [show List.foldl iMax (-9223372036854775808) [] = -9223372036854775808 from rfl]
  rintro e w2 ⟨rfl, rfl⟩
  go_wp2_with fail
  refine (add_none 4 _ (by unfold Fits; omega)).mono ?_
  rintro e w2 ⟨rfl, rfl⟩
  go_wp2_with fail
  go_ret
  exact ⟨rfl, b3⟩
end Go.Proofs.Ytlimfchobijhaaa
