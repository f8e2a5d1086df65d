/-
  Sums of four products, as the program finds them, by a contract.
-/
import Derived.Test.YtcjbplgjjhenkaaDoorSm4
import Derived.BigQuiet
import Derived.Deep.Cut
import Derived.Test.YtcjbplgjjhenkaaDoorSm7
namespace Go.Proofs.YtcjbplgjjhenkaaDoor
open Go.RowKit
set_option linter.unusedVariables false
set_option linter.unusedSimpArgs false

set_option maxHeartbeats 1000000 in
theorem fdot_any (w : World) (a b : Nat → UInt8) : Calls Tryd.prog 83 #[.agg (bA 4 a), .agg (bA 4 b)] w fun e w' => e = .returned (.int .u8 ((gdot a b).toNat : Int)) ∧ Below w.heap.size w w' := by
  go_enter Tryd.func83, Tryd.ntmps83
  go_upto_region 2 with (fail)
  go_name_world W0 hW0
  have HA := kept (show Blk W0 w.heap.size 105 (bA 4 a) by rw [← hW0]; exact (Blk.new w 105 (bA 4 a)).alloc _)
  have HB := kept (show Blk W0 (w.heap.size + 1) 105 (bA 4 b) by
    rw [← hW0]
    have n2 := Blk.new (w.alloc (.cells (bA 4 a) 105)) 105 (bA 4 b)
    simp only [World.size_alloc] at n2
    exact n2)
  have HW := kept (show Below w.heap.size w W0 by rw [← hW0]; exact ((Below.refl _ _).alloc (Nat.le_refl _) _).alloc (by simp) _)
  clear hW0
  go_wp2_with fail
  go_loopw [5, 7] (fun s i wr => ∃ j : Nat, j ≤ 4 ∧ i = .int .i64 j ∧ s = .int .u8 ((gdots a b j).toNat : Int) ∧ Kept (Blk wr w.heap.size 105 (bA 4 a)) ∧ Kept (Blk wr (w.heap.size + 1) 105 (bA 4 b)) ∧ Kept (Below w.heap.size w wr)) (fun _ i _ => 4 - (intOf i).toNat)
  case atStart => exact ⟨0, Nat.zero_le _, rfl, rfl, HA, HB, HW⟩
  case round =>
    obtain ⟨j, hj, rfl, rfl, HA1, HB1, HW1⟩ := hrel
    rename World => W1
    clear HA HB HW
    by_cases hlt : j < 4
    · have hj4 : (j : Int) < 4 := by omega
      have c1 : W1.cell? ⟨w.heap.size, j, none⟩ = some (.int .u8 ((a j).toNat : Int)) := by rw [HA1.out.cell]; exact bA_at _ _ hlt
      have c2 : W1.cell? ⟨w.heap.size + 1, j, none⟩ = some (.int .u8 ((b j).toNat : Int)) := by rw [HB1.out.cell]; exact bA_at _ _ hlt
      have HG := kept (gdots_gxr a b j)
      generalize a j = x at c1 HG
      generalize b j = y at c2 HG
      have HX := kept (gx8 (gdots a b j) (gf y x))
      rw [gf_comm x y] at HG
      have hs := byte_lt (gdots a b j)
      generalize gdots a b j = s at HX HG hs
      have HP := kept (fun w => fprod_any w y x)
      have hg := byte_lt (gf y x)
      generalize gf y x = p at HX HG HP hg
      go_wp2_with fail
      go_quiet ((go_at_call 79; exact quiet_eq (HP.out _)))
      all_goals go_wp2
      refine ⟨⟨j + 1, by omega, by go_num, ?_, kept (HA1.out.drewN_ nq), kept (HB1.out.drewN_ nq), kept (below_drewN HW1.out nq)⟩, ?_⟩
      · rw [HG.out]
        exact congrArg (Value.int .u8) HX.out
      · simp [intOf]
        omega
    · obtain rfl : j = 4 := by omega
      have HE := kept (gdots_four a b)
      generalize gdots a b 4 = s at HE
      go_wp2
      go_ret
      exact ⟨congrArg (fun z : UInt8 => Ending.returned (.int .u8 (z.toNat : Int))) HE.out, HW1.out⟩
end Go.Proofs.YtcjbplgjjhenkaaDoor
