/-
  What the laws of layer 7 share: a block made from a number; ranges in every world of a class.
-/
import Derived.Test.YtapdcgfkmkkjaaaAesAwk
import Derived.Test.YtapdcgfkmkkjaaaSpread
import Derived.Test.YtapdcgfkmkkjaaaOpenG
import Derived.Laws.Cover3
namespace Go.Proofs.Ytapdcgfkmkkjaaa
open Go.RowKit
set_option linter.unusedVariables false
set_option linter.unusedSimpArgs false

/-- The block that is made from a number. -/
def seedB (s : Int) : Nat → UInt8 := lf (sprL s 16)
theorem seedB_arr (s : Int) : ((sprL s 16).map bv).toArray = bA 16 (seedB s) := by
  rw [gA_list, sprL_len]
  rfl
set_option maxHeartbeats 1000000 in
theorem bytes16_any (w : World) (s : Int) (h0 : 0 ≤ s) (h1 : s < 18446744073709551616) : Calls Try.prog 10 #[.int .u64 s] w fun e w' => e = .returned (.agg (bA 16 (seedB s))) ∧ Below w.heap.size w w' := by
  go_enter Try.func10, Try.ntmps10
  go_upto_region 1 with (fail)
  go_name_world W0 hW0
  have HR0 := kept (show Blk W0 w.heap.size 22 (bA 16 fun _ => 0) by rw [← hW0]; exact Blk.new w 22 (bA 16 fun _ => 0))
  have HW0 := kept (show Below w.heap.size w W0 by rw [← hW0]; exact (Below.refl _ _).alloc (Nat.le_refl _) _)
  clear hW0
  go_wp2_with fail
  refine (rspread_l W0 s 16 h0 h1 (by omega)).mono ?_
  rintro e w2 ⟨v, rfl, o2, b2⟩
  have hlen := sprL_len s 16
  have harr := seedB_arr s
  obtain ⟨B, hB⟩ : ∃ B, seedB s = B := ⟨_, rfl⟩
  rw [hB] at harr
  have HB := kept hB
  generalize sprL s 16 = L at o2 hlen harr
  clear hB
  obtain ⟨A2, q2, c2, rfl, hc2, hcm2, m2, hq2, _⟩ := o2.form
  have hne : L ≠ [] := by
    rintro rfl
    cases hlen
  obtain ⟨_, rfl, _⟩ := hq2 hne
  have HR2 := kept (HR0.out.below b2 HR0.out.lt)
  have HW2 := kept (below_next HW0.out b2)
  rw [hlen] at hc2
  rw [hlen]
  have hap : (Instr.arrayAt 22 (.slice (some ⟨q2, 0, none⟩) 16 c2)).run Try.prog w2 = .ok (.pointer (some ⟨q2, 0, none⟩)) w2 := run_arrayAt _ _ _ 16 _ _ _ Try.underlying22 (by omega)
  have hrange : w2.rangeAt q2 0 (bA 16 B).toList := by
    rw [← harr]
    intro j v hv
    have hv' : (L.map bv)[j]? = some v := hv
    rw [List.getElem?_map] at hv'
    cases hj : L[j]? with
    | none => rw [hj] at hv'; cases hv'
    | some b =>
      rw [hj] at hv'
      injection hv' with hv'
      subst hv'
      rcases m2 with h | ⟨o, ho, hc⟩
      · exact absurd h hne
      · injection ho with ho
        injection ho with _ ho _
        subst ho
        exact hc j b hj
  have HRG := kept hrange
  clear hrange m2 hq2 hne o2 b2 HR0 HW0 harr hlen
  go_wp2_with (first | (refine wpList_load_mid rfl 22 (.tmp 5) rfl q2 0 rfl (bA 16 B).toList _ HRG.out Try.underlying22 rfl (s16_len _) ?_) | (refine wpList_store_row rfl 22 (.tmp 2) (.tmp 6) rfl w.heap.size (bA 16 B) rfl rfl 22 (bA 16 fun _ => 0) HR2.out (by rw [b16_size, bA_size]) (by rw [bA_size, bA_size]) (bA_one _ _) ?_))
  exact bodyPost_ret (v := .agg (bA 16 B)) (results_cell_row Try.results10 _ _ w.heap.size 22 (bA 16 B) (0, 0) _ rfl (setRow_heap _ _ _ _ _ _ HR2.out) Try.underlying22 rfl (by rw [b16_size, bA_size])) rfl ⟨by rw [HB.out], below_setRow HW2.out (Nat.le_refl _) _⟩
end Go.Proofs.Ytapdcgfkmkkjaaa
