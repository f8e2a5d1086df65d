/-
  The walk of the law ShaBlocks.
-/
import Derived.Test.YtgjnmoonceeenaaDoorShaTab
import Derived.Test.YtgjnmoonceeenaaDoorSpread
import Derived.Test.YtgjnmoonceeenaaDoorHOpen
import Derived.Test.YtgjnmoonceeenaaDoorEqArr
import Derived.Laws.Cover3
import Derived.OrdersHeld
import Derived.Deep.RegionHeld
namespace Go.Proofs.YtgjnmoonceeenaaDoor.shaBlocks
open Go.ChangeShapes Go.WideShapes Go.ChangeAt Go.RowKit
set_option linter.unusedVariables false
set_option linter.unusedSimpArgs false

set_option maxHeartbeats 4000000 in
set_option maxRecDepth 100000 in
theorem walk (w : World) (s : Int) (st : St) (h0 : 0 ≤ s) (h1 : s < 18446744073709551616) (hK : KAt w) :
    Calls Tryd.prog 4 #[.int .u64 s, .agg (stA st)] w fun e w' => e = .returned (.bool true) ∧ Below w.heap.size w w' := by
  have HK := kept hK
  clear hK
  go_enter Tryd.func4, Tryd.ntmps4
  go_wp2_with fail
  refine (awake_any _ (HK.out.alloc _)).mono ?_
  rintro e w1 ⟨rfl, b1⟩
  have HS1 := kept ((Blk.new w 32 (stA st)).below b1 (by simp))
  have HW1 := kept (((Below.refl _ w).alloc (Nat.le_refl _) (.cells (stA st) 32)).trans (b1.mono (by simp)))
  clear b1
  go_wp2_with fail
  refine (rspread_any w1 s 64 h0 h1 (by omega)).mono ?_
  rintro e w2 ⟨l, v, hl, rfl, o2, b2⟩
  obtain ⟨A2, q2, c2, rfl, hc2, hcm2, m2, hq2, _⟩ := o2.form
  have hne : l ≠ [] := by intro e; rw [e] at hl; cases hl
  obtain ⟨_, rfl, _⟩ := hq2 hne
  have HS2 := kept (HS1.out.below b2 HS1.out.lt)
  have HW2 := kept (HW1.out.trans (b2.mono HW1.out.size))
  have HM2 := kept m2
  have HL := kept hl
  rw [hl]
  clear HS1 HW1 b2 o2 m2 hq2 hne hl
  have hap : (Instr.arrayAt 33 (.slice (some ⟨q2, 0, none⟩) 64 c2)).run Tryd.prog w2 = .ok (.pointer (some ⟨q2, 0, none⟩)) w2 := run_arrayAt _ _ _ 64 _ _ _ Tryd.underlying33 (by omega)
  have hrange : w2.rangeAt q2 0 (l.map bv) := by
    intro j v hv
    rw [List.getElem?_map] at hv
    cases hj : l[j]? with
    | none => rw [hj] at hv; cases hv
    | some b =>
      rw [hj] at hv
      injection hv with hv
      subst hv
      rcases HM2.out with h | ⟨o, ho, hc⟩
      · rw [h] at hj; cases hj
      · injection ho with ho
        injection ho with _ ho _
        subst ho
        exact hc j b hj
  have hb64 : (Tryd.prog.info? 33).map (·.size) = some (l.map bv).length := by rw [b64_size, List.length_map, HL.out]
  have hb64' : (Tryd.prog.info? 33).map (·.size) = some (l.map bv).toArray.size := by rw [b64_size, List.size_toArray, List.length_map, HL.out]
  have HRG := kept hrange
  have HN := kept hb64
  have HN' := kept hb64'
  clear hrange hb64 hb64'
  go_wp2_with (first | (refine wpList_load_mid rfl 33 (.tmp 10) rfl q2 0 rfl (l.map bv) _ HRG.out Tryd.underlying33 rfl HN.out ?_) | (refine wpList_store_row rfl 33 (.tmp 5) (.tmp 11) rfl w2.heap.size (l.map bv).toArray rfl rfl 33 (Array.replicate 64 (.int .u8 0)) (Blk.new w2 _ _) HN'.out ?ho (all_oneCell_toArray (oneCell_bv l)) ?_))
  case ho => simp [HL.out]
  go_name_world W3 hW3
  have hS3 : Blk W3 w.heap.size 32 (stA st) := by
    rw [← hW3]
    exact (HS2.out.alloc _).keep (setRow_other _ _ _ _ (by have := HS2.out.lt; omega))
  have hB3 : Blk W3 w2.heap.size 33 (l.map bv).toArray := by
    rw [← hW3]
    exact setRow_heap _ _ _ _ _ _ (Blk.new w2 _ _)
  have hw3 : Below w.heap.size w W3 := by
    rw [← hW3]
    exact below_setRow (HW2.out.alloc HW2.out.size _) HW2.out.size _
  have hSS : (fun w' : World => w'.rangeAt w.heap.size 0 (stA st).toList ∧ w'.rangeAt w2.heap.size 0 (l.map bv) ∧ Below W3.heap.size W3 w') W3.drew := by
    refine ⟨?_, ?_, (Below.refl _ W3).drew⟩
    · intro j v hv
      show W3.cell? _ = _
      rw [hS3.cell, Nat.zero_add]
      simpa using hv
    · intro j v hv
      show W3.cell? _ = _
      rw [hB3.cell, Nat.zero_add]
      simpa using hv
  have hkeep : ∀ w' w'' : World, (w'.rangeAt w.heap.size 0 (stA st).toList ∧ w'.rangeAt w2.heap.size 0 (l.map bv) ∧ Below W3.heap.size W3 w') → Below w'.heap.size w' w'' → (w''.rangeAt w.heap.size 0 (stA st).toList ∧ w''.rangeAt w2.heap.size 0 (l.map bv) ∧ Below W3.heap.size W3 w'') := by
    intro w' w'' h hb
    refine ⟨fun j v hv => ?_, fun j v hv => ?_, h.2.2.trans (hb.mono h.2.2.size)⟩
    · have := h.1 j v hv
      exact (hb.cell (p := ⟨w.heap.size, 0 + j, none⟩) (World.block_lt_of_cell? w' _ this)).trans this
    · have := h.2.1 j v hv
      exact (hb.cell (p := ⟨w2.heap.size, 0 + j, none⟩) (World.block_lt_of_cell? w' _ this)).trans this
  have HS := kept hSS
  have HKEEP := kept hkeep
  have HW3 := kept hw3
  have n32 : (Tryd.prog.info? 32).map (·.size) = some (stA st).toList.length := s8_size
  have hg32 : Tryd.prog.eqGuardType Tryd.prog.depth 32 = false := by kernel_rfl
  obtain ⟨R, hR⟩ : ∃ R, blockS kList st l = R := ⟨_, rfl⟩
  have heq : ∀ w', (binOp .eql 32 (.agg (stA R)) (.agg (stA R))).run Tryd.prog w' = .ok (.bool true) w' := run_eql_arr_same _ _ 8 Tryd.underlying32 .u32 Tryd.underlying31 u32_size (stA R) .u32 (fun i => wi (stF R i)) (fun i hi => by rw [v8_st]; exact v8_at (stF R) hi)
  have HR := kept hR
  have HSB := kept (fun w' (hk : KAt w') => sblock_any w' st l HL.out hk)
  have HRB := kept (fun w' => rblock_any w' st l kList HL.out rfl)
  rw [HR.out] at HSB HRB
  clear hS3 hB3 hw3 hSS hkeep hW3 hR HS2 HW2 HM2 HRG hap
  try simp only [Act.put]
  refine wp_region_held_drew (S := fun w' : World => w'.rangeAt w.heap.size 0 (stA st).toList ∧ w'.rangeAt w2.heap.size 0 (l.map bv) ∧ Below W3.heap.size W3 w') (by kernel_rfl) HS.out (fun _ => ?_)
  refine wpAnyH_take (i := 0) (v := _) rfl (by kernel_rfl) (by kernel_rfl) (by kernel_rfl) (fun _ _ _ h => h) (yieldsIf_load_mid rfl 32 (.tmp 3) rfl w.heap.size 0 rfl (stA st).toList _ (fun w' h => h.1) Tryd.underlying32 rfl n32) HS.out ?_
  try simp only [Act.put, List.getElem_toArray, List.getElem_cons_zero, List.getElem_cons_succ, List.setIfInBounds_toArray, List.set_cons_zero, List.set_cons_succ]
  refine wpAnyH_take (i := 1) (v := _) rfl (by kernel_rfl) (by kernel_rfl) (by kernel_rfl) (fun _ _ _ h => h) (yieldsIf_load_mid rfl 33 (.tmp 5) rfl w2.heap.size 0 rfl (l.map bv) _ (fun w' h => h.2.1) Tryd.underlying33 rfl HN.out) HS.out ?_
  try simp only [Act.put, List.getElem_toArray, List.getElem_cons_zero, List.getElem_cons_succ, List.setIfInBounds_toArray, List.set_cons_zero, List.set_cons_succ]
  refine wpAnyH_take (i := 3) (v := _) rfl (by kernel_rfl) (by kernel_rfl) (by kernel_rfl) (fun _ _ _ h => h) (yieldsIf_load_mid rfl 32 (.tmp 3) rfl w.heap.size 0 rfl (stA st).toList _ (fun w' h => h.1) Tryd.underlying32 rfl n32) HS.out ?_
  try simp only [Act.put, List.getElem_toArray, List.getElem_cons_zero, List.getElem_cons_succ, List.setIfInBounds_toArray, List.set_cons_zero, List.set_cons_succ]
  refine wpAnyH_take (i := 4) (v := _) rfl (by kernel_rfl) (by kernel_rfl) (by kernel_rfl) (fun _ _ _ h => h) (yieldsIf_load_mid rfl 33 (.tmp 5) rfl w2.heap.size 0 rfl (l.map bv) _ (fun w' h => h.2.1) Tryd.underlying33 rfl HN.out) HS.out ?_
  try simp only [Act.put, List.getElem_toArray, List.getElem_cons_zero, List.getElem_cons_succ, List.setIfInBounds_toArray, List.set_cons_zero, List.set_cons_succ]
  refine wpAnyH_ready (rs := [2]) (by kernel_rfl) (by simp) ?_
  refine AllReadyH.cons rfl (fun K hK => ?_) AllReadyH.nil
  go_simp
  refine (HSB.out _ (HK.out.below0 (HW3.out.drew))).mono ?_
  rintro e W4 ⟨rfl, b4⟩
  have H4 := kept (HKEEP.out _ _ HS.out b4)
  refine hK.out _ _ H4.out (fun _ => ?_)
  clear hK K
  try simp only [Act.put, List.getElem_toArray, List.getElem_cons_zero, List.getElem_cons_succ, List.setIfInBounds_toArray, List.set_cons_zero, List.set_cons_succ]
  refine wpAnyH_ready (rs := [5]) (by kernel_rfl) (by simp) ?_
  refine AllReadyH.cons rfl (fun K hK => ?_) AllReadyH.nil
  go_simp
  refine (rtable_any W4).mono ?_
  rintro e W5 ⟨rfl, b5⟩
  have H5 := kept (HKEEP.out _ _ H4.out b5)
  refine hK.out _ _ H5.out (fun _ => ?_)
  clear hK K
  try simp only [Act.put, List.getElem_toArray, List.getElem_cons_zero, List.getElem_cons_succ, List.setIfInBounds_toArray, List.set_cons_zero, List.set_cons_succ]
  refine wpAnyH_ready (rs := [6]) (by kernel_rfl) (by simp) ?_
  refine AllReadyH.cons rfl (fun K hK => ?_) AllReadyH.nil
  go_simp
  refine (HRB.out W5).mono ?_
  rintro e W6 ⟨rfl, b6⟩
  have H6 := kept (HKEEP.out _ _ H5.out b6)
  refine hK.out _ _ H6.out (fun _ => ?_)
  clear hK K
  try simp only [Act.put, List.getElem_toArray, List.getElem_cons_zero, List.getElem_cons_succ, List.setIfInBounds_toArray, List.set_cons_zero, List.set_cons_succ]
  refine wpAnyH_ready (rs := [7]) (by kernel_rfl) (by simp) ?_
  refine AllReadyH.cons rfl (fun K hK => ?_) AllReadyH.nil
  go_simp
  refine hK.out _ _ H6.out (fun _ => ?_)
  clear hK K
  try simp only [Act.put, List.getElem_toArray, List.getElem_cons_zero, List.getElem_cons_succ, List.setIfInBounds_toArray, List.set_cons_zero, List.set_cons_succ]
  refine wpAnyH_ready (rs := [8]) (by kernel_rfl) (by simp) ?_
  refine AllReadyH.cons rfl (fun K hK => ?_) AllReadyH.nil
  go_simp
  refine hK.out _ _ H6.out (fun _ => ?_)
  clear hK K
  try simp only [Act.put, List.getElem_toArray, List.getElem_cons_zero, List.getElem_cons_succ, List.setIfInBounds_toArray, List.set_cons_zero, List.set_cons_succ]
  refine wpAnyH_done (by kernel_rfl) ?_ _
  have hend : Below w.heap.size w W6 := HW3.out.trans (H6.out.2.2.mono HW3.out.size)
  go_wp2
  go_ret
  exact ⟨rfl, hend⟩
end Go.Proofs.YtgjnmoonceeenaaDoor.shaBlocks
