/-
  Key of package mac, by a contract.
-/
import Derived.Test.YtgplkdnffbappaaDoorMacDer
import Derived.Deep.Cut
import Derived.OrdersHeld
import Derived.Deep.RegionHeld
namespace Go.Proofs.YtgplkdnffbappaaDoor
open Go.RowKit
set_option linter.unusedVariables false
set_option linter.unusedSimpArgs false

theorem b16_size : (Tryd.prog.info? 32).map (·.size) = some 16 := by kernel_rfl
set_option maxHeartbeats 4000000 in
set_option maxRecDepth 100000 in
theorem key_any (w : World) (q : Nat) (A : Option Addr) (n1 c : Nat) (k : List UInt8) (s : ByteArray) (hK : KAt w) (hn1 : n1 = k.length) (hm : Mem w q A k) (hc : k.length ≤ c) (hkl : k.length ≤ 140737488355328) (hsl : s.data.toList.length ≤ 140737488355000) :
    Calls Tryd.prog 15 #[.slice A n1 c, .string s] w fun e w' => e = .returned (.agg ((derive k s.data.toList 16).map bv).toArray) ∧ Below w.heap.size w w' := by
  have HD := kept (fun (w' : World) (hk : KAt w') (hm' : Mem w' q A k) => derive_yes w' q A n1 c k s 16 hk hn1 hm' hc hkl hsl (by omega))
  have hdl := derive_len k s.data.toList 16
  obtain ⟨D, hDe⟩ : ∃ D, derive k s.data.toList 16 = D := ⟨_, rfl⟩
  rw [hDe] at HD hdl
  rw [hDe]
  have HK := kept hK
  have HM := kept hm
  have HDL := kept hdl
  clear hK hn1 hm hc hkl hsl hDe hdl
  go_enter Tryd.func15, Tryd.ntmps15
  go_upto_region 2 with fail
  go_name_world W0 hW0
  have HR0 := kept (show Blk W0 w.heap.size 32 (gA 16 (fun _ => bv 0)) by
    rw [← hW0, ← zeros_g]
    exact (Blk.new w _ _).alloc _)
  have HP0 := kept (show Blk W0 (w.heap.size + 1) 32 (gA 16 (fun _ => bv 0)) by
    rw [← hW0, ← zeros_g]
    have n2 := Blk.new (w.alloc (.cells (Array.replicate 16 (.int .u8 0)) 32)) 32 (Array.replicate 16 (.int .u8 0))
    simp only [World.size_alloc] at n2
    exact n2)
  have HW0 := kept (show Below w.heap.size w W0 by
    rw [← hW0]
    exact ((Below.refl _ _).alloc (Nat.le_refl _) _).alloc (by simp) _)
  clear hW0
  have HD0 := kept (HD.out W0.drew ((HK.out.below0 HW0.out).drew) ((HM.out.below0 HW0.out).drew))
  have HSD := kept (show (fun w' : World => Below w.heap.size w w') W0.drew from HW0.out.drew)
  refine wp_region_held_drew (S := fun w' : World => Below w.heap.size w w') (by kernel_rfl) HSD.out (fun _ => ?_)
  refine wpAnyH_take (i := 0) (v := ?_) rfl (by kernel_rfl) (by kernel_rfl) (by kernel_rfl) (fun _ _ _ h => h) (Or.inl ⟨by rfl, ?_⟩) HSD.out ?_
  rotate_left
  · intro w _; go_simp; with_reducible rfl
  try simp only [Act.put, List.getElem_toArray, List.getElem_cons_zero, List.getElem_cons_succ, List.setIfInBounds_toArray, List.set_cons_zero, List.set_cons_succ]
  refine wpAnyH_take (i := 1) (v := ?_) rfl (by kernel_rfl) (by kernel_rfl) (by kernel_rfl) (fun _ _ _ h => h) (Or.inl ⟨by rfl, ?_⟩) HSD.out ?_
  rotate_left
  · intro w _; go_simp; with_reducible rfl
  try simp only [Act.put, List.getElem_toArray, List.getElem_cons_zero, List.getElem_cons_succ, List.setIfInBounds_toArray, List.set_cons_zero, List.set_cons_succ]
  refine wpAnyH_take (i := 2) (v := ?_) rfl (by kernel_rfl) (by kernel_rfl) (by kernel_rfl) (fun _ _ _ h => h) (Or.inl ⟨by rfl, ?_⟩) HSD.out ?_
  rotate_left
  · intro w _; go_simp; with_reducible rfl
  try simp only [Act.put, List.getElem_toArray, List.getElem_cons_zero, List.getElem_cons_succ, List.setIfInBounds_toArray, List.set_cons_zero, List.set_cons_succ]
  refine wpAnyH_ready (rs := [3]) (by kernel_rfl) (by simp) ?_
  refine AllReadyH.cons rfl (fun K hK => ?_) AllReadyH.nil
  go_simp
  refine HD0.out.mono ?_
  rintro e W1 ⟨v1, rfl, hown1, hb1⟩
  obtain ⟨A1, q1, c1, rfl, _, _, hm1, _⟩ := hown1.form
  have hb01 : Below W0.heap.size W0 W1 := ⟨hb1.os, hb1.tape, hb1.output, hb1.size, hb1.block⟩
  have HR1 := kept (HR0.out.below hb01 HR0.out.lt)
  have HP1 := kept (HP0.out.below hb01 HP0.out.lt)
  have HW1 := kept (HW0.out.trans (hb01.mono HW0.out.size))
  have hsrc : 0 < (D.map bv).length → ∃ ad, A1 = some ad ∧ ∀ j v, (D.map bv)[j]? = some v → W1.cell? (ad.add j) = some v := by
    intro hp
    rcases hm1 with h | ⟨o, ho, hc⟩
    · rw [h] at hp; simp at hp
    · exact ⟨_, ho, mem_src (q := q1) (.inr ⟨o, ho, hc⟩) _ ho⟩
  have HSRC := kept hsrc
  have hDl : D.length = 16 := HDL.out
  have hspl : (splice (gA 16 (fun _ => bv 0)).toList 0 (D.map bv)).toArray = (D.map bv).toArray := by
    rw [copy_splice D 16 (by omega), hDl]
    simp
  have HSPL := kept hspl
  clear hown1 hm1 hb1 hb01 hsrc HR0 HP0 HD0 hspl
  have HSD1 := kept (show (fun w' : World => Below w.heap.size w w') W1 from HW1.out)
  refine hK.out _ _ HSD1.out (fun _ => ?_)
  clear hK K
  rw [hDl]
  clear hDl
  try simp only [Act.put, List.getElem_toArray, List.getElem_cons_zero, List.getElem_cons_succ, List.setIfInBounds_toArray, List.set_cons_zero, List.set_cons_succ]
  refine wpAnyH_ready (rs := [4]) (by kernel_rfl) (by simp) ?_
  refine AllReadyH.cons rfl (fun K hK => ?_) AllReadyH.nil
  refine step_copy_splice rfl (.tmp 6) (.tmp 9) 22 22 rfl 5 Tryd.underlying22 u8_size (some ⟨w.heap.size + 1, 0, none⟩) A1 16 16 16 c1 rfl rfl (w.heap.size + 1) 0 (gA 16 (fun _ => bv 0)).toList 32 HP1.out (D.map bv) (by rw [List.length_map, HDL.out]; rfl) (fun hp => ⟨rfl, HSRC.out hp⟩) (by rw [gA_len, List.length_map, HDL.out]; omega) (oneCell_bv D) (w.heap.size + 1) W1 (Below.refl _ _) (Nat.le_refl _) ?_
  intro W2 hg2 hb2
  have HP2 := kept (show Blk W2 (w.heap.size + 1) 32 (D.map bv).toArray by (rw [← HSPL.out]; exact hg2.out))
  have HR2 := kept (HR1.out.below hb2 (by omega))
  have HW2 := kept (HW1.out.trans (hb2.mono (by omega)))
  clear hg2 hb2
  refine hK.out _ _ HW2.out (fun _ => ?_)
  clear hK K
  refine wpAnyH_done (by kernel_rfl) ?_ _
  go_wp2_with (first | (refine wpList_load_row rfl 32 _ rfl (w.heap.size + 1) rfl 32 (D.map bv).toArray (0,0) _ HP2.out Tryd.underlying32 rfl (by rw [b16_size]; simp [HDL.out]) ?_) | (refine wpList_store_row rfl 32 _ _ rfl w.heap.size (D.map bv).toArray rfl rfl 32 (gA 16 (fun _ => bv 0)) HR2.out (by rw [b16_size]; simp [HDL.out]) (by rw [gA_size]; simp [HDL.out]) (padded_one D) ?_))
  exact bodyPost_ret (v := .agg (D.map bv).toArray) (results_cell_row Tryd.results15 _ _ w.heap.size 32 (D.map bv).toArray (0, 0) _ rfl (setRow_heap _ _ _ _ _ _ HR2.out) Tryd.underlying32 rfl (by rw [b16_size]; simp [HDL.out])) rfl ⟨rfl, below_setRow HW2.out (Nat.le_refl _) _⟩
end Go.Proofs.YtgplkdnffbappaaDoor
