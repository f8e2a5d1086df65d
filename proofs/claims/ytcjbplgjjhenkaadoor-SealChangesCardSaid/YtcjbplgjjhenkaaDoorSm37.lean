/-
  Keys of package seal, by a contract; slices of arrays.
-/
import Derived.Test.YtcjbplgjjhenkaaDoorSm36
import Derived.Test.YtcjbplgjjhenkaaDoorSm30
import Derived.Test.YtcjbplgjjhenkaaDoorSm31
import Derived.Test.YtcjbplgjjhenkaaDoorSm8
import Derived.OrdersHeld
import Derived.Deep.RegionHeld
import Derived.Deep.MidRow
namespace Go.Proofs.YtcjbplgjjhenkaaDoor
open Go.RowKit
set_option linter.unusedVariables false
set_option linter.unusedSimpArgs false

theorem slice32_all (w : World) (g : Nat) : (Instr.sliceAt 36 (.pointer (some ⟨g, 0, none⟩)) none none none).run Tryd.prog w = .ok (.slice (some ⟨g, 0, none⟩) 32 32) w := by
  have a32 : Tryd.prog.arrayLen 36 = 32 := by simp [Program.arrayLen, Tryd.underlying36]
  have e32 : Tryd.prog.elem 36 = 5 := by simp [Program.elem, Tryd.underlying36]
  rw [run_sliceAt_array_all w 36 ⟨g, 0, none⟩ (by simp [Program.arrayLen, Program.elem, Tryd.underlying36])]
  rw [a32, e32, size_u8]
  show Result.ok (slicedAt _ _ _ _ _) w = _
  unfold slicedAt
  rw [if_neg (by omega), Addr.add_mid]
theorem blk_second (W : World) (o : Obj) (t : TypeId) (cs : Array Value) : Blk ((W.alloc o).alloc (.cells cs t)) (W.heap.size + 1) t cs := by
  have := Blk.new (W.alloc o) t cs
  rwa [World.size_alloc] at this
theorem s32_len (f : Nat → UInt8) : (Tryd.prog.info? 36).map (·.size) = some (bA 32 f).toList.length := by rw [b32_size, Array.length_toList, bA_size]
theorem bytes_one (D : List UInt8) : (D.map bv).toArray.all (·.oneCell') = true := by
  rw [Array.all_eq_true_iff_forall_mem]
  intro v hv
  exact oneCell_bv D v (by simpa using hv)
set_option maxHeartbeats 4000000 in
set_option maxRecDepth 100000 in
theorem keys_any (w : World) (K : List UInt8) (hKA : KAt w) (hK : K.length = 16) :
    Calls Tryd.prog 15 #[.agg (bA 16 (ofL K))] w fun e w' => e = .returned (.tuple #[.agg (bA 16 (ofL (keyE K))), .agg (bA 32 (ofL (keyM K)))]) ∧ Below w.heap.size w w' := by
  have HKL := kept hK
  have KA := kept hKA
  have hel := keyE_len K
  have hml := keyM_len K
  have HD := kept (fun (w' : World) (hk : KAt w') (hm : Mem w' w.heap.size (some ⟨w.heap.size, 0, none⟩) K) => show Calls Tryd.prog 24 _ w' fun e w2 => ∃ v, e = .returned v ∧ Own w2 w'.heap.size v (keyM K) ∧ Below w'.heap.size w' w2 from derive_yes w' w.heap.size (some ⟨w.heap.size, 0, none⟩) 16 16 K { data := #[112, 114, 111, 116, 101, 99, 116] } 32 hk HKL.out.symm hm (by rw [HKL.out]; omega) (by rw [HKL.out]; omega) (by decide) (by omega))
  have HE := kept (fun (w' : World) (hk : KAt w') (hm : Mem w' w.heap.size (some ⟨w.heap.size, 0, none⟩) K) => show Calls Tryd.prog 25 _ w' fun e w2 => e = .returned (.agg ((keyE K).map bv).toArray) ∧ Below w'.heap.size w' w2 from key_any w' w.heap.size (some ⟨w.heap.size, 0, none⟩) 16 16 K { data := #[101, 110, 99, 114, 121, 112, 116] } hk HKL.out.symm hm (by rw [HKL.out]; omega) (by rw [HKL.out]; omega) (by decide))
  obtain ⟨D, hD⟩ : ∃ D, keyM K = D := ⟨_, rfl⟩
  obtain ⟨E, hE⟩ : ∃ E, keyE K = E := ⟨_, rfl⟩
  rw [hD] at HD hml ⊢
  rw [hE] at HE hel ⊢
  have HML := kept hml
  have HEL := kept hel
  clear hKA hK hD hE hml hel
  go_enter Tryd.func15, Tryd.ntmps15
  go_upto_region 1 with (fail)
  go_name_world W0 hW0
  have H0 := kept (show Blk W0 w.heap.size 22 (bA 16 (ofL K)) by rw [← hW0]; exact ((Blk.new w _ _).alloc _).alloc _)
  have H1 := kept (show Blk W0 (w.heap.size + 1) 22 (bA 16 (fun _ => 0)) by rw [← hW0]; exact (blk_second w _ _ _).alloc _)
  have H2 := kept (show Blk W0 (w.heap.size + 1 + 1) 36 (bA 32 (fun _ => 0)) by
    rw [← hW0]
    have n3 := blk_second (w.alloc (.cells (bA 16 (ofL K)) 22)) (.cells (bA 16 (fun _ => 0)) 22) 36 (bA 32 (fun _ => 0))
    rw [World.size_alloc] at n3
    exact n3)
  have HW0 := kept (show Below w.heap.size w W0 by rw [← hW0]; exact (((Below.refl _ w).alloc (Nat.le_refl _) _).alloc (by simp) _).alloc (by simp only [World.size_alloc]; omega) _)
  clear hW0
  have hg2 : w.heap.size + 1 + 1 < W0.heap.size := H2.out.lt
  have KA0 := kept (KA.out.below0 HW0.out)
  have M0 := kept (mem_arr H0.out HKL.out)
  refine wp_region_flow 3 (fun w' => Below W0.heap.size W0 w') [fun v _ => v = .slice (some ⟨w.heap.size + 1 + 1, 0, none⟩) 32 32, fun v _ => v = .slice (some ⟨w.heap.size, 0, none⟩) 16 16, fun v w' => Own w' W0.heap.size v D] (by kernel_rfl) (by kernel_rfl) rfl (Below.refl _ W0).drew (fun _ _ h k => below_next h k) ?_ ?_ ?_
  · exact stable_cons (stable_eq _) (stable_cons (stable_eq _) (stable_cons (stable_own _ _) (stable_nil)))
  · simp only [List.take_succ_cons, List.take_zero]
    refine OweAll.cons ?_ (OweAll.cons ?_ (OweAll.cons ?_ OweAll.nil))
    · intro us w' A hA hC hd K hK
      have ev3 : A.tmps[3]?.getD undef = .pointer (some ⟨w.heap.size + 1 + 1, 0, none⟩) := by rw [hA]; kernel_rfl
      refine flow_value (.slice (some ⟨w.heap.size + 1 + 1, 0, none⟩) 32 32) (by rw [hA]; kernel_rfl) ?_ rfl hK
      have hs := slice32_all w' (w.heap.size + 1 + 1)
      clear hA hd hK
      go_simp
    · intro us w' A hA hC hd K hK
      have ev1 : A.tmps[1]?.getD undef = .pointer (some ⟨w.heap.size, 0, none⟩) := by rw [hA]; kernel_rfl
      refine flow_value (.slice (some ⟨w.heap.size, 0, none⟩) 16 16) (by rw [hA]; kernel_rfl) ?_ rfl hK
      have hs := slice16_all w' (w.heap.size)
      clear hA hd hK
      go_simp
    · intro us w' A hA hC hd K hK
      have e1 : us 1 = .slice (some ⟨w.heap.size, 0, none⟩) 16 16 := hd 1 (by kernel_rfl)
      refine flow_call 24 #[us 1, .string { data := #[112, 114, 111, 116, 101, 99, 116] }, .int .i64 32] (by rw [hA]; kernel_rfl) (fun _ => by rw [hA]; kernel_rfl) ?_ hK
      rw [e1]
      exact (HD.out w' (KA0.out.below0 hC) (M0.out.below0 hC)).mono fun e w2 ⟨v, he, ho, hb⟩ => ⟨v, he, ho.mono hC.size, hb⟩
  · intro us w' A hA hC hd
    subst hA
    have e0 : us 0 = .slice (some ⟨w.heap.size + 1 + 1, 0, none⟩) 32 32 := hd 0 (by omega)
    have e1 : us 1 = .slice (some ⟨w.heap.size, 0, none⟩) 16 16 := hd 1 (by omega)
    have o2 : Own w' W0.heap.size (us 2) D := hd 2 (by omega)
    obtain ⟨A2, q2, c2, e2, hc2, hm2, m2, x2⟩ := o2.form
    simp only [List.take_succ_cons, List.take_zero, List.drop_succ_cons, List.drop_zero, fillAct, Act.put, Nat.zero_add, Nat.reduceAdd, List.setIfInBounds_toArray, List.set_cons_zero, List.set_cons_succ, e0, e1, e2]
    clear hd 
    obtain ⟨oo, hA2, hcc⟩ := m2.at_ (show 0 < D.length by rw [HML.out]; omega)
    subst hA2
    have HM2 := kept (mem_range m2)
    replace H0 := kept (H0.out.below hC H0.out.lt)
    replace H1 := kept (H1.out.below hC H1.out.lt)
    replace H2 := kept (H2.out.below hC H2.out.lt)
    replace M0 := kept (M0.out.below0 hC)
    replace KA0 := kept (KA0.out.below0 hC)
    replace HW0 := kept (below_next HW0.out hC)
    have hg3 : w.heap.size + 1 + 1 < w'.heap.size := H2.out.lt
    have HSRC := kept (show ∀ j v, (D.map bv)[j]? = some v → w'.cell? ((⟨q2, oo, none⟩ : Addr).add j) = some v from fun j v hv => by rw [Addr.add_mid]; exact HM2.out j v hv)
    clear o2 x2 hc2 hm2 hcc e2 hg2 m2 hC HM2
    simp only [HML.out]
    go_upto_region 2 with (refine wpList_copy_own rfl (.tmp 4) (.tmp 6) 24 24 rfl 5 Tryd.underlying24 u8_size (w.heap.size + 1 + 1) 0 32 32 ⟨q2, oo, none⟩ 32 c2 rfl rfl (bA 32 (fun _ => 0)) 36 H2.out (D.map bv) (by rw [List.length_map, HML.out]; rfl) HSRC.out (by rw [List.length_map, HML.out, bA_size]; omega) (oneCell_bv D) ?_)
    go_name_world W2 hW2
    have hbw : Below (w.heap.size + 1 + 1) w' W2 := by rw [← hW2]; exact below_setRow (Below.refl _ w') (Nat.le_refl _) _
    replace H0 := kept (show Blk W2 w.heap.size 22 (bA 16 (ofL K)) by rw [← hW2]; exact H0.out.row_far (by omega))
    replace H1 := kept (show Blk W2 (w.heap.size + 1) 22 (bA 16 (fun _ => 0)) by rw [← hW2]; exact H1.out.row_far (by omega))
    replace H2 := kept (show Blk W2 (w.heap.size + 1 + 1) 36 (bA 32 (ofL D)) by
      rw [← hW2, show bA 32 (ofL D) = ((bA 32 (fun _ => 0)).toList.take 0 ++ (D.map bv ++ (bA 32 (fun _ => 0)).toList.drop (0 + (D.map bv).length))).toArray by
        rw [List.length_map, HML.out, List.drop_of_length_le (by rw [Array.length_toList, bA_size]; omega), bA_ofL D HML.out]
        simp]
      exact setRow_heap _ _ _ _ _ _ H2.out)
    replace HW0 := kept (show Below w.heap.size w W2 by rw [← hW2]; exact below_setRow HW0.out (by omega) _)
    replace KA0 := kept (KA.out.below0 HW0.out)
    replace M0 := kept (mem_arr H0.out HKL.out)
    have hg4 : w.heap.size + 1 + 1 < W2.heap.size := H2.out.lt
    clear hW2 hbw HSRC hg3
    have R2 := kept (mem_range (mem_arr H2.out HML.out))
    have HSD := kept (show (fun w' : World => w'.rangeAt (w.heap.size + 1 + 1) 0 (D.map bv)) W2.drew from R2.out)
    have hs16 := fun w' => slice16_all w' w.heap.size
    try simp only [Act.put, List.getElem_toArray, List.getElem_cons_zero, List.getElem_cons_succ, List.setIfInBounds_toArray, List.set_cons_zero, List.set_cons_succ]
    generalize goInt _ = zz
    refine wp_region_held_drew (S := fun w' : World => w'.rangeAt (w.heap.size + 1 + 1) 0 (D.map bv)) (by kernel_rfl) HSD.out (fun _ => ?_)
    refine wpAnyH_take (i := 0) (v := ?_) rfl (by kernel_rfl) (by kernel_rfl) (by kernel_rfl) (fun _ _ _ h => h) (Or.inl ⟨by rfl, ?_⟩) HSD.out ?_
    rotate_left
    · intro w' _; go_simp; with_reducible rfl
    try simp only [Act.put, List.getElem_toArray, List.getElem_cons_zero, List.getElem_cons_succ, List.setIfInBounds_toArray, List.set_cons_zero, List.set_cons_succ]
    refine wpAnyH_take (i := 2) (v := _) rfl (by kernel_rfl) (by kernel_rfl) (by kernel_rfl) (fun _ _ _ h => h) (yieldsIf_load_mid rfl 36 (.tmp 3) rfl (w.heap.size + 1 + 1) 0 rfl (D.map bv) _ (fun w' h => h) Tryd.underlying36 rfl (by rw [b32_size, List.length_map, HML.out])) HSD.out ?_
    try simp only [Act.put, List.getElem_toArray, List.getElem_cons_zero, List.getElem_cons_succ, List.setIfInBounds_toArray, List.set_cons_zero, List.set_cons_succ]
    refine wpAnyH_ready (rs := [1]) (by kernel_rfl) (by simp) ?_
    refine AllReadyH.cons rfl (fun K hK => ?_) AllReadyH.nil
    go_simp
    refine (HE.out W2.drew KA0.out.drew M0.out.drew).mono ?_
    rintro e W3 ⟨rfl, k3⟩
    replace H1 := kept (H1.out.drew_.below k3 H1.out.lt)
    replace H2 := kept (H2.out.drew_.below k3 H2.out.lt)
    replace HW0 := kept (below_next HW0.out.drew k3)
    have S3 := kept (show (fun w' : World => w'.rangeAt (w.heap.size + 1 + 1) 0 (D.map bv)) W3 from mem_range (mem_arr H2.out HML.out))
    clear k3 H0 KA0 M0 hs16 hg4 HSD R2
    refine hK.out _ _ S3.out (fun _ => ?_)
    clear hK K
    try simp only [Act.put, List.getElem_toArray, List.getElem_cons_zero, List.getElem_cons_succ, List.setIfInBounds_toArray, List.set_cons_zero, List.set_cons_succ]
    have HR1 := kept (show Blk (W3.setRow (w.heap.size + 1) (E.map bv).toArray) (w.heap.size + 1) 22 (E.map bv).toArray from setRow_heap _ _ _ _ _ _ H1.out)
    have HR2 := kept (show Blk (W3.setRow (w.heap.size + 1) (E.map bv).toArray) (w.heap.size + 1 + 1) 36 (bA 32 (ofL D)) from H2.out.row_far (by omega))
    have S4 := kept (show (fun w' : World => w'.rangeAt (w.heap.size + 1 + 1) 0 (D.map bv)) (W3.setRow (w.heap.size + 1) (E.map bv).toArray) from mem_range (mem_arr HR2.out HML.out))
    have HW4 := kept (below_setRow HW0.out (show w.heap.size ≤ w.heap.size + 1 by omega) (E.map bv).toArray)
    refine wpAnyH_ready (rs := [3]) (by kernel_rfl) (by simp) ?_
    refine AllReadyH.cons rfl (fun K hK => ?_) AllReadyH.nil
    refine wp_store_row 22 (.tmp 2) (.tmp 9) rfl (w.heap.size + 1) (E.map bv).toArray rfl rfl 22 (bA 16 (fun _ => 0)) H1.out (by rw [b16_size]; simp [HEL.out]) (by rw [bA_size]; simp [HEL.out]) (bytes_one E) ?_
    refine hK.out _ _ S4.out (fun _ => ?_)
    clear hK K H1 H2 HW0 S3
    try simp only [Act.put, List.getElem_toArray, List.getElem_cons_zero, List.getElem_cons_succ, List.setIfInBounds_toArray, List.set_cons_zero, List.set_cons_succ]
    have HR3 := kept (show Blk ((W3.setRow (w.heap.size + 1) (E.map bv).toArray).setRow (w.heap.size + 1 + 1) (D.map bv).toArray) (w.heap.size + 1 + 1) 36 (D.map bv).toArray from setRow_heap _ _ _ _ _ _ HR2.out)
    have HR4 := kept (show Blk ((W3.setRow (w.heap.size + 1) (E.map bv).toArray).setRow (w.heap.size + 1 + 1) (D.map bv).toArray) (w.heap.size + 1) 22 (E.map bv).toArray from HR1.out.row_far (by omega))
    have HW5 := kept (below_setRow HW4.out (show w.heap.size ≤ w.heap.size + 1 + 1 by omega) (D.map bv).toArray)
    have S5 := kept (show (fun w' : World => w'.rangeAt (w.heap.size + 1 + 1) 0 (D.map bv)) ((W3.setRow (w.heap.size + 1) (E.map bv).toArray).setRow (w.heap.size + 1 + 1) (D.map bv).toArray) from mem_range (mem_arr (show Blk _ _ 36 (bA 32 (ofL D)) by rw [bA_ofL D HML.out]; exact HR3.out) HML.out))
    refine wpAnyH_ready (rs := [4]) (by kernel_rfl) (by simp) ?_
    refine AllReadyH.cons rfl (fun K hK => ?_) AllReadyH.nil
    refine wp_store_row 36 (.tmp 3) (.tmp 10) rfl (w.heap.size + 1 + 1) (D.map bv).toArray rfl rfl 36 (bA 32 (ofL D)) HR2.out (by rw [b32_size]; simp [HML.out]) (by rw [bA_size]; simp [HML.out]) (bytes_one D) ?_
    refine hK.out _ _ S5.out (fun _ => ?_)
    clear hK K
    try simp only [Act.put, List.getElem_toArray, List.getElem_cons_zero, List.getElem_cons_succ, List.setIfInBounds_toArray, List.set_cons_zero, List.set_cons_succ]
    generalize (W3.setRow (w.heap.size + 1) (E.map bv).toArray).setRow (w.heap.size + 1 + 1) (D.map bv).toArray = W5 at HR3 HR4 HW5 ⊢
    refine wpAnyH_done (by kernel_rfl) ?_ _
    (try simp only [Exit.inBlock, Exit.then])
    go_wp2_with fail
    exact bodyPost_ret (v := .tuple #[.agg (E.map bv).toArray, .agg (D.map bv).toArray]) (results_row_row Tryd.results15 _ _ (w.heap.size + 1) (w.heap.size + 1 + 1) 22 36 (E.map bv).toArray (D.map bv).toArray (0, 0) (0, 0) _ _ rfl HR4.out Tryd.underlying22 rfl (by rw [b16_size]; simp [HEL.out]) rfl HR3.out Tryd.underlying36 rfl (by rw [b32_size]; simp [HML.out])) rfl ⟨by rw [bA_ofL E HEL.out, bA_ofL D HML.out], HW5.out⟩
end Go.Proofs.YtcjbplgjjhenkaaDoor
