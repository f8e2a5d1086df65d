/-
  The fixed examples that every statement of layer 9 checks first are met.
-/
import Derived.Test.YtcjbplgjjhenkaaDoorSm37
import Derived.Test.YtcjbplgjjhenkaaDoorSm28
import Derived.Test.YtcjbplgjjhenkaaDoorSm34
import Derived.Test.YtcjbplgjjhenkaaDoorSm4
import Derived.Test.YtcjbplgjjhenkaaDoorSm36
import Derived.Test.YtcjbplgjjhenkaaDoorSm21
import Derived.Test.YtcjbplgjjhenkaaDoorSm35
/-
  Seal of package seal, by a contract.
-/
namespace Go.Proofs.YtcjbplgjjhenkaaDoor
open Go.RowKit
set_option linter.unusedVariables false
set_option linter.unusedSimpArgs false

/-- Three slices in a new block. -/
theorem memM_three {w : World} {q1 q2 q3 c1 c2 c3 n1 n2 n3 : Nat} {A1 A2 A3 : Option Addr} {l1 l2 l3 : List UInt8} (h1 : Mem w q1 A1 l1) (h2 : Mem w q2 A2 l2) (h3 : Mem w q3 A3 l3) (hn1 : n1 = l1.length) (hn2 : n2 = l2.length) (hn3 : n3 = l3.length) (k1 : l1.length ≤ c1) (k2 : l2.length ≤ c2) (k3 : l3.length ≤ c3) :
    MemM (w.alloc (.cells #[.slice A1 n1 c1, .slice A2 n2 c2, .slice A3 n3 c3] 24)) w.heap.size (some ⟨w.heap.size, 0, none⟩) [l1, l2, l3] := by
  subst hn1 hn2 hn3
  have hb : Below w.heap.size w (w.alloc (.cells #[.slice A1 l1.length c1, .slice A2 l2.length c2, .slice A3 l3.length c3] 24)) := (Below.refl _ w).alloc (Nat.le_refl _) _
  have hB := Blk.new w 24 #[.slice A1 l1.length c1, .slice A2 l2.length c2, .slice A3 l3.length c3]
  refine .inr ⟨0, rfl, fun j l hj => ?_⟩
  rw [hB.cell, Nat.zero_add]
  match j, hj with
  | 0, hj => injection hj with hj; subst hj; exact ⟨A1, q1, c1, rfl, h1.below0 hb, k1⟩
  | 1, hj => injection hj with hj; subst hj; exact ⟨A2, q2, c2, rfl, h2.below0 hb, k2⟩
  | 2, hj => injection hj with hj; subst hj; exact ⟨A3, q3, c3, rfl, h3.below0 hb, k3⟩
set_option maxHeartbeats 4000000 in
set_option maxRecDepth 100000 in
theorem seal_any (w : World) (KK N b : List UInt8) (u : UInt8) (q n c : Nat) (AA : Option Addr) (hKA : KAt w) (hK : KK.length = 16) (hN : N.length = 8) (hn : n = b.length) (hm : Mem w q AA b) (hc : b.length ≤ c) (hl : b.length ≤ 1048576) :
    Calls Tryd.prog 9 #[.agg (bA 16 (ofL KK)), .int .u8 (u.toNat : Int), .agg (bA 8 (ofL N)), .slice AA n c] w fun e w' => ∃ v, e = .returned v ∧ Own w' w.heap.size v (sealS KK u N b) ∧ Below w.heap.size w w' := by
  have HN := kept hn
  have HM := kept hm
  have HKL := kept hK
  have HNL := kept hN
  have KA := kept hKA
  clear hn hm hK hN hKA hc
  go_enter Tryd.func9, Tryd.ntmps9
  go_upto_region 1 with (fail)
  go_name_world W0 hW0
  have H4 := kept (show Blk W0 w.heap.size 22 (bA 16 (ofL KK)) by rw [← hW0]; exact (Blk.new w _ _).alloc _)
  have H6 := kept (show Blk W0 (w.heap.size + 1) 23 (bA 8 (ofL N)) by rw [← hW0]; exact blk_second w _ _ _)
  have HW := kept (show Below w.heap.size w W0 by rw [← hW0]; exact ((Below.refl _ w).alloc (Nat.le_refl _) _).alloc (by simp) _)
  clear hW0
  go_wp2_with (refine wpList_load_row rfl 22 (.tmp 4) rfl w.heap.size rfl 22 (bA 16 (ofL KK)) (0, 0) _ H4.out Tryd.underlying22 rfl (by rw [b16_size, bA_size]) ?_)
  refine (keys_any W0 KK (KA.out.below0 HW.out) HKL.out).mono ?_
  rintro e W1 ⟨rfl, k1⟩
  have hel := keyE_len KK
  have hml := keyM_len KK
  obtain ⟨E, hE⟩ : ∃ E, keyE KK = E := ⟨_, rfl⟩
  obtain ⟨D, hD⟩ : ∃ D, keyM KK = D := ⟨_, rfl⟩
  rw [hE] at hel ⊢
  rw [hD] at hml ⊢
  have HE := kept hE
  have HD := kept hD
  have HEL := kept hel
  have HML := kept hml
  replace H6 := kept (H6.out.below k1 H6.out.lt)
  replace HW := kept (below_next HW.out k1)
  clear k1 hE hD hel hml H4
  have hg1 : w.heap.size + 1 < W1.heap.size := H6.out.lt
  have n9 := kept (show Blk ((W1.alloc (.cells (bA 16 (fun _ => 0)) 22)).alloc (.cells (bA 32 (fun _ => 0)) 36)) W1.heap.size 22 (bA 16 (fun _ => 0)) from (Blk.new W1 _ _).alloc _)
  have n10 := kept (show Blk (((W1.alloc (.cells (bA 16 (fun _ => 0)) 22)).alloc (.cells (bA 32 (fun _ => 0)) 36)).setRow W1.heap.size (bA 16 (ofL E))) (W1.heap.size + 1) 36 (bA 32 (fun _ => 0)) from (blk_second W1 _ _ _).row_far (by omega))
  go_upto_region 2 with (first | (refine wpList_store_row rfl 22 (.tmp 9) (.tmp 16) rfl W1.heap.size (bA 16 (ofL E)) rfl rfl 22 (bA 16 (fun _ => 0)) n9.out (by rw [b16_size, bA_size]) (by rw [bA_size, bA_size]) (bA_one _ _) ?_) | (refine wpList_store_row rfl 36 (.tmp 10) (.tmp 17) rfl (W1.heap.size + 1) (bA 32 (ofL D)) rfl rfl 36 (bA 32 (fun _ => 0)) n10.out (by rw [b32_size, bA_size]) (by rw [bA_size, bA_size]) (bA_one _ _) ?_))
  go_name_world W2 hW2
  have H9 := kept (show Blk W2 W1.heap.size 22 (bA 16 (ofL E)) by rw [← hW2]; exact Blk.row_far (setRow_heap _ _ _ _ _ _ n9.out) (by omega))
  have H10 := kept (show Blk W2 (W1.heap.size + 1) 36 (bA 32 (ofL D)) by rw [← hW2]; exact setRow_heap _ _ _ _ _ _ n10.out)
  have hb12 : Below W1.heap.size W1 W2 := by rw [← hW2]; exact below_setRow (below_setRow (((Below.refl _ W1).alloc (Nat.le_refl _) _).alloc (by simp) _) (Nat.le_refl _) _) (by omega) _
  replace H6 := kept (H6.out.below hb12 H6.out.lt)
  replace HW := kept (below_next HW.out hb12)
  clear hW2 hb12 n9 n10
  generalize W1.heap.size = g9 at hg1 H9 H10 ⊢
  go_wp2_with (first | (refine wpList_load_row rfl 22 (.tmp 9) rfl g9 rfl 22 (bA 16 (ofL E)) (0, 0) _ H9.out Tryd.underlying22 rfl (by rw [b16_size, bA_size]) ?_) | (refine wpList_load_row rfl 23 (.tmp 6) rfl (w.heap.size + 1) rfl 23 (bA 8 (ofL N)) (0, 0) _ H6.out Tryd.underlying23 rfl (by rw [b8_size, bA_size]) ?_))
  refine (ccrypt_any W2 (ofL E) (ofL N) q n c AA b HN.out (HM.out.below0 HW.out) hl).mono ?_
  rintro e W3 ⟨v3, rfl, ho3, k3⟩
  have hxl := sMix_len (cStr (ofL E) (ofL N)) 0 b
  obtain ⟨X, hX⟩ : ∃ X, sMix (cStr (ofL E) (ofL N)) 0 b = X := ⟨_, rfl⟩
  rw [hX] at ho3 hxl
  obtain ⟨A3, q3, c3, hv3, hc3, _, hm3, _, _⟩ := ho3.form
  obtain ⟨nx, hnx⟩ : ∃ nx, X.length = nx := ⟨_, rfl⟩
  rw [hnx] at hv3 hc3
  subst hv3
  have HX := kept hX
  have HXL := kept hxl
  have HNX := kept hnx
  have HC3 := kept hc3
  have MX := kept hm3
  replace H6 := kept (H6.out.below k3 H6.out.lt)
  replace H10 := kept (H10.out.below k3 H10.out.lt)
  replace HW := kept (below_next HW.out k3)
  have KA3 := kept (KA.out.below0 HW.out)
  clear ho3 k3 hX hxl hnx hc3 hm3 H9 hg1
  go_upto_region 3 with (fail)
  generalize g9 + 1 = g10 at H10 ⊢
  have HS := kept (fun (w' : World) (g1 g2 c2 : Nat) (h0 : KAt w') (h1 : Mem w' g1 (some ⟨g1, 0, none⟩) D) (h2 : MemM w' g2 (some ⟨g2, 0, none⟩) [[u], N, X]) => msum_any w' g1 g2 (some ⟨g1, 0, none⟩) (some ⟨g2, 0, none⟩) 32 3 32 3 D [[u], N, X] h0 HML.out.symm h1 (by rw [HML.out]; omega) (by rw [HML.out]; omega) rfl h2 (by simp) (by simp [HNL.out, HXL.out]; omega))
  have hel := hmac_len D [[u], N, X].flatten
  obtain ⟨C, hCe⟩ : ∃ C, hmac D [[u], N, X].flatten = C := ⟨_, rfl⟩
  rw [hCe] at HS hel
  have HCE := kept (show hmac D (u :: (N ++ X)) = C by rw [← hCe]; simp)
  have HCL := kept hel
  clear hCe hel
  have MD := kept (mem_arr H10.out HML.out)
  have MN := kept (mem_arr H6.out HNL.out)
  refine wp_region_flow 8 (fun w' => Below W3.heap.size W3 w') [fun v _ => v = .slice (some ⟨g10, 0, none⟩) 32 32, fun v _ => v = .int .u8 (u.toNat : Int), fun v w' => ∃ g, v = .slice (some ⟨g, 0, none⟩) 1 1 ∧ Mem w' g (some ⟨g, 0, none⟩) [u], fun v _ => v = .slice (some ⟨w.heap.size + 1, 0, none⟩) 8 8, fun v _ => v = .slice A3 nx c3, fun v w' => ∃ g, v = .slice (some ⟨g, 0, none⟩) 3 3 ∧ MemM w' g (some ⟨g, 0, none⟩) [[u], N, X], fun v _ => v = .agg (C.map bv).toArray, fun v w' => ∃ g, v = .pointer (some ⟨g, 0, none⟩) ∧ W3.heap.size ≤ g ∧ Blk w' g 36 (bA 32 (fun _ => 0))] (by kernel_rfl) (by kernel_rfl) rfl (Below.refl _ W3).drew (fun _ _ h k => below_next h k) ?_ ?_ ?_
  · exact stable_cons (stable_eq _) (stable_cons (stable_eq _) (stable_cons (fun v w1 w2 ⟨g, h1, h2⟩ k => ⟨g, h1, h2.below0 k⟩) (stable_cons (stable_eq _) (stable_cons (stable_eq _) (stable_cons (fun v w1 w2 ⟨g, h1, h2⟩ k => ⟨g, h1, h2.below0 k⟩) (stable_cons (stable_eq _) (stable_cons (fun v w1 w2 ⟨g, h1, h2, h3⟩ k => ⟨g, h1, h2, h3.below k h3.lt⟩) (stable_nil))))))))
  · simp only [List.take_succ_cons, List.take_zero]
    refine OweAll.cons ?_ (OweAll.cons ?_ (OweAll.cons ?_ (OweAll.cons ?_ (OweAll.cons ?_ (OweAll.cons ?_ (OweAll.cons ?_ (OweAll.cons ?_ OweAll.nil)))))))
    · intro us w' A hA hC hd K hK
      have ev10 : A.tmps[10]?.getD undef = .pointer (some ⟨g10, 0, none⟩) := by rw [hA]; kernel_rfl
      refine flow_value (.slice (some ⟨g10, 0, none⟩) 32 32) (by rw [hA]; kernel_rfl) ?_ rfl hK
      have hs := slice32_all w' (g10)
      clear hA hd hK
      go_simp
    · intro us w' A hA hC hd K hK
      exact flow_value (.int .u8 (u.toNat : Int)) (by rw [hA]; kernel_rfl) (by rw [hA]; kernel_rfl) rfl hK
    · intro us w' A hA hC hd K hK
      have e1 : us 1 = .int .u8 (u.toNat : Int) := hd 1 (by kernel_rfl)
      have ev23 : A.tmps[23]?.getD undef = us 1 := by rw [hA]; kernel_rfl
      rw [e1] at ev23
      refine flow_make (w1 := w'.alloc (.cells #[.int .u8 (u.toNat : Int)] 5)) (.slice (some ⟨w'.heap.size, 0, none⟩) 1 1) (by rw [hA]; kernel_rfl) ?_ ((Below.refl _ w').alloc (Nat.le_refl _) _) (⟨w'.heap.size, rfl, mem_lit (l := [u]) rfl⟩) hK
      clear hA hd hK
      go_simp
    · intro us w' A hA hC hd K hK
      have ev6 : A.tmps[6]?.getD undef = .pointer (some ⟨w.heap.size + 1, 0, none⟩) := by rw [hA]; kernel_rfl
      refine flow_value (.slice (some ⟨w.heap.size + 1, 0, none⟩) 8 8) (by rw [hA]; kernel_rfl) ?_ rfl hK
      have hs := slice8_all w' (w.heap.size + 1)
      clear hA hd hK
      go_simp
    · intro us w' A hA hC hd K hK
      exact flow_value (.slice A3 nx c3) (by rw [hA]; kernel_rfl) (by rw [hA]; kernel_rfl) rfl hK
    · intro us w' A hA hC hd K hK
      obtain ⟨g2, e2, m2⟩ := hd 2 (by kernel_rfl)
      have e3 : us 3 = .slice (some ⟨w.heap.size + 1, 0, none⟩) 8 8 := hd 3 (by kernel_rfl)
      have e4 : us 4 = .slice A3 nx c3 := hd 4 (by kernel_rfl)
      have ev24 : A.tmps[24]?.getD undef = us 2 := by rw [hA]; kernel_rfl
      rw [e2] at ev24
      have ev25 : A.tmps[25]?.getD undef = us 3 := by rw [hA]; kernel_rfl
      rw [e3] at ev25
      have ev26 : A.tmps[26]?.getD undef = us 4 := by rw [hA]; kernel_rfl
      rw [e4] at ev26
      refine flow_make (w1 := w'.alloc (.cells #[.slice (some ⟨g2, 0, none⟩) 1 1, .slice (some ⟨w.heap.size + 1, 0, none⟩) 8 8, .slice A3 nx c3] 24)) (.slice (some ⟨w'.heap.size, 0, none⟩) 3 3) (by rw [hA]; kernel_rfl) ?_ ((Below.refl _ w').alloc (Nat.le_refl _) _) (⟨w'.heap.size, rfl, memM_three m2 (MN.out.below0 hC) (MX.out.below0 hC) rfl HNL.out.symm HNX.out.symm (by simp) (by rw [HNL.out]; omega) (by rw [HNX.out]; exact HC3.out)⟩) hK
      clear hA hd hK
      go_simp
    · intro us w' A hA hC hd K hK
      have e0 : us 0 = .slice (some ⟨g10, 0, none⟩) 32 32 := hd 0 (by kernel_rfl)
      obtain ⟨g5, e5, m5⟩ := hd 5 (by kernel_rfl)
      refine flow_call 18 #[us 0, us 5] (by rw [hA]; kernel_rfl) (fun _ => by rw [hA]; kernel_rfl) ?_ hK
      rw [e0, e5]
      exact calls_known (HS.out w' g10 g5 3 (KA3.out.below0 hC) (MD.out.below0 hC) m5)
    · intro us w' A hA hC hd K hK
      refine flow_make (w1 := w'.alloc (.cells (bA 32 (fun _ => 0)) 36)) (.pointer (some ⟨w'.heap.size, 0, none⟩)) (by rw [hA]; kernel_rfl) ?_ ((Below.refl _ w').alloc (Nat.le_refl _) _) (⟨w'.heap.size, rfl, hC.size, Blk.new w' _ _⟩) hK
      clear hA hd hK
      go_simp
      rfl
  · intro us w' A hA hC hd
    subst hA
    have e0 : us 0 = .slice (some ⟨g10, 0, none⟩) 32 32 := hd 0 (by omega)
    have e1 : us 1 = .int .u8 (u.toNat : Int) := hd 1 (by omega)
    obtain ⟨g2, e2, m2⟩ := hd 2 (by omega)
    have e3 : us 3 = .slice (some ⟨w.heap.size + 1, 0, none⟩) 8 8 := hd 3 (by omega)
    have e4 : us 4 = .slice A3 nx c3 := hd 4 (by omega)
    obtain ⟨g5, e5, m5⟩ := hd 5 (by omega)
    have e6 : us 6 = .agg (C.map bv).toArray := hd 6 (by omega)
    obtain ⟨g7, e7, l7, m7⟩ := hd 7 (by omega)
    simp only [List.take_succ_cons, List.take_zero, List.drop_succ_cons, List.drop_zero, fillAct, Act.put, Nat.zero_add, Nat.reduceAdd, List.setIfInBounds_toArray, List.set_cons_zero, List.set_cons_succ, e0, e1, e2, e3, e4, e5, e6, e7]
    clear hd 
    have HP := kept m7
    clear e0 e1 e2 e3 e4 e5 e6 e7 m2 m5 m7 HS MD MN H10 KA3
    go_upto_region 4 with (refine wpList_store_row rfl 36 (.tmp 12) (.tmp 28) rfl g7 (C.map bv).toArray rfl rfl 36 (bA 32 (fun _ => 0)) HP.out (by rw [b32_size]; simp [HCL.out]) (by rw [bA_size]; simp [HCL.out]) (bytes_one C) ?_)
    go_name_world W5 hW5
    have hb5 : Below W3.heap.size W3 W5 := hC.trans (by rw [← hW5]; exact below_setRow (Below.refl _ w') l7 _)
    replace H6 := kept (H6.out.below hb5 H6.out.lt)
    have H12 := kept (show Blk W5 g7 36 (C.map bv).toArray by rw [← hW5]; exact setRow_heap _ _ _ _ _ _ HP.out)
    replace MX := kept (MX.out.below0 hb5)
    replace HW := kept (below_next HW.out hb5)
    clear hW5 hb5 HP l7 hC
    have hs32 := kept (fun w' => slice32_h w' g7)
    have MN := kept (mem_arr H6.out HNL.out)
    have MC := kept (show Mem W5 g7 (some ⟨g7, 0, none⟩) (C.take 16) from (mem_blk2 H12.out).take 16)
    have hcl16 : (C.take 16).length = 16 := by rw [List.length_take, HCL.out]; rfl
    obtain ⟨T, hT⟩ : ∃ T, C.take 16 = T := ⟨_, rfl⟩
    rw [hT] at MC hcl16
    have HT := kept hT
    have HTL := kept hcl16
    clear hT hcl16
    have HJ := kept (fun (w' : World) (g2 : Nat) (h2 : MemM w' g2 (some ⟨g2, 0, none⟩) [N, X, T]) => join_any w' g2 (some ⟨g2, 0, none⟩) 3 3 [N, X, T] rfl h2 (by simp) (by simp [HNL.out, HXL.out, HTL.out]; omega))
    obtain ⟨R, hR⟩ : ∃ R, [N, X, T].flatten = R := ⟨_, rfl⟩
    rw [hR] at HJ
    have HR := kept (show sealS KK u N b = R by
      rw [← hR]
      unfold sealS sealC sealF
      rw [HE.out, HD.out, HX.out, HCE.out, HT.out]
      simp)
    clear hR
    try simp only [Act.put, List.getElem_toArray, List.getElem_cons_zero, List.getElem_cons_succ, List.setIfInBounds_toArray, List.set_cons_zero, List.set_cons_succ]
    refine wp_region_flow 5 (fun w' => Below W5.heap.size W5 w') [fun v _ => v = .slice (some ⟨w.heap.size + 1, 0, none⟩) 8 8, fun v _ => v = .slice A3 nx c3, fun v _ => v = .slice (some ⟨g7, 0, none⟩) 16 32, fun v w' => ∃ g, v = .slice (some ⟨g, 0, none⟩) 3 3 ∧ MemM w' g (some ⟨g, 0, none⟩) [N, X, T], fun v w' => Own w' W5.heap.size v R] (by kernel_rfl) (by kernel_rfl) rfl (Below.refl _ W5).drew (fun _ _ h k => below_next h k) ?_ ?_ ?_
    · exact stable_cons (stable_eq _) (stable_cons (stable_eq _) (stable_cons (stable_eq _) (stable_cons (fun v w1 w2 ⟨g, h1, h2⟩ k => ⟨g, h1, h2.below0 k⟩) (stable_cons (stable_own _ _) (stable_nil)))))
    · simp only [List.take_succ_cons, List.take_zero]
      refine OweAll.cons ?_ (OweAll.cons ?_ (OweAll.cons ?_ (OweAll.cons ?_ (OweAll.cons ?_ OweAll.nil))))
      · intro us w' A hA hC hd K hK
        have ev6 : A.tmps[6]?.getD undef = .pointer (some ⟨w.heap.size + 1, 0, none⟩) := by rw [hA]; kernel_rfl
        refine flow_value (.slice (some ⟨w.heap.size + 1, 0, none⟩) 8 8) (by rw [hA]; kernel_rfl) ?_ rfl hK
        have hs := slice8_all w' (w.heap.size + 1)
        clear hA hd hK
        go_simp
      · intro us w' A hA hC hd K hK
        exact flow_value (.slice A3 nx c3) (by rw [hA]; kernel_rfl) (by rw [hA]; kernel_rfl) rfl hK
      · intro us w' A hA hC hd K hK
        have ev12 : A.tmps[12]?.getD undef = .pointer (some ⟨g7, 0, none⟩) := by rw [hA]; kernel_rfl
        refine flow_value (.slice (some ⟨g7, 0, none⟩) 16 32) (by rw [hA]; kernel_rfl) ?_ rfl hK
        have hs := hs32.out w'
        clear hA hd hK
        go_simp
      · intro us w' A hA hC hd K hK
        have e0 : us 0 = .slice (some ⟨w.heap.size + 1, 0, none⟩) 8 8 := hd 0 (by kernel_rfl)
        have e1 : us 1 = .slice A3 nx c3 := hd 1 (by kernel_rfl)
        have e2 : us 2 = .slice (some ⟨g7, 0, none⟩) 16 32 := hd 2 (by kernel_rfl)
        have ev29 : A.tmps[29]?.getD undef = us 0 := by rw [hA]; kernel_rfl
        rw [e0] at ev29
        have ev30 : A.tmps[30]?.getD undef = us 1 := by rw [hA]; kernel_rfl
        rw [e1] at ev30
        have ev31 : A.tmps[31]?.getD undef = us 2 := by rw [hA]; kernel_rfl
        rw [e2] at ev31
        refine flow_make (w1 := w'.alloc (.cells #[.slice (some ⟨w.heap.size + 1, 0, none⟩) 8 8, .slice A3 nx c3, .slice (some ⟨g7, 0, none⟩) 16 32] 24)) (.slice (some ⟨w'.heap.size, 0, none⟩) 3 3) (by rw [hA]; kernel_rfl) ?_ ((Below.refl _ w').alloc (Nat.le_refl _) _) (⟨w'.heap.size, rfl, memM_three (MN.out.below0 hC) (MX.out.below0 hC) (MC.out.below0 hC) HNL.out.symm HNX.out.symm HTL.out.symm (by rw [HNL.out]; omega) (by rw [HNX.out]; exact HC3.out) (by rw [HTL.out]; omega)⟩) hK
        clear hA hd hK
        go_simp
      · intro us w' A hA hC hd K hK
        obtain ⟨g3, e3, m3⟩ := hd 3 (by kernel_rfl)
        refine flow_call 19 #[us 3] (by rw [hA]; kernel_rfl) (fun _ => by rw [hA]; kernel_rfl) ?_ hK
        rw [e3]
        exact (HJ.out w' g3 m3).mono fun e w2 ⟨v, he, ho, hb⟩ => ⟨v, he, ho.mono hC.size, hb⟩
    · intro us w' A hA hC hd
      subst hA
      have e0 : us 0 = .slice (some ⟨w.heap.size + 1, 0, none⟩) 8 8 := hd 0 (by omega)
      have e1 : us 1 = .slice A3 nx c3 := hd 1 (by omega)
      have e2 : us 2 = .slice (some ⟨g7, 0, none⟩) 16 32 := hd 2 (by omega)
      obtain ⟨g3, e3, m3⟩ := hd 3 (by omega)
      have o4 : Own w' W5.heap.size (us 4) R := hd 4 (by omega)
      obtain ⟨A4, q4, c4, e4, hc4, hm4, m4, x4⟩ := o4.form
      simp only [List.take_succ_cons, List.take_zero, List.drop_succ_cons, List.drop_zero, fillAct, Act.put, Nat.zero_add, Nat.reduceAdd, List.setIfInBounds_toArray, List.set_cons_zero, List.set_cons_succ, e0, e1, e2, e3, e4]
      clear hd 
      have hws : w.heap.size ≤ W5.heap.size := HW.out.size
      have HB := kept (below_next HW.out hC)
      rw [e4] at o4
      have HO := kept o4
      clear e0 e1 e2 e3 e4 m3 m4 o4 x4 hc4 hm4 hC
      go_wp2_with fail
      go_ret
      exact ⟨_, rfl, by rw [HR.out]; exact HO.out.mono hws, HB.out⟩
end Go.Proofs.YtcjbplgjjhenkaaDoor
/-
  Open of package seal, by a contract.
-/
namespace Go.Proofs.YtcjbplgjjhenkaaDoor
open Go.RowKit
set_option linter.unusedVariables false
set_option linter.unusedSimpArgs false

/-- Whether a code is right, as the contract of Check says it. -/
theorem sealO_chk (K s D : List UInt8) (u : UInt8) (N M C : List UInt8) (h24 : 24 ≤ s.length) (hD : keyM K = D) (hf : N ++ M = s.take (s.length - 16)) (hC : s.drop (s.length - 16) = C) : sealO K u s = if chkB C (hmac D [[u], N, M].flatten) = true then some (sealB K s) else none := by
  have hcl : C.length = 16 := by rw [← hC, List.length_drop]; omega
  unfold sealO sealC chkB sameB
  rw [← hf, hC, hD, hcl, show [[u], N, M].flatten = u :: (N ++ M) by simp]
  by_cases h : C = List.take 16 (hmac D (u :: (N ++ M)))
  · rw [if_pos ⟨h24, h⟩, if_pos (by simp [← h])]
  · rw [if_neg (fun x => h x.2), if_neg (by simp [h])]
set_option maxHeartbeats 4000000 in
set_option maxRecDepth 100000 in
theorem open_any (w : World) (KK s : List UInt8) (u : UInt8) (q n c : Nat) (AA : Option Addr) (hKA : KAt w) (hK : KK.length = 16) (hn : n = s.length) (hm : Mem w q AA s) (hc : s.length ≤ c) (hl : s.length ≤ 1048600) :
    Calls Tryd.prog 12 #[.agg (bA 16 (ofL KK)), .int .u8 (u.toNat : Int), .slice AA n c] w fun e w' => ∃ v, e = .returned (.tuple #[v, .bool (sealO KK u s).isSome]) ∧ Own w' w.heap.size v ((sealO KK u s).getD []) ∧ Below w.heap.size w w' := by
  by_cases h24 : s.length < 24
  · rw [sealO_short KK u s h24]
    have h1 : n < 24 := by omega
    clear hn hm hc hl h24 hKA hK
    go_enter Tryd.func12, Tryd.ntmps12
    go_upto_region 1 with (fail)
    go_name_world W0 hW0
    have HW := kept (show Below w.heap.size w W0 by rw [← hW0]; exact (Below.refl _ w).alloc (Nat.le_refl _) _)
    clear hW0
    go_wp2_with fail
    refine (divide_no W0 n c AA h1).mono ?_
    rintro e W1 ⟨rfl, k1⟩
    replace HW := kept (below_next HW.out k1)
    clear k1
    go_upto_region 2 with (refine wpList_store_row rfl 47 (.tmp 8) (.tmp 15) rfl W1.heap.size divZ rfl rfl 47 divZ (Blk.new W1 _ _) (by rw [parts_size]; rfl) rfl divZ_one ?_)
    go_name_world W2 hW2
    replace HW := kept (below_next HW.out (show Below W1.heap.size W1 W2 by rw [← hW2]; exact below_setRow ((Below.refl _ W1).alloc (Nat.le_refl _) _) (Nat.le_refl _) _))
    clear hW2
    go_wp2_with fail
    go_ret2
    exact ⟨_, rfl, Own.nil_ _ _, HW.out⟩
  have hdl := sealO_chk KK s (keyM KK) u (s.take 8) ((s.take (s.length - 16)).drop 8) (s.drop (s.length - 16)) (by omega) rfl (by
    rw [show s.take 8 = (s.take (s.length - 16)).take 8 by rw [List.take_take]; congr 1; omega]
    exact List.take_append_drop 8 _) rfl
  obtain ⟨o, rfl⟩ := hm.head (by omega)
  have HN := kept hn
  have HM := kept hm
  have HKL := kept hK
  have KA := kept hKA
  have h1 : 24 ≤ n := by omega
  have h2 : n ≤ 1048600 := by omega
  have h3 : n ≤ c := by omega
  have HNL := kept (show (s.take 8).length = 8 by rw [List.length_take]; omega)
  have HMN := kept (hm.take 8)
  have HMM := kept hm.midA
  have HMC := kept (hm.drop_at (s.length - 16))
  rw [← hn] at HMC HMM
  have HML := kept (show ((s.take (s.length - 16)).drop 8).length = n - 24 by rw [List.length_drop, List.length_take]; omega)
  have HCL := kept (show (s.drop (s.length - 16)).length = 16 by rw [List.length_drop]; omega)
  have HB := kept (show sealB KK s = sMix (cStr (ofL (keyE KK)) (ofL (s.take 8))) 0 ((s.take (s.length - 16)).drop 8) from rfl)
  rw [← hn] at hdl HML HCL HB
  obtain ⟨N, hN⟩ : ∃ N, s.take 8 = N := ⟨_, rfl⟩
  obtain ⟨M, hM⟩ : ∃ M, (s.take (n - 16)).drop 8 = M := ⟨_, rfl⟩
  obtain ⟨C, hC⟩ : ∃ C, s.drop (n - 16) = C := ⟨_, rfl⟩
  obtain ⟨E, hE⟩ : ∃ E, keyE KK = E := ⟨_, rfl⟩
  obtain ⟨D, hD⟩ : ∃ D, keyM KK = D := ⟨_, rfl⟩
  have HEL := kept (keyE_len KK)
  have HDL := kept (keyM_len KK)
  have HKY := kept (fun (w' : World) (hk : KAt w') => keys_any w' KK hk HKL.out)
  rw [hE] at HEL HKY HB
  rw [hD] at hdl HDL HKY
  rw [hN] at hdl HNL HMN HB
  rw [hM] at hdl HML HMM HB
  rw [hC] at hdl HCL HMC
  have HS := kept hdl
  clear hN hM hC hE hD hdl hn hm hc hl h24 hKA hK
  go_enter Tryd.func12, Tryd.ntmps12
  go_upto_region 1 with (fail)
  go_name_world W0 hW0
  have H3 := kept (show Blk W0 w.heap.size 22 (bA 16 (ofL KK)) by rw [← hW0]; exact Blk.new w _ _)
  have HW := kept (show Below w.heap.size w W0 by rw [← hW0]; exact (Below.refl _ w).alloc (Nat.le_refl _) _)
  clear hW0
  go_wp2_with fail
  refine (divide_yes W0 q o n c h1 h2 h3).mono ?_
  rintro e W1 ⟨rfl, k1⟩
  replace H3 := kept (H3.out.below k1 H3.out.lt)
  replace HW := kept (below_next HW.out k1)
  have hg3 : w.heap.size < W1.heap.size := H3.out.lt
  clear k1
  go_upto_region 2 with (refine wpList_store_row rfl 47 (.tmp 8) (.tmp 15) rfl W1.heap.size (divC q o n) rfl rfl 47 divZ (Blk.new W1 _ _) (by rw [parts_size]; rfl) rfl (divC_one _ _ _) ?_)
  go_name_world W2 hW2
  replace H3 := kept (show Blk W2 w.heap.size 22 (bA 16 (ofL KK)) by rw [← hW2]; exact (H3.out.alloc _).row_far (by omega))
  have H8 := kept (show Blk W2 W1.heap.size 47 (divC q o n) by rw [← hW2]; exact setRow_heap _ _ _ _ _ _ (Blk.new W1 _ _))
  replace HW := kept (below_next HW.out (show Below W1.heap.size W1 W2 by rw [← hW2]; exact below_setRow ((Below.refl _ W1).alloc (Nat.le_refl _) _) (Nat.le_refl _) _))
  clear hW2
  generalize W1.heap.size = g8 at H8 hg3 ⊢
  go_wp2_with (refine wpList_load_row rfl 22 (.tmp 3) rfl w.heap.size rfl 22 (bA 16 (ofL KK)) (0, 0) _ H3.out Tryd.underlying22 rfl (by rw [b16_size, bA_size]) ?_)
  refine (HKY.out W2 (KA.out.below0 HW.out)).mono ?_
  rintro e W3 ⟨rfl, k3⟩
  replace H8 := kept (H8.out.below k3 H8.out.lt)
  replace HW := kept (below_next HW.out k3)
  have hg8 : g8 < W3.heap.size := H8.out.lt
  clear k3 H3 HKY hg3
  have n9 := kept (show Blk ((W3.alloc (.cells (bA 16 (fun _ => 0)) 22)).alloc (.cells (bA 32 (fun _ => 0)) 36)) W3.heap.size 22 (bA 16 (fun _ => 0)) from (Blk.new W3 _ _).alloc _)
  have n10 := kept (show Blk (((W3.alloc (.cells (bA 16 (fun _ => 0)) 22)).alloc (.cells (bA 32 (fun _ => 0)) 36)).setRow W3.heap.size (bA 16 (ofL E))) (W3.heap.size + 1) 36 (bA 32 (fun _ => 0)) from (blk_second W3 _ _ _).row_far (by omega))
  go_upto_region 5 with (first | (refine wpList_store_row rfl 22 (.tmp 10) (.tmp 22) rfl W3.heap.size (bA 16 (ofL E)) rfl rfl 22 (bA 16 (fun _ => 0)) n9.out (by rw [b16_size, bA_size]) (by rw [bA_size, bA_size]) (bA_one _ _) ?_) | (refine wpList_store_row rfl 36 (.tmp 11) (.tmp 23) rfl (W3.heap.size + 1) (bA 32 (ofL D)) rfl rfl 36 (bA 32 (fun _ => 0)) n10.out (by rw [b32_size, bA_size]) (by rw [bA_size, bA_size]) (bA_one _ _) ?_))
  go_name_world W4 hW4
  have H10 := kept (show Blk W4 W3.heap.size 22 (bA 16 (ofL E)) by rw [← hW4]; exact Blk.row_far (setRow_heap _ _ _ _ _ _ n9.out) (by omega))
  have H11 := kept (show Blk W4 (W3.heap.size + 1) 36 (bA 32 (ofL D)) by rw [← hW4]; exact setRow_heap _ _ _ _ _ _ n10.out)
  have hb4 : Below W3.heap.size W3 W4 := by rw [← hW4]; exact below_setRow (below_setRow (((Below.refl _ W3).alloc (Nat.le_refl _) _).alloc (by simp) _) (Nat.le_refl _) _) (by omega) _
  replace H8 := kept (H8.out.below hb4 H8.out.lt)
  replace HW := kept (below_next HW.out hb4)
  clear hW4 hb4 n9 n10 hg8
  generalize W3.heap.size = g10 at H10 H11 ⊢
  generalize g10 + 1 = g11 at H11 ⊢
  have KA4 := kept (KA.out.below0 HW.out)
  have MD := kept (mem_arr H11.out HDL.out)
  have MN := kept (HMN.out.below0 HW.out)
  have MM := kept (HMM.out.below0 HW.out)
  have MC := kept (HMC.out.below0 HW.out)
  have RC0 := kept (show ∀ w', Below W4.heap.size W4 w' → w'.cell? ⟨g8, 0, none⟩ = some (.slice (some ⟨q, o, none⟩) 8 8) from fun w' h => by rw [(H8.out.below h H8.out.lt).cell]; rfl)
  have RC1 := kept (show ∀ w', Below W4.heap.size W4 w' → w'.cell? ⟨g8, 1, none⟩ = some (.slice (midA q o n) (n - 24) (n - 24)) from fun w' h => by rw [(H8.out.below h H8.out.lt).cell]; rfl)
  have RC2 := kept (show ∀ w', Below W4.heap.size W4 w' → w'.cell? ⟨g8, 2, none⟩ = some (.slice (some ⟨q, o + (n - 16), none⟩) 16 16) from fun w' h => by rw [(H8.out.below h H8.out.lt).cell]; rfl)
  have HCK := kept (fun (w' : World) (g2 : Nat) (h0 : KAt w') (k1 : Mem w' g11 (some ⟨g11, 0, none⟩) D) (k2 : MemM w' g2 (some ⟨g2, 0, none⟩) [[u], N, M]) (k3 : Mem w' q (some ⟨q, o + (n - 16), none⟩) C) => check_any w' g11 g2 q (some ⟨g11, 0, none⟩) (some ⟨g2, 0, none⟩) (some ⟨q, o + (n - 16), none⟩) 32 3 16 32 3 16 D C [[u], N, M] h0 HDL.out.symm k1 (by rw [HDL.out]; omega) (by rw [HDL.out]; omega) HCL.out.symm k3 (by rw [HCL.out]; omega) rfl k2 (by simp) (by simp [HNL.out, HML.out]; omega))
  obtain ⟨CB, hCB⟩ : ∃ CB, chkB C (hmac D [[u], N, M].flatten) = CB := ⟨_, rfl⟩
  rw [hCB] at HS HCK
  clear hCB
  refine wp_region_flow 12 (fun w' => Below W4.heap.size W4 w') [fun v _ => v = .slice (some ⟨g11, 0, none⟩) 32 32, fun v _ => v = .pointer (some ⟨g8, 2, none⟩), fun v _ => v = .slice (some ⟨q, o + (n - 16), none⟩) 16 16, fun v _ => v = .int .u8 (u.toNat : Int), fun v w' => ∃ g, v = .slice (some ⟨g, 0, none⟩) 1 1 ∧ Mem w' g (some ⟨g, 0, none⟩) [u], fun v _ => v = .pointer (some ⟨g8, 0, none⟩), fun v _ => v = .slice (some ⟨q, o, none⟩) 8 8, fun v _ => v = .pointer (some ⟨g8, 1, none⟩), fun v _ => v = .slice (midA q o n) (n - 24) (n - 24), fun v w' => ∃ g, v = .slice (some ⟨g, 0, none⟩) 3 3 ∧ MemM w' g (some ⟨g, 0, none⟩) [[u], N, M], fun v _ => v = .bool CB, fun v _ => v = .bool (!CB)] (by kernel_rfl) (by kernel_rfl) rfl (Below.refl _ W4).drew (fun _ _ h k => below_next h k) ?_ ?_ ?_
  · exact stable_cons (stable_eq _) (stable_cons (stable_eq _) (stable_cons (stable_eq _) (stable_cons (stable_eq _) (stable_cons (fun v w1 w2 ⟨g, h1, h2⟩ k => ⟨g, h1, h2.below0 k⟩) (stable_cons (stable_eq _) (stable_cons (stable_eq _) (stable_cons (stable_eq _) (stable_cons (stable_eq _) (stable_cons (fun v w1 w2 ⟨g, h1, h2⟩ k => ⟨g, h1, h2.below0 k⟩) (stable_cons (stable_eq _) (stable_cons (stable_eq _) (stable_nil))))))))))))
  · simp only [List.take_succ_cons, List.take_zero]
    refine OweAll.cons ?_ (OweAll.cons ?_ (OweAll.cons ?_ (OweAll.cons ?_ (OweAll.cons ?_ (OweAll.cons ?_ (OweAll.cons ?_ (OweAll.cons ?_ (OweAll.cons ?_ (OweAll.cons ?_ (OweAll.cons ?_ (OweAll.cons ?_ OweAll.nil)))))))))))
    · intro us w' A hA hC hd K hK
      have ev11 : A.tmps[11]?.getD undef = .pointer (some ⟨g11, 0, none⟩) := by rw [hA]; kernel_rfl
      refine flow_value (.slice (some ⟨g11, 0, none⟩) 32 32) (by rw [hA]; kernel_rfl) ?_ rfl hK
      have hs := slice32_all w' (g11)
      clear hA hd hK
      go_simp
    · intro us w' A hA hC hd K hK
      have ev8 : A.tmps[8]?.getD undef = .pointer (some ⟨g8, 0, none⟩) := by rw [hA]; kernel_rfl
      refine flow_value (.pointer (some ⟨g8, 2, none⟩)) (by rw [hA]; kernel_rfl) ?_ rfl hK
      clear hA hd hK
      go_simp
    · intro us w' A hA hC hd K hK
      have e1 : us 1 = .pointer (some ⟨g8, 2, none⟩) := hd 1 (by kernel_rfl)
      have ev25 : A.eval (.tmp 25) = us 1 := by rw [hA]; kernel_rfl
      rw [e1] at ev25
      exact flow_cell (φ := fun v _ => v = .slice (some ⟨q, o + (n - 16), none⟩) 16 16) (by rw [hA]; kernel_rfl) 24 (.tmp 25) rfl g8 2 ev25 _ _ (RC2.out w' hC) Tryd.underlying24 rfl rfl hK
    · intro us w' A hA hC hd K hK
      exact flow_value (.int .u8 (u.toNat : Int)) (by rw [hA]; kernel_rfl) (by rw [hA]; kernel_rfl) rfl hK
    · intro us w' A hA hC hd K hK
      have e3 : us 3 = .int .u8 (u.toNat : Int) := hd 3 (by kernel_rfl)
      have ev27 : A.tmps[27]?.getD undef = us 3 := by rw [hA]; kernel_rfl
      rw [e3] at ev27
      refine flow_make (w1 := w'.alloc (.cells #[.int .u8 (u.toNat : Int)] 5)) (.slice (some ⟨w'.heap.size, 0, none⟩) 1 1) (by rw [hA]; kernel_rfl) ?_ ((Below.refl _ w').alloc (Nat.le_refl _) _) (⟨w'.heap.size, rfl, mem_lit (l := [u]) rfl⟩) hK
      clear hA hd hK
      go_simp
    · intro us w' A hA hC hd K hK
      have ev8 : A.tmps[8]?.getD undef = .pointer (some ⟨g8, 0, none⟩) := by rw [hA]; kernel_rfl
      refine flow_value (.pointer (some ⟨g8, 0, none⟩)) (by rw [hA]; kernel_rfl) ?_ rfl hK
      clear hA hd hK
      go_simp
    · intro us w' A hA hC hd K hK
      have e5 : us 5 = .pointer (some ⟨g8, 0, none⟩) := hd 5 (by kernel_rfl)
      have ev29 : A.eval (.tmp 29) = us 5 := by rw [hA]; kernel_rfl
      rw [e5] at ev29
      exact flow_cell (φ := fun v _ => v = .slice (some ⟨q, o, none⟩) 8 8) (by rw [hA]; kernel_rfl) 24 (.tmp 29) rfl g8 0 ev29 _ _ (RC0.out w' hC) Tryd.underlying24 rfl rfl hK
    · intro us w' A hA hC hd K hK
      have ev8 : A.tmps[8]?.getD undef = .pointer (some ⟨g8, 0, none⟩) := by rw [hA]; kernel_rfl
      refine flow_value (.pointer (some ⟨g8, 1, none⟩)) (by rw [hA]; kernel_rfl) ?_ rfl hK
      clear hA hd hK
      go_simp
    · intro us w' A hA hC hd K hK
      have e7 : us 7 = .pointer (some ⟨g8, 1, none⟩) := hd 7 (by kernel_rfl)
      have ev31 : A.eval (.tmp 31) = us 7 := by rw [hA]; kernel_rfl
      rw [e7] at ev31
      exact flow_cell (φ := fun v _ => v = .slice (midA q o n) (n - 24) (n - 24)) (by rw [hA]; kernel_rfl) 24 (.tmp 31) rfl g8 1 ev31 _ _ (RC1.out w' hC) Tryd.underlying24 rfl rfl hK
    · intro us w' A hA hC hd K hK
      obtain ⟨g4, e4, m4⟩ := hd 4 (by kernel_rfl)
      have e6 : us 6 = .slice (some ⟨q, o, none⟩) 8 8 := hd 6 (by kernel_rfl)
      have e8 : us 8 = .slice (midA q o n) (n - 24) (n - 24) := hd 8 (by kernel_rfl)
      have ev28 : A.tmps[28]?.getD undef = us 4 := by rw [hA]; kernel_rfl
      rw [e4] at ev28
      have ev30 : A.tmps[30]?.getD undef = us 6 := by rw [hA]; kernel_rfl
      rw [e6] at ev30
      have ev32 : A.tmps[32]?.getD undef = us 8 := by rw [hA]; kernel_rfl
      rw [e8] at ev32
      refine flow_make (w1 := w'.alloc (.cells #[.slice (some ⟨g4, 0, none⟩) 1 1, .slice (some ⟨q, o, none⟩) 8 8, .slice (midA q o n) (n - 24) (n - 24)] 24)) (.slice (some ⟨w'.heap.size, 0, none⟩) 3 3) (by rw [hA]; kernel_rfl) ?_ ((Below.refl _ w').alloc (Nat.le_refl _) _) (⟨w'.heap.size, rfl, memM_three m4 (MN.out.below0 hC) (MM.out.below0 hC) rfl HNL.out.symm HML.out.symm (by simp) (by rw [HNL.out]; omega) (by rw [HML.out]; omega)⟩) hK
      clear hA hd hK
      go_simp
    · intro us w' A hA hC hd K hK
      have e0 : us 0 = .slice (some ⟨g11, 0, none⟩) 32 32 := hd 0 (by kernel_rfl)
      have e2 : us 2 = .slice (some ⟨q, o + (n - 16), none⟩) 16 16 := hd 2 (by kernel_rfl)
      obtain ⟨g9, e9, m9⟩ := hd 9 (by kernel_rfl)
      refine flow_call 23 #[us 0, us 2, us 9] (by rw [hA]; kernel_rfl) (fun _ => by rw [hA]; kernel_rfl) ?_ hK
      rw [e0, e2, e9]
      exact calls_known (HCK.out w' g9 (KA4.out.below0 hC) (MD.out.below0 hC) m9 (MC.out.below0 hC))
    · intro us w' A hA hC hd K hK
      have e10 : us 10 = .bool CB := hd 10 (by kernel_rfl)
      have ev34 : A.tmps[34]?.getD undef = us 10 := by rw [hA]; kernel_rfl
      rw [e10] at ev34
      refine flow_value (.bool (!CB)) (by rw [hA]; kernel_rfl) ?_ rfl hK
      clear hA hd hK
      go_simp
  · intro us w' A hA hC hd
    subst hA
    have e0 : us 0 = .slice (some ⟨g11, 0, none⟩) 32 32 := hd 0 (by omega)
    have e1 : us 1 = .pointer (some ⟨g8, 2, none⟩) := hd 1 (by omega)
    have e2 : us 2 = .slice (some ⟨q, o + (n - 16), none⟩) 16 16 := hd 2 (by omega)
    have e3 : us 3 = .int .u8 (u.toNat : Int) := hd 3 (by omega)
    obtain ⟨g4, e4, m4⟩ := hd 4 (by omega)
    have e5 : us 5 = .pointer (some ⟨g8, 0, none⟩) := hd 5 (by omega)
    have e6 : us 6 = .slice (some ⟨q, o, none⟩) 8 8 := hd 6 (by omega)
    have e7 : us 7 = .pointer (some ⟨g8, 1, none⟩) := hd 7 (by omega)
    have e8 : us 8 = .slice (midA q o n) (n - 24) (n - 24) := hd 8 (by omega)
    obtain ⟨g9, e9, m9⟩ := hd 9 (by omega)
    have e10 : us 10 = .bool CB := hd 10 (by omega)
    have e11 : us 11 = .bool (!CB) := hd 11 (by omega)
    simp only [List.take_succ_cons, List.take_zero, List.drop_succ_cons, List.drop_zero, fillAct, Act.put, Nat.zero_add, Nat.reduceAdd, List.setIfInBounds_toArray, List.set_cons_zero, List.set_cons_succ, e0, e1, e2, e3, e4, e5, e6, e7, e8, e9, e10, e11]
    clear hd 
    replace H10 := kept (H10.out.below hC H10.out.lt)
    replace H8 := kept (H8.out.below hC H8.out.lt)
    replace MN := kept (MN.out.below0 hC)
    replace MM := kept (MM.out.below0 hC)
    replace HW := kept (below_next HW.out hC)
    clear e0 e1 e2 e3 e4 e5 e6 e7 e8 e9 e10 e11 m4 m9 RC0 RC1 RC2 HCK MD MC H11 KA4 hC HMN HMM HMC HM
    obtain ⟨W6, hW6⟩ : ∃ W6, W6 = w' := ⟨_, rfl⟩
    subst hW6
    cases CB with
    | false =>
      replace HS := kept (show sealO KK u s = none by rw [HS.out]; rfl)
      go_wp2_with fail
      go_ret2
      exact ⟨_, by rw [HS.out]; rfl, by rw [HS.out]; exact Own.nil_ _ _, HW.out⟩
    | true =>
      replace HS := kept (show sealO KK u s = some (sealB KK s) by rw [HS.out]; rfl)
      go_upto_region 7 with (fail)
      have RC0 := kept (show ∀ w', Below W6.heap.size W6 w' → w'.cell? ⟨g8, 0, none⟩ = some (.slice (some ⟨q, o, none⟩) 8 8) from fun w' h => by rw [(H8.out.below h H8.out.lt).cell]; rfl)
      have RC1 := kept (show ∀ w', Below W6.heap.size W6 w' → w'.cell? ⟨g8, 1, none⟩ = some (.slice (midA q o n) (n - 24) (n - 24)) from fun w' h => by rw [(H8.out.below h H8.out.lt).cell]; rfl)
      have RE := kept (show ∀ w', Below W6.heap.size W6 w' → w'.rangeAt g10 0 (bA 16 (ofL E)).toList from fun w' h => (H10.out.below h H10.out.lt).range)
      have RN := kept (show ∀ w', Below W6.heap.size W6 w' → w'.rangeAt q o (bA 8 (ofL N)).toList from fun w' h => by rw [toList_ofL N HNL.out]; exact mem_range (MN.out.below0 h))
      have HCR := kept (fun (w' : World) (k : Mem w' q (midA q o n) M) => ccrypt_any w' (ofL E) (ofL N) q (n - 24) (n - 24) (midA q o n) M HML.out.symm k (by rw [HML.out]; omega))
      rw [← HB.out] at HCR
      obtain ⟨B, hBB⟩ : ∃ B, sealB KK s = B := ⟨_, rfl⟩
      rw [hBB] at HCR HS
      clear hBB HB
      refine wp_region_flow 8 (fun w' => Below W6.heap.size W6 w') [fun v _ => v = .agg (bA 16 (ofL E)), fun v _ => v = .pointer (some ⟨g8, 0, none⟩), fun v _ => v = .slice (some ⟨q, o, none⟩) 8 8, fun v _ => v = .pointer (some ⟨q, o, none⟩), fun v _ => v = .agg (bA 8 (ofL N)), fun v _ => v = .pointer (some ⟨g8, 1, none⟩), fun v _ => v = .slice (midA q o n) (n - 24) (n - 24), fun v w' => Own w' W6.heap.size v B] (by kernel_rfl) (by kernel_rfl) rfl (Below.refl _ W6).drew (fun _ _ h k => below_next h k) ?_ ?_ ?_
      · exact stable_cons (stable_eq _) (stable_cons (stable_eq _) (stable_cons (stable_eq _) (stable_cons (stable_eq _) (stable_cons (stable_eq _) (stable_cons (stable_eq _) (stable_cons (stable_eq _) (stable_cons (stable_own _ _) (stable_nil))))))))
      · simp only [List.take_succ_cons, List.take_zero]
        refine OweAll.cons ?_ (OweAll.cons ?_ (OweAll.cons ?_ (OweAll.cons ?_ (OweAll.cons ?_ (OweAll.cons ?_ (OweAll.cons ?_ (OweAll.cons ?_ OweAll.nil)))))))
        · intro us w' A hA hC hd K hK
          exact flow_load (φ := fun v _ => v = .agg (bA 16 (ofL E))) (by rw [hA]; kernel_rfl) 22 (.tmp 10) rfl g10 0 (by rw [hA]; kernel_rfl) (bA 16 (ofL E)).toList _ (RE.out w' hC) Tryd.underlying22 rfl (s16_len _) rfl hK
        · intro us w' A hA hC hd K hK
          have ev8 : A.tmps[8]?.getD undef = .pointer (some ⟨g8, 0, none⟩) := by rw [hA]; kernel_rfl
          refine flow_value (.pointer (some ⟨g8, 0, none⟩)) (by rw [hA]; kernel_rfl) ?_ rfl hK
          clear hA hd hK
          go_simp
        · intro us w' A hA hC hd K hK
          have e1 : us 1 = .pointer (some ⟨g8, 0, none⟩) := hd 1 (by kernel_rfl)
          have ev37 : A.eval (.tmp 37) = us 1 := by rw [hA]; kernel_rfl
          rw [e1] at ev37
          exact flow_cell (φ := fun v _ => v = .slice (some ⟨q, o, none⟩) 8 8) (by rw [hA]; kernel_rfl) 24 (.tmp 37) rfl g8 0 ev37 _ _ (RC0.out w' hC) Tryd.underlying24 rfl rfl hK
        · intro us w' A hA hC hd K hK
          have e2 : us 2 = .slice (some ⟨q, o, none⟩) 8 8 := hd 2 (by kernel_rfl)
          have ev38 : A.tmps[38]?.getD undef = us 2 := by rw [hA]; kernel_rfl
          rw [e2] at ev38
          refine flow_value (.pointer (some ⟨q, o, none⟩)) (by rw [hA]; kernel_rfl) ?_ rfl hK
          have ha := arr8 w' (some ⟨q, o, none⟩) 8 8 (Nat.le_refl _)
          clear hA hd hK
          go_simp
        · intro us w' A hA hC hd K hK
          have e3 : us 3 = .pointer (some ⟨q, o, none⟩) := hd 3 (by kernel_rfl)
          have ev39 : A.eval (.tmp 39) = us 3 := by rw [hA]; kernel_rfl
          rw [e3] at ev39
          exact flow_load (φ := fun v _ => v = .agg (bA 8 (ofL N))) (by rw [hA]; kernel_rfl) 23 (.tmp 39) rfl q o ev39 (bA 8 (ofL N)).toList _ (RN.out w' hC) Tryd.underlying23 rfl (s8_ln _) rfl hK
        · intro us w' A hA hC hd K hK
          have ev8 : A.tmps[8]?.getD undef = .pointer (some ⟨g8, 0, none⟩) := by rw [hA]; kernel_rfl
          refine flow_value (.pointer (some ⟨g8, 1, none⟩)) (by rw [hA]; kernel_rfl) ?_ rfl hK
          clear hA hd hK
          go_simp
        · intro us w' A hA hC hd K hK
          have e5 : us 5 = .pointer (some ⟨g8, 1, none⟩) := hd 5 (by kernel_rfl)
          have ev41 : A.eval (.tmp 41) = us 5 := by rw [hA]; kernel_rfl
          rw [e5] at ev41
          exact flow_cell (φ := fun v _ => v = .slice (midA q o n) (n - 24) (n - 24)) (by rw [hA]; kernel_rfl) 24 (.tmp 41) rfl g8 1 ev41 _ _ (RC1.out w' hC) Tryd.underlying24 rfl rfl hK
        · intro us w' A hA hC hd K hK
          have e0 : us 0 = .agg (bA 16 (ofL E)) := hd 0 (by kernel_rfl)
          have e4 : us 4 = .agg (bA 8 (ofL N)) := hd 4 (by kernel_rfl)
          have e6 : us 6 = .slice (midA q o n) (n - 24) (n - 24) := hd 6 (by kernel_rfl)
          refine flow_call 17 #[us 0, us 4, us 6] (by rw [hA]; kernel_rfl) (fun _ => by rw [hA]; kernel_rfl) ?_ hK
          rw [e0, e4, e6]
          exact (HCR.out w' (MM.out.below0 hC)).mono fun e w2 ⟨v, he, ho, hb⟩ => ⟨v, he, ho.mono hC.size, hb⟩
      · intro us w' A hA hC hd
        subst hA
        have e0 : us 0 = .agg (bA 16 (ofL E)) := hd 0 (by omega)
        have e1 : us 1 = .pointer (some ⟨g8, 0, none⟩) := hd 1 (by omega)
        have e2 : us 2 = .slice (some ⟨q, o, none⟩) 8 8 := hd 2 (by omega)
        have e3 : us 3 = .pointer (some ⟨q, o, none⟩) := hd 3 (by omega)
        have e4 : us 4 = .agg (bA 8 (ofL N)) := hd 4 (by omega)
        have e5 : us 5 = .pointer (some ⟨g8, 1, none⟩) := hd 5 (by omega)
        have e6 : us 6 = .slice (midA q o n) (n - 24) (n - 24) := hd 6 (by omega)
        have o7 : Own w' W6.heap.size (us 7) B := hd 7 (by omega)
        obtain ⟨A7, q7, c7, e7, hc7, hm7, m7, x7⟩ := o7.form
        simp only [List.take_succ_cons, List.take_zero, List.drop_succ_cons, List.drop_zero, fillAct, Act.put, Nat.zero_add, Nat.reduceAdd, List.setIfInBounds_toArray, List.set_cons_zero, List.set_cons_succ, e0, e1, e2, e3, e4, e5, e6, e7]
        clear hd 
        have hws : w.heap.size ≤ W6.heap.size := HW.out.size
        have HBW := kept (below_next HW.out hC)
        rw [e7] at o7
        have HO := kept o7
        clear e0 e1 e2 e3 e4 e5 e6 e7 m7 o7 x7 hc7 hm7 hC
        go_wp2_with fail
        go_ret2
        exact ⟨_, by rw [HS.out]; rfl, by rw [HS.out]; exact HO.out.mono hws, HBW.out⟩
end Go.Proofs.YtcjbplgjjhenkaaDoor
/-
  Package seal: all four contracts.
-/
namespace Go.Proofs.YtcjbplgjjhenkaaDoor
open Go.RowKit
set_option linter.unusedVariables false
set_option linter.unusedSimpArgs false

end Go.Proofs.YtcjbplgjjhenkaaDoor
namespace Go.Proofs.YtcjbplgjjhenkaaDoor
open Go.RowKit
set_option linter.unusedVariables false
set_option linter.unusedSimpArgs false

theorem wpList_builtA_w {P : Program} {ops : Array Oper} {rest : List Oper} {o : Oper} {a : Act} {w : World} {Q : Exit → Act → World → Prop} (hw : Region.wanted o (yielded ops a.tmps) = true) (t : TypeId) (parts : Array (Nat × Operand)) (ho : o.op = .build t parts) (ps : List (Nat × Value)) (cells : Array Value)
    (hp : (parts.toList.map fun (i, x) => (i, a.eval x)) = ps) (hb : P.built t ps = some cells) (h : wpList P ops Q rest (a.put o.dst (.agg cells)) w) : wpList P ops Q (o :: rest) a w := by
  have e : P.built t (parts.map fun (i, x) => (i, a.eval x)).toList = some cells := by rw [Array.toList_map, hp]; exact hb
  exact wpList_step fun K hK => by
    rw [if_pos hw]
    exact wp_build t parts ho (by rw [e]; rfl) (by rw [e]; exact hK _ _ h)
theorem built_exK : Tryd.prog.built 22 [(0, .int .u8 7)] = some (bA 16 (ofL exK)) := by kernel_rfl
theorem built_exN : Tryd.prog.built 23 [(0, .int .u8 1)] = some (bA 8 (ofL exN)) := by kernel_rfl
set_option maxHeartbeats 4000000 in
set_option maxRecDepth 100000 in
theorem sawake_any (w : World) (hKA : KAt w) : Calls Tryd.prog 8 #[] w fun e w' => e = .returned (.bool true) ∧ Below w.heap.size w w' := by
  have HK := kept hKA
  have HGL := kept hKA.lt
  clear hKA
  go_enter Tryd.func8, Tryd.ntmps8
  go_wp2_with (first | (refine wpList_builtA rfl 22 _ rfl [(0, .int .u8 7)] (bA 16 (ofL exK)) rfl built_exK ?_) | (refine wpList_builtA rfl 23 _ rfl [(0, .int .u8 1)] (bA 8 (ofL exN)) rfl built_exN ?_))
  refine (seal_any w exK exN [] 3 0 0 0 none HK.out rfl rfl rfl (Mem.nil_ _ _ _) (by simp) (by simp)).mono ?_
  rintro e W1 ⟨v1, rfl, ho1, k1⟩
  rw [ex_seal] at ho1
  obtain ⟨A1, q1, c1, hv1, hc1, _, hm1, hf1, _⟩ := ho1.form
  obtain ⟨hq1, hA1, _⟩ := hf1 (by decide)
  subst hA1 hv1
  have hc : (exN ++ ex3).length ≤ c1 := hc1
  rw [show (exN ++ ex3).length = 24 from rfl] at ho1 hc1 ⊢
  have HO := kept ho1
  have HM := kept hm1
  have HW := kept k1
  replace HK := kept (HK.out.below0 k1)
  have HC := kept hc
  clear ho1 hm1 k1 hf1 hc hc1
  go_wp2_with (refine wpList_builtA rfl 22 _ rfl [(0, .int .u8 7)] (bA 16 (ofL exK)) rfl built_exK ?_)
  refine (open_any W1 exK (exN ++ ex3) 3 q1 24 c1 _ HK.out rfl rfl HM.out HC.out (by decide)).mono ?_
  rw [ex_open]
  rintro e W2 ⟨v2, rfl, ho2, k2⟩
  obtain ⟨A2, q2, c2, hv2, _, _, _, _, _⟩ := ho2.form
  rw [show ((some ([] : List UInt8)).getD []).length = 0 from rfl] at hv2
  subst hv2
  replace HO := kept (HO.out.below k2)
  replace HM := kept (HM.out.below0 k2)
  replace HW := kept (below_next HW.out k2)
  replace HK := kept (HK.out.below0 k2)
  clear ho2 k2
  go_wp2_with (refine wpList_builtA rfl 22 _ rfl [(0, .int .u8 7)] (bA 16 (ofL exK)) rfl built_exK ?_)
  refine (open_any W2 exK (exN ++ ex3) 4 q1 24 c1 _ HK.out rfl rfl HM.out HC.out (by decide)).mono ?_
  rw [ex_no]
  rintro e W3 ⟨v3, rfl, ho3, k3⟩
  replace HO := kept (HO.out.below k3)
  replace HM := kept (HM.out.below0 k3)
  replace HW := kept (below_next HW.out k3)
  replace HK := kept (HK.out.below0 k3)
  clear ho3 k3
  go_wp2_with fail
  refine (nonce_any W3 (exN ++ ex3) q1 24 c1 _ rfl HM.out HC.out (by decide)).mono ?_
  rw [show nonceL (exN ++ ex3) = exN from rfl]
  rintro e W4 ⟨rfl, k4⟩
  replace HO := kept (HO.out.below k4)
  replace HM := kept (HM.out.below0 k4)
  replace HW := kept (below_next HW.out k4)
  replace HK := kept (HK.out.below0 k4)
  clear k4
  rw [show decide (24 ≤ (exN ++ ex3).length) = true from rfl]
  go_upto_region 7 with (refine wpList_store_row rfl 23 (.tmp 6) (.tmp 31) rfl W4.heap.size (bA 8 (ofL exN)) rfl rfl 23 (bA 8 (fun _ => 0)) (Blk.new W4 _ _) (by rw [b8_size, bA_size]) (by rw [bA_size, bA_size]) (bA_one _ _) ?_)
  go_name_world W5 hW5
  have hb5 : Below W4.heap.size W4 W5 := by rw [← hW5]; exact below_setRow ((Below.refl _ W4).alloc (Nat.le_refl _) _) (Nat.le_refl _) _
  have HB := kept (show Blk W5 W4.heap.size 23 (bA 8 (ofL exN)) by rw [← hW5]; exact setRow_heap _ _ _ _ _ _ (Blk.new W4 _ _))
  replace HO := kept (HO.out.below hb5)
  replace HW := kept (below_next HW.out hb5)
  replace HK := kept (HK.out.below0 hb5)
  have hq4 : q1 < W4.heap.size := HM.out.lt (by decide)
  clear hW5 hb5 HM
  generalize W4.heap.size = g8 at HB hq4 ⊢
  obtain ⟨c20, f20, _⟩ := own_at HO.out 20 (by decide)
  rw [show (((exN ++ ex3)[20]'(by decide)).toNat : Int) = 177 from rfl] at c20
  go_upto_region 8 with (fail)
  go_name_world W6 hW6
  have HO6 := kept (show Own W6 w.heap.size (.slice (some ⟨q1, 0, none⟩) 24 c1) ((exN ++ ex3).set 20 178) by rw [← hW6]; exact own_set HO.out 20 178 (by decide))
  have hqw : w.heap.size ≤ q1 := hq1
  have HW6 := kept (show Below w.heap.size w W6 by rw [← hW6]; exact HW.out.setCell hqw _)
  have HK6 := kept (show KAt W6 by rw [← hW6]; exact HK.out.keep (Below.heap_setCell W5 _ _ _ (by have := HGL.out; show 0 ≠ q1; omega)))
  have HB6 := kept (show Blk W6 g8 23 (bA 8 (ofL exN)) by rw [← hW6]; exact HB.out.far (by show g8 ≠ q1; omega) _)
  clear hW6 HO HW HK HB c20 f20
  obtain ⟨A6, q6, c6, hv6, _, _, hm6, _, _⟩ := HO6.out.form
  injection hv6 with e1 e2 e3
  rw [← e1] at hm6
  have HM6 := kept hm6
  clear hm6 e1 e2 e3 HO6
  go_wp2_with (refine wpList_builtA rfl 22 _ rfl [(0, .int .u8 7)] (bA 16 (ofL exK)) rfl built_exK ?_)
  refine (open_any W6 exK ((exN ++ ex3).set 20 178) 3 q6 24 c1 _ HK6.out rfl rfl HM6.out HC.out (by decide)).mono ?_
  rw [ex_not]
  rintro e W7 ⟨v7, rfl, ho7, k7⟩
  replace HB6 := kept (HB6.out.below k7 HB6.out.lt)
  replace HW6 := kept (below_next HW6.out k7)
  clear ho7 k7 HM6 HK6
  have hq := fun w' => run_eqlL8 exN exN rfl rfl w'
  rw [sameB_self] at hq
  go_wp2_with (first | (refine wpList_load_row_w (by rfl) 23 (.tmp 6) rfl g8 rfl 23 (bA 8 (ofL exN)) (0, 0) _ HB6.out Tryd.underlying23 rfl (by rw [b8_size, bA_size]) ?_) | (refine wpList_builtA_w (by rfl) 23 _ rfl [(0, .int .u8 1)] (bA 8 (ofL exN)) rfl built_exN ?_))
  go_ret
  exact ⟨rfl, HW6.out⟩
end Go.Proofs.YtcjbplgjjhenkaaDoor
