/-
  Nonce of package seal, by a contract.
-/
import Derived.Test.YtcjbplgjjhenkaaDoorSm35
import Derived.Test.YtcjbplgjjhenkaaDoorSm29
import Derived.Test.YtcjbplgjjhenkaaDoorSm23
import Derived.Test.YtcjbplgjjhenkaaDoorSm8
import Derived.Deep.Cut
import Derived.Test.YtcjbplgjjhenkaaDoorSm17
import Derived.Test.YtcjbplgjjhenkaaDoorSm30
/-
  The reference's Seal of package seal, by a contract.
-/
namespace Go.Proofs.YtcjbplgjjhenkaaDoor
open Go.RowKit
set_option linter.unusedVariables false
set_option linter.unusedSimpArgs false

theorem arr16 (w : World) (a : Option Addr) (len cap : Nat) (h : 16 ≤ len) : (Instr.arrayAt 22 (.slice a len cap)).run Tryd.prog w = .ok (.pointer a) w := arrayAt_any w _ 16 _ Tryd.underlying22 a len cap h
theorem arr8 (w : World) (a : Option Addr) (len cap : Nat) (h : 8 ≤ len) : (Instr.arrayAt 23 (.slice a len cap)).run Tryd.prog w = .ok (.pointer a) w := arrayAt_any w _ 8 _ Tryd.underlying23 a len cap h
theorem s8_ln (f : Nat → UInt8) : (Tryd.prog.info? 23).map (·.size) = some (bA 8 f).toList.length := by rw [b8_size, Array.length_toList, bA_size]
theorem slice32_h (w : World) (g : Nat) : (Instr.sliceAt 36 (.pointer (some ⟨g, 0, none⟩)) none (some (.int .i64 16)) none).run Tryd.prog w = .ok (.slice (some ⟨g, 0, none⟩) 16 32) w := by
  have a32 : Tryd.prog.arrayLen 36 = 32 := by simp [Program.arrayLen, Tryd.underlying36]
  have e32 : Tryd.prog.elem 36 = 5 := by simp [Program.elem, Tryd.underlying36]
  rw [run_sliceAt_array_h w 36 ⟨g, 0, none⟩ (by simp [Program.arrayLen, Program.elem, Tryd.underlying36]) .i64 16 (by omega) (by rw [a32]; omega)]
  rw [a32, e32, size_u8]
  show Result.ok (slicedAt _ _ _ _ _) w = _
  unfold slicedAt
  rw [if_neg (by omega), Addr.add_mid]
  rfl
theorem keyE_len (K : List UInt8) : (keyE K).length = 16 := derive_len _ _ _
theorem keyM_len (K : List UInt8) : (keyM K).length = 32 := derive_len _ _ _
set_option maxHeartbeats 4000000 in
set_option maxRecDepth 100000 in
theorem rseal_any (w : World) (KK N b : List UInt8) (u : UInt8) (q n c : Nat) (AA : Option Addr) (hK : KK.length = 16) (hN : N.length = 8) (hn : n = b.length) (hm : Mem w q AA b) (hl : b.length ≤ 1048576) :
    Calls Tryd.prog 11 #[.agg (bA 16 (ofL KK)), .int .u8 (u.toNat : Int), .agg (bA 8 (ofL N)), .slice AA n c] w fun e w' => ∃ v, e = .returned v ∧ Own w' w.heap.size v (sealS KK u N b) ∧ Below w.heap.size w w' := by
  have HN := kept hn
  have HM := kept hm
  have HKL := kept hK
  have HNL := kept hN
  clear hn hm hK hN
  go_enter Tryd.func11, Tryd.ntmps11
  go_upto_region 1 with (fail)
  go_name_world W0 hW0
  have H0 := kept (show Blk W0 w.heap.size 22 (bA 16 (ofL KK)) by rw [← hW0]; exact (Blk.new w _ _).alloc _)
  have H1 := kept (show Blk W0 (w.heap.size + 1) 23 (bA 8 (ofL N)) by
    rw [← hW0]
    have n1 := Blk.new (w.alloc (.cells (bA 16 (ofL KK)) 22)) 23 (bA 8 (ofL N))
    simpa only [World.size_alloc] using n1)
  have HW0 := kept (show Below w.heap.size w W0 by rw [← hW0]; exact ((Below.refl _ w).alloc (Nat.le_refl _) _).alloc (by simp) _)
  have HM0 := kept (HM.out.below0 HW0.out)
  clear hW0 HM
  have hs16 := fun w' => slice16_all w' w.heap.size
  go_wp2_with fail
  refine (rder_yes W0 w.heap.size (some ⟨w.heap.size, 0, none⟩) 16 16 KK _ 16 HKL.out.symm (mem_arr H0.out HKL.out) (by rw [HKL.out]; omega) (by decide) (by omega)).mono ?_
  rintro e W1 ⟨v1, rfl, ho1, k1⟩
  rw [show derive KK ({ data := #[101, 110, 99, 114, 121, 112, 116] } : ByteArray).data.toList 16 = keyE KK from rfl] at ho1
  have hel := keyE_len KK
  obtain ⟨E, hE⟩ : ∃ E, keyE KK = E := ⟨_, rfl⟩
  rw [hE] at ho1 hel
  obtain ⟨A1, q1, c1, hv1, hc1, _, hm1, hf1, _⟩ := ho1.form
  obtain ⟨_, hA1, _⟩ := hf1 (fun e => by rw [e] at hel; cases hel)
  subst hA1
  rw [hel] at hv1 hc1
  subst hv1
  have HE := kept hE
  have HEL := kept hel
  have ME := kept (mem_range hm1)
  replace H0 := kept (H0.out.below k1 H0.out.lt)
  replace H1 := kept (H1.out.below k1 H1.out.lt)
  replace HM0 := kept (HM0.out.below0 k1)
  replace HW0 := kept (below_next HW0.out k1)
  have hg1 : w.heap.size + 1 < W1.heap.size := H1.out.lt
  clear ho1 k1 hf1 hm1 hE hel
  have ha16 := fun w' => arr16 w' (some ⟨q1, 0, none⟩) 16 c1 (Nat.le_refl _)
  go_upto_region 2 with (first | (refine wpList_load_mid rfl 22 (.tmp 15) rfl q1 0 rfl (E.map bv) _ ME.out Tryd.underlying22 rfl (by rw [b16_size, List.length_map, HEL.out]) ?_) | (refine wpList_store_row rfl 22 (.tmp 9) (.tmp 16) rfl W1.heap.size (E.map bv).toArray rfl rfl 22 (bA 16 (fun _ => 0)) (Blk.new W1 _ _) (by rw [b16_size, ← bA_ofL E HEL.out, bA_size]) (by rw [← bA_ofL E HEL.out, bA_size, bA_size]) (by rw [← bA_ofL E HEL.out]; exact bA_one _ _) ?_))
  go_name_world W2 hW2
  replace H0 := kept (show Blk W2 w.heap.size 22 (bA 16 (ofL KK)) by rw [← hW2]; exact (H0.out.alloc _).row_far (by omega))
  replace H1 := kept (show Blk W2 (w.heap.size + 1) 23 (bA 8 (ofL N)) by rw [← hW2]; exact (H1.out.alloc _).row_far (by omega))
  have hbw : Below W1.heap.size W1 W2 := by rw [← hW2]; exact below_setRow ((Below.refl _ W1).alloc (Nat.le_refl _) _) (Nat.le_refl _) _
  have H2 := kept (show Blk W2 W1.heap.size 22 (bA 16 (ofL E)) by rw [← hW2, bA_ofL E HEL.out]; exact setRow_heap _ _ _ _ _ _ (Blk.new W1 _ _))
  replace HM0 := kept (HM0.out.below0 hbw)
  replace HW0 := kept (below_next HW0.out hbw)
  have hg2 : W1.heap.size < W2.heap.size := H2.out.lt
  clear hW2 hbw ha16 ME
  generalize W1.heap.size = g9 at hg1 hg2 H2 ⊢
  go_wp2_with fail
  refine (rder_yes W2 w.heap.size (some ⟨w.heap.size, 0, none⟩) 16 16 KK _ 32 HKL.out.symm (mem_arr H0.out HKL.out) (by rw [HKL.out]; omega) (by decide) (by omega)).mono ?_
  rintro e W3 ⟨v3, rfl, ho3, k3⟩
  rw [show derive KK ({ data := #[112, 114, 111, 116, 101, 99, 116] } : ByteArray).data.toList 32 = keyM KK from rfl] at ho3
  obtain ⟨A3, q3, c3, hv3, hc3, _, hm3, _, _⟩ := ho3.form
  rw [keyM_len] at hv3 hc3
  subst hv3
  have M3 := kept hm3
  replace H1 := kept (H1.out.below k3 H1.out.lt)
  replace H2 := kept (H2.out.below k3 H2.out.lt)
  replace HM0 := kept (HM0.out.below0 k3)
  replace HW0 := kept (below_next HW0.out k3)
  have HW3 := kept HW0.out.size
  clear ho3 k3 hm3 H0 hs16
  go_upto_region 3 with (fail)
  have hs8 := fun w' => slice8_all w' (w.heap.size + 1)
  obtain ⟨i0, hi0, hz0, hs0, hbb0⟩ := info_parts u8_info
  have HRC := kept (fun w' A' q' c' hm' => rccrypt_any w' (ofL E) (ofL N) q' n c' A' b HN.out hm' hl)
  have hxl := sMix_len (cStr (ofL E) (ofL N)) 0 b
  obtain ⟨X, hX⟩ : ∃ X, sMix (cStr (ofL E) (ofL N)) 0 b = X := ⟨_, rfl⟩
  rw [hX] at HRC hxl
  have HX := kept hX
  have HXL := kept hxl
  clear hX hxl
  have MN := kept (mem_arr H1.out HNL.out)
  have R1 := kept (show ∀ w', Below W3.heap.size W3 w' → w'.rangeAt g9 0 (bA 16 (ofL E)).toList from fun w' h => (H2.out.below h H2.out.lt).range)
  have R2 := kept (show ∀ w', Below W3.heap.size W3 w' → w'.rangeAt (w.heap.size + 1) 0 (bA 8 (ofL N)).toList from fun w' h => (H1.out.below h H1.out.lt).range)
  refine wp_region_flow 7 (fun w' => Below W3.heap.size W3 w') [fun v w' => ∃ g, v = .slice (some ⟨g, 0, none⟩) 0 0, fun v _ => v = .slice (some ⟨w.heap.size + 1, 0, none⟩) 8 8, fun v w' => Own w' W3.heap.size v N, fun v _ => v = .agg (bA 16 (ofL E)), fun v _ => v = .agg (bA 8 (ofL N)), fun v _ => v = .slice AA n c, fun v w' => Own w' W3.heap.size v X] (by kernel_rfl) (by kernel_rfl) rfl (Below.refl _ W3).drew (fun _ _ h k => below_next h k) ?_ ?_ ?_
  · exact stable_cons (fun v w1 w2 h k => h) (stable_cons (stable_eq _) (stable_cons (stable_own _ _) (stable_cons (stable_eq _) (stable_cons (stable_eq _) (stable_cons (stable_eq _) (stable_cons (stable_own _ _) (stable_nil)))))))
  · simp only [List.take_succ_cons, List.take_zero]
    refine OweAll.cons ?_ (OweAll.cons ?_ (OweAll.cons ?_ (OweAll.cons ?_ (OweAll.cons ?_ (OweAll.cons ?_ (OweAll.cons ?_ OweAll.nil))))))
    · intro us w' A hA hC hd K hK
      refine flow_make (w1 := w'.alloc (.cells #[] 5)) (.slice (some ⟨w'.heap.size, 0, none⟩) 0 0) (by rw [hA]; kernel_rfl) ?_ ((Below.refl _ w').alloc (Nat.le_refl _) _) (⟨w'.heap.size, rfl⟩) hK
      clear hA hd hK
      go_simp
    · intro us w' A hA hC hd K hK
      have ev6 : A.tmps[6]?.getD undef = .pointer (some ⟨w.heap.size + 1, 0, none⟩) := by rw [hA]; kernel_rfl
      refine flow_value (.slice (some ⟨w.heap.size + 1, 0, none⟩) 8 8) (by rw [hA]; kernel_rfl) ?_ rfl hK
      clear hA hd hK
      go_simp
    · intro us w' A hA hC hd K hK
      obtain ⟨g0, e0⟩ := hd 0 (by kernel_rfl)
      have e1 : us 1 = .slice (some ⟨w.heap.size + 1, 0, none⟩) 8 8 := hd 1 (by kernel_rfl)
      have ev0 : A.eval (.tmp 19) = us 0 := by rw [hA]; kernel_rfl
      rw [e0] at ev0
      have ev1 : A.eval (.tmp 20) = us 1 := by rw [hA]; kernel_rfl
      rw [e1] at ev1
      exact flow_append (φ := fun v w' => Own w' W3.heap.size v N) (by rw [hA]; kernel_rfl) (.tmp 19) (.tmp 20) 24 rfl i0 Tryd.underlying24 hi0 hz0 hs0 hbb0 _ ev0 (w.heap.size + 1) _ 8 8 N ev1 HNL.out.symm (MN.out.below0 hC) (by rw [HNL.out]; omega) (by rw [HNL.out]; omega) (fun v' w'' ho hb => ho.mono hC.size) hK
    · intro us w' A hA hC hd K hK
      exact flow_load (φ := fun v _ => v = .agg (bA 16 (ofL E))) (by rw [hA]; kernel_rfl) 22 (.tmp 9) rfl g9 0 (by rw [hA]; kernel_rfl) (bA 16 (ofL E)).toList _ (R1.out w' hC) Tryd.underlying22 rfl (s16_len _) rfl hK
    · intro us w' A hA hC hd K hK
      exact flow_load (φ := fun v _ => v = .agg (bA 8 (ofL N))) (by rw [hA]; kernel_rfl) 23 (.tmp 6) rfl (w.heap.size + 1) 0 (by rw [hA]; kernel_rfl) (bA 8 (ofL N)).toList _ (R2.out w' hC) Tryd.underlying23 rfl (s8_ln _) rfl hK
    · intro us w' A hA hC hd K hK
      exact flow_value (.slice AA n c) (by rw [hA]; kernel_rfl) (by rw [hA]; kernel_rfl) rfl hK
    · intro us w' A hA hC hd K hK
      have e3 : us 3 = .agg (bA 16 (ofL E)) := hd 3 (by kernel_rfl)
      have e4 : us 4 = .agg (bA 8 (ofL N)) := hd 4 (by kernel_rfl)
      have e5 : us 5 = .slice AA n c := hd 5 (by kernel_rfl)
      refine flow_call 20 #[us 3, us 4, us 5] (by rw [hA]; kernel_rfl) (fun _ => by rw [hA]; kernel_rfl) ?_ hK
      rw [e3, e4, e5]
      exact (HRC.out w' AA q c (HM0.out.below0 hC)).mono fun e w2 ⟨v, he, ho, hb⟩ => ⟨v, he, ho.mono hC.size, hb⟩
  · intro us w' A hA hC hd
    subst hA
    obtain ⟨g0, e0⟩ := hd 0 (by omega)
    have e1 : us 1 = .slice (some ⟨w.heap.size + 1, 0, none⟩) 8 8 := hd 1 (by omega)
    have o2 : Own w' W3.heap.size (us 2) N := hd 2 (by omega)
    obtain ⟨A2, q2, c2, e2, hc2, hm2, m2, x2⟩ := o2.form
    have e3 : us 3 = .agg (bA 16 (ofL E)) := hd 3 (by omega)
    have e4 : us 4 = .agg (bA 8 (ofL N)) := hd 4 (by omega)
    have e5 : us 5 = .slice AA n c := hd 5 (by omega)
    have o6 : Own w' W3.heap.size (us 6) X := hd 6 (by omega)
    obtain ⟨A6, q6, c6, e6, hc6, hm6, m6, x6⟩ := o6.form
    simp only [List.take_succ_cons, List.take_zero, List.drop_succ_cons, List.drop_zero, fillAct, Act.put, Nat.zero_add, Nat.reduceAdd, List.setIfInBounds_toArray, List.set_cons_zero, List.set_cons_succ, e0, e1, e2, e3, e4, e5, e6]
    clear hd 
    have O2 : Own w' W3.heap.size (.slice A2 N.length c2) N := by rw [← e2]; exact o2
    have hNX : N.length + X.length ≤ 140737488355328 := by rw [HNL.out, HXL.out]; omega
    refine wpList_append_bytes rfl (.tmp 21) (.tmp 25) 24 rfl W3.heap.size i0 Tryd.underlying24 hi0 hz0 hs0 hbb0 (.slice A2 N.length c2) N rfl O2 q6 A6 X.length c6 X rfl rfl m6 hNX hC.size ?_
    intro v7 W7 ho7 hg7
    have hb7 : Below W3.heap.size W3 W7 := hC.grown hg7 hC.size (fun k hk => (World.ownsRow.lt O2 k hk).1)
    obtain ⟨F, hF⟩ : ∃ F, N ++ X = F := ⟨_, rfl⟩
    rw [hF] at ho7
    have hfl : F.length = 8 + b.length := by rw [← hF, List.length_append, HNL.out, HXL.out]
    have HF := kept hF
    have HFL := kept hfl
    obtain ⟨A7, q7, c7, hv7, hc7, _, hm7, _, _⟩ := ho7.form
    subst hv7
    have HO7 := kept ho7
    have HM7 := kept hm7
    have HM3 := kept (M3.out.below0 hb7)
    have HW7 := kept (below_next HW0.out hb7)
    have hl3 : W3.heap.size ≤ W7.heap.size := hb7.size
    clear O2 hNX ho7 hg7 hb7 hF hfl hm7 e0 e1 e2 e3 e4 e5 e6 o2 o6 m2 m6 x2 x6 hc2 hc6 hm2 hm6 M3 HW0 HM0 H1 H2
    go_upto_region 4 with (fail)
    have hO8 : Own (W7.alloc (.cells #[.int .u8 (u.toNat : Int)] 5)) W7.heap.size (.slice (some ⟨W7.heap.size, 0, none⟩) 1 1) [u] := own_of_blk (l := [u]) (Blk.new W7 _ _) (Nat.le_refl _) (by simp)
    have hMF := HM7.out.alloc (.cells #[.int .u8 (u.toNat : Int)] 5)
    have hl8 : ([u] : List UInt8).length + F.length ≤ 140737488355328 := by rw [HFL.out]; simp; omega
    go_wp2_with (at_builtin; refine wpList_append_bytes rfl (.tmp 29) (.tmp 30) 24 rfl W7.heap.size i0 Tryd.underlying24 hi0 hz0 hs0 hbb0 (.slice (some ⟨W7.heap.size, 0, none⟩) 1 1) [u] rfl hO8 q7 A7 F.length c7 F rfl rfl hMF hl8 (by simp) ?_; intro v8 W8 ho8 hg8)
    obtain ⟨A8, q8, c8, hv8, _, _, hm8, _, _⟩ := ho8.form
    subst hv8
    have hb8 : Below W7.heap.size W7 W8 := ((Below.refl _ W7).alloc (Nat.le_refl _) _).grown hg8 (by simp) (fun k hk => by cases hk; exact Nat.le_refl _)
    have hml := keyM_len KK
    refine (rmac_any W8 q3 q8 A3 A8 32 _ c3 c8 (keyM KK) ([u] ++ F) hml.symm (HM3.out.below0 hb8) (by rw [hml]; omega) rfl hm8 (by rw [List.length_append, HFL.out]; simp; omega)).mono ?_
    rintro e W9 ⟨rfl, k9⟩
    have hdl := hmac_len (keyM KK) ([u] ++ F)
    obtain ⟨D, hD⟩ : ∃ D, hmac (keyM KK) ([u] ++ F) = D := ⟨_, rfl⟩
    rw [hD] at hdl
    rw [hD]
    have HD := kept hD
    have HDL := kept hdl
    have hb9 := below_next hb8 k9
    have HO9 := kept ((HO7.out.below hb8).below k9)
    have HW9 := kept (below_next HW7.out hb9)
    have hl9 : W3.heap.size ≤ W9.heap.size := Nat.le_trans hl3 hb9.size
    clear HO7 HM7 HM3 HW7 hO8 hMF hl8 ho8 hg8 hm8 hb8 hb9 k9 hml hD hdl hl3
    go_upto_region 5 with (refine wpList_store_row rfl 36 (.tmp 12) (.tmp 32) rfl W9.heap.size (D.map bv).toArray rfl rfl 36 (gA 32 (fun _ => bv 0)) (Blk.new W9 _ _) (by rw [b32_size]; simp [HDL.out]) (by rw [gA_size]; simp [HDL.out]) (padded_one D) ?_)
    go_name_world W10 hW10
    have hb10 : Below W9.heap.size W9 W10 := by rw [← hW10]; exact below_setRow ((Below.refl _ W9).alloc (Nat.le_refl _) _) (Nat.le_refl _) _
    have HD10 := kept (show Blk W10 W9.heap.size 36 (D.map bv).toArray by rw [← hW10]; exact setRow_heap _ _ _ _ _ _ (Blk.new W9 _ _))
    have HO10 := kept (HO9.out.below hb10)
    have HW10 := kept (below_next HW9.out hb10)
    have hl10 : W3.heap.size ≤ W10.heap.size := Nat.le_trans hl9 hb10.size
    clear hW10 HO9 HW9 hb10 hl9
    generalize W9.heap.size = g12 at HD10 ⊢
    have hs32 := fun w' => slice32_h w' g12
    have hMD : Mem W10 g12 (some ⟨g12, 0, none⟩) (D.take 16) := (mem_blk2 HD10.out).take 16
    have hlD : F.length + (D.take 16).length ≤ 140737488355328 := by rw [HFL.out, List.length_take]; omega
    have HTK := kept (show (16 : Nat) = (D.take 16).length by rw [List.length_take, HDL.out]; rfl)
    go_wp2_with (at_builtin; refine wpList_append_bytes rfl (.tmp 33) (.tmp 34) 24 rfl W3.heap.size i0 Tryd.underlying24 hi0 hz0 hs0 hbb0 (.slice A7 F.length c7) F rfl HO10.out g12 (some ⟨g12, 0, none⟩) 16 32 (D.take 16) rfl HTK.out hMD hlD hl10 ?_; intro v11 W11 ho11 hg11)
    go_ret
    have hb3 : w.heap.size ≤ W3.heap.size := HW3.out
    refine ⟨v11, rfl, ?_, HW10.out.grown hg11 HW10.out.size (fun k hk => Nat.le_trans hb3 (World.ownsRow.lt HO10.out k hk).1)⟩
    have e : sealS KK u N b = F ++ D.take 16 := by
      unfold sealS sealC sealF
      rw [HE.out, HX.out, HF.out, show hmac (keyM KK) (u :: F) = D from HD.out]
    rw [e]
    exact ho11.mono hb3
end Go.Proofs.YtcjbplgjjhenkaaDoor
/-
  The reference's Open of package seal, by a contract.
-/
namespace Go.Proofs.YtcjbplgjjhenkaaDoor
open Go.RowKit
set_option linter.unusedVariables false
set_option linter.unusedSimpArgs false

theorem Mem.head {w : World} {q : Nat} {A : Option Addr} {l : List UInt8} (h : Mem w q A l) (h0 : 0 < l.length) : ∃ o, A = some ⟨q, o, none⟩ := by
  obtain ⟨o, ho, _⟩ := h.at_ h0
  exact ⟨o, ho⟩
/-- The middle of a string, as a slice. -/
theorem Mem.mid {w : World} {q o : Nat} {l : List UInt8} (h : Mem w q (some ⟨q, o, none⟩) l) : Mem w q (some ⟨q, o + 8, none⟩) ((l.take (l.length - 16)).drop 8) := (h.take (l.length - 16)).drop_at 8
theorem slice_mid (q o n c : Nat) (h : 24 ≤ n) (hc : n ≤ c) (w : World) : (Instr.slice 24 (.slice (some ⟨q, o, none⟩) n c) (some (.int .i64 8)) (some (.int .i64 ((n - 16 : Nat) : Int))) none).run Tryd.prog w = .ok (.slice (some ⟨q, o + 8, none⟩) (n - 24) (c - 8)) w := by
  have e : Tryd.prog.elem 24 = 5 := by simp [Program.elem, Tryd.underlying24]
  rw [run_slice_lh w 24 (some ⟨q, o, none⟩) n c (by rw [e]; exact Tryd.underlying24) .i64 .i64 8 ((n - 16 : Nat) : Int) (by omega) (by omega) (by omega)]
  rw [e, size_u8]
  show Result.ok (sliced _ _ _ _ _) w = _
  unfold sliced
  rw [show (8 : Int).toNat = 8 from rfl, show ((n - 16 : Nat) : Int).toNat = n - 16 by omega, if_neg (by omega), show n - 16 - 8 = n - 24 by omega]
  rfl
theorem sealO_short (K : List UInt8) (u : UInt8) (s : List UInt8) (h : s.length < 24) : sealO K u s = none := if_neg fun e => by omega
theorem sealO_same (K : List UInt8) (u : UInt8) (s : List UInt8) (h : 24 ≤ s.length) : sealO K u s = if sameB (sealS K u (s.take 8) (sealB K s)) s = true then some (sealB K s) else none := by
  rw [sealO_ref]
  unfold sameB
  by_cases e : sealS K u (s.take 8) (sealB K s) = s
  · rw [if_pos ⟨h, e⟩, if_pos (by simpa using e)]
  · rw [if_neg (fun x => e x.2), if_neg (by simpa using e)]
set_option maxHeartbeats 4000000 in
set_option maxRecDepth 100000 in
theorem ropen_any (w : World) (KK s : List UInt8) (u : UInt8) (q n c : Nat) (AA : Option Addr) (hK : KK.length = 16) (hn : n = s.length) (hm : Mem w q AA s) (hc : s.length ≤ c) (hl : s.length ≤ 1048600) :
    Calls Tryd.prog 14 #[.agg (bA 16 (ofL KK)), .int .u8 (u.toNat : Int), .slice AA n c] w fun e w' => ∃ v, e = .returned (.tuple #[v, .bool (sealO KK u s).isSome]) ∧ Own w' w.heap.size v ((sealO KK u s).getD []) ∧ Below w.heap.size w w' := by
  by_cases h24 : s.length < 24
  · rw [sealO_short KK u s h24]
    have hd : decide ((n : Int) < 24) = true := by rw [decide_eq_true_eq]; omega
    go_enter Tryd.func14, Tryd.ntmps14
    go_wp2
    go_ret2
    exact ⟨_, rfl, Own.nil_ _ _, (Below.refl _ _).alloc (Nat.le_refl _) _⟩
  have HS := kept (sealO_same KK u s (by omega))
  obtain ⟨o, rfl⟩ := hm.head (by omega)
  have HN := kept hn
  have HM := kept hm
  have HKL := kept hK
  have hd : decide ((n : Int) < 24) = false := by rw [decide_eq_false_iff_not]; omega
  have hn24 : 24 ≤ n := by omega
  have hnl : n ≤ 1048600 := by omega
  have hcn : n ≤ c := by omega
  clear hn hm hK hc hl h24
  go_enter Tryd.func14, Tryd.ntmps14
  go_upto_region 3 with (fail)
  go_name_world W0 hW0
  have H0 := kept (show Blk W0 w.heap.size 22 (bA 16 (ofL KK)) by rw [← hW0]; exact Blk.new w _ _)
  have HW0 := kept (show Below w.heap.size w W0 by rw [← hW0]; exact (Below.refl _ w).alloc (Nat.le_refl _) _)
  have HM0 := kept (HM.out.below0 HW0.out)
  have hg0 : w.heap.size < W0.heap.size := H0.out.lt
  clear hW0 HM
  have ha8 := fun w' => arr8 w' (some ⟨q, o, none⟩) 8 c (Nat.le_refl _)
  have HNL := kept (show (s.take 8).length = 8 by rw [List.length_take]; have := HN.out; omega)
  obtain ⟨N, hN⟩ : ∃ N, s.take 8 = N := ⟨_, rfl⟩
  have MN := kept (show W0.rangeAt q o (N.map bv) by rw [← hN]; exact mem_range (HM0.out.take 8))
  rw [hN] at HNL
  have HNN := kept hN
  clear hN
  go_upto_region 4 with (first | (refine wpList_load_mid rfl 23 (.tmp 16) rfl q o rfl (N.map bv) _ MN.out Tryd.underlying23 rfl (by rw [b8_size, List.length_map, HNL.out]) ?_) | (refine wpList_store_row rfl 23 (.tmp 8) (.tmp 17) rfl W0.heap.size (N.map bv).toArray rfl rfl 23 (bA 8 (fun _ => 0)) (Blk.new W0 _ _) (by rw [b8_size, ← bA_ofL N HNL.out, bA_size]) (by rw [← bA_ofL N HNL.out, bA_size, bA_size]) (by rw [← bA_ofL N HNL.out]; exact bA_one _ _) ?_))
  go_name_world W1 hW1
  have hbw : Below W0.heap.size W0 W1 := by rw [← hW1]; exact below_setRow ((Below.refl _ W0).alloc (Nat.le_refl _) _) (Nat.le_refl _) _
  have H1 := kept (show Blk W1 W0.heap.size 23 (bA 8 (ofL N)) by rw [← hW1, bA_ofL N HNL.out]; exact setRow_heap _ _ _ _ _ _ (Blk.new W0 _ _))
  replace H0 := kept (H0.out.below hbw H0.out.lt)
  replace HM0 := kept (HM0.out.below0 hbw)
  replace HW0 := kept (below_next HW0.out hbw)
  have hg1 : W0.heap.size < W1.heap.size := H1.out.lt
  clear hW1 hbw ha8 MN
  generalize W0.heap.size = g8 at hg0 hg1 H1 ⊢
  have hs16 := fun w' => slice16_all w' w.heap.size
  go_wp2_with fail
  refine (rder_yes W1 w.heap.size (some ⟨w.heap.size, 0, none⟩) 16 16 KK _ 16 HKL.out.symm (mem_arr H0.out HKL.out) (by rw [HKL.out]; omega) (by decide) (by omega)).mono ?_
  rintro e W2 ⟨v1, rfl, ho1, k1⟩
  rw [show derive KK ({ data := #[101, 110, 99, 114, 121, 112, 116] } : ByteArray).data.toList 16 = keyE KK from rfl] at ho1
  have hel := keyE_len KK
  obtain ⟨E, hE⟩ : ∃ E, keyE KK = E := ⟨_, rfl⟩
  rw [hE] at ho1 hel
  obtain ⟨A1, q1, c1, hv1, hc1, _, hm1, hf1, _⟩ := ho1.form
  obtain ⟨_, hA1, _⟩ := hf1 (fun e => by rw [e] at hel; cases hel)
  subst hA1
  rw [hel] at hv1 hc1
  subst hv1
  have HE := kept hE
  have HEL := kept hel
  have ME := kept (mem_range hm1)
  replace H0 := kept (H0.out.below k1 H0.out.lt)
  replace H1 := kept (H1.out.below k1 H1.out.lt)
  replace HM0 := kept (HM0.out.below0 k1)
  replace HW0 := kept (below_next HW0.out k1)
  have hg2 : g8 < W2.heap.size := H1.out.lt
  clear ho1 k1 hf1 hm1 hE hel hs16 hg1
  have ha16 := fun w' => arr16 w' (some ⟨q1, 0, none⟩) 16 c1 (Nat.le_refl _)
  go_upto_region 5 with (first | (refine wpList_load_mid rfl 22 (.tmp 20) rfl q1 0 rfl (E.map bv) _ ME.out Tryd.underlying22 rfl (by rw [b16_size, List.length_map, HEL.out]) ?_) | (refine wpList_store_row rfl 22 (.tmp 9) (.tmp 21) rfl W2.heap.size (E.map bv).toArray rfl rfl 22 (bA 16 (fun _ => 0)) (Blk.new W2 _ _) (by rw [b16_size, ← bA_ofL E HEL.out, bA_size]) (by rw [← bA_ofL E HEL.out, bA_size, bA_size]) (by rw [← bA_ofL E HEL.out]; exact bA_one _ _) ?_))
  go_name_world W3 hW3
  have hbw : Below W2.heap.size W2 W3 := by rw [← hW3]; exact below_setRow ((Below.refl _ W2).alloc (Nat.le_refl _) _) (Nat.le_refl _) _
  have H2 := kept (show Blk W3 W2.heap.size 22 (bA 16 (ofL E)) by rw [← hW3, bA_ofL E HEL.out]; exact setRow_heap _ _ _ _ _ _ (Blk.new W2 _ _))
  replace H0 := kept (H0.out.below hbw H0.out.lt)
  replace H1 := kept (H1.out.below hbw H1.out.lt)
  replace HM0 := kept (HM0.out.below0 hbw)
  replace HW0 := kept (below_next HW0.out hbw)
  clear hW3 hbw ha16 ME
  generalize W2.heap.size = g9 at hg2 H2 ⊢
  have HMM := kept HM0.out.mid
  have hml : ((s.take (s.length - 16)).drop 8).length = n - 24 := by
    rw [List.length_drop, List.length_take]
    have := HN.out
    omega
  have HB := kept (show sealB KK s = sMix (cStr (ofL E) (ofL N)) 0 ((s.take (s.length - 16)).drop 8) by unfold sealB; rw [HE.out, HNN.out])
  obtain ⟨M, hM⟩ : ∃ M, (s.take (s.length - 16)).drop 8 = M := ⟨_, rfl⟩
  rw [hM] at HMM hml HB
  have HML := kept hml
  clear hM hml
  obtain ⟨CC, hCd⟩ : ∃ CC : World → Prop, CC = fun w' => w' = W3.drew := ⟨_, rfl⟩
  have E0 := kept (show ∀ w', CC w' → w' = W3.drew from fun w' h => by rw [hCd] at h; exact h)
  have E1 := kept (show ∀ w', CC w' → w'.rangeAt g9 0 (bA 16 (ofL E)).toList from fun w' h => by rw [E0.out w' h]; exact (H2.out.drew_).range)
  have E2 := kept (show ∀ w', CC w' → w'.rangeAt g8 0 (bA 8 (ofL N)).toList from fun w' h => by rw [E0.out w' h]; exact (H1.out.drew_).range)
  have hC0 : CC W3.drew := by rw [hCd]
  clear hCd
  have hsub : IntKind.i64.wrap ((n : Int) - 16) = ((n - 16 : Nat) : Int) := by
    rw [IntWalk.i64_in _ (by omega)]
    omega
  refine wp_region_tail CC 7 (by kernel_rfl) (by kernel_rfl) hC0 ?_
  simp only [List.take_succ_cons, List.take_zero, List.drop_succ_cons, List.drop_zero]
  refine quiet_load (by rfl) 22 (.tmp 9) rfl g9 0 (by rfl) (bA 16 (ofL E)).toList _ E1.out Tryd.underlying22 rfl (s16_len _) ?_
  refine quiet_load (by rfl) 23 (.tmp 8) rfl g8 0 (by rfl) (bA 8 (ofL N)).toList _ E2.out Tryd.underlying23 rfl (s8_ln _) ?_
  quiet_step (exact fun _ => rfl)
  quiet_step (exact fun _ => rfl)
  quiet_step (exact fun _ => rfl)
  quiet_step (exact fun _ => rfl)
  have hsl := slice_mid q o n c hn24 hcn
  quiet_step (exact fun _ => rfl)
  refine wpQuiet_nil ?_
  intro W6 hC6
  rw [E0.out _ hC6]
  clear hC6 hC0 E0 E1 E2 hsl hsub
  go_wp2_with fail
  refine (rccrypt_any W3.drew (ofL E) (ofL N) q (n - 24) (c - 8) _ M HML.out.symm HMM.out.drew (by rw [HML.out]; omega)).mono ?_
  rintro e W4 ⟨v4, rfl, ho4, k4⟩
  rw [← HB.out] at ho4
  have hbl : (sealB KK s).length = n - 24 := by rw [HB.out, sMix_len, HML.out]
  obtain ⟨B, hB⟩ : ∃ B, sealB KK s = B := ⟨_, rfl⟩
  rw [hB] at ho4 hbl HS
  have HBL := kept hbl
  have hO4 := ho4
  obtain ⟨A4, q4, c4, hv4, hc4, _, hm4, _, _⟩ := ho4.form
  subst hv4
  rw [hbl] at hO4 hc4 ⊢
  have HO4 := kept hO4
  have HM4 := kept hm4
  replace H0 := kept (H0.out.drew_.below k4 H0.out.lt)
  replace H1 := kept (H1.out.drew_.below k4 H1.out.lt)
  replace HM0 := kept (HM0.out.drew.below0 k4)
  replace HW0 := kept (below_next HW0.out.drew k4)
  have hw4 : W3.drew.heap.size ≤ W4.heap.size := k4.size
  have hw3 : w.heap.size ≤ W3.drew.heap.size := by have := HB; have := hg0; have := hg2; have := H2.out.lt; show w.heap.size ≤ W3.heap.size; omega
  clear k4 ho4 hO4 hm4 H2 HMM hB hbl
  go_wp2_with (first | (refine wpList_load_row rfl 22 (.tmp 3) rfl w.heap.size rfl 22 (bA 16 (ofL KK)) (0, 0) _ H0.out Tryd.underlying22 rfl (by rw [b16_size, bA_size]) ?_) | (refine wpList_load_row rfl 23 (.tmp 8) rfl g8 rfl 23 (bA 8 (ofL N)) (0, 0) _ H1.out Tryd.underlying23 rfl (by rw [b8_size, bA_size]) ?_))
  refine (rseal_any W4 KK N B u q4 (n - 24) c4 A4 HKL.out HNL.out HBL.out.symm HM4.out (by rw [HBL.out]; omega)).mono ?_
  rintro e W5 ⟨v5, rfl, ho5, k5⟩
  have hsl5 := sealS_len KK u N B HNL.out
  obtain ⟨A5, q5, c5, hv5, _, _, hm5, _, _⟩ := ho5.form
  subst hv5
  have HM5 := kept hm5
  replace HM0 := kept (HM0.out.below0 k5)
  replace HW0 := kept (below_next HW0.out k5)
  replace HO4 := kept (HO4.out.below k5)
  have HSL := kept hsl5
  clear ho5 k5 hm5 hsl5 H0 H1 HM4
  rw [HNN.out] at HS
  obtain ⟨T, hT⟩ : ∃ T, sealS KK u N B = T := ⟨_, rfl⟩
  rw [hT] at HM5 HS HSL ⊢
  clear hT
  go_wp2_with fail
  refine (same_any W5 q5 q A5 _ T.length n c5 c T s rfl HN.out (by rw [HSL.out, HBL.out]; omega) HM5.out HM0.out).mono ?_
  rintro e W6 ⟨rfl, nn, rfl⟩
  have HW6 := kept (below_drewN HW0.out nn)
  have HO6 := kept (HO4.out.drewN nn)
  by_cases hsame : sameB T s = true
  · rw [hsame]
    rw [hsame, if_pos rfl] at HS
    go_wp2_with fail
    go_ret2
    exact ⟨_, by rw [HS.out]; rfl, by rw [HS.out]; exact HO6.out.mono hw3, HW6.out⟩
  · rw [show sameB T s = false by simpa using hsame]
    rw [if_neg hsame] at HS
    go_wp2_with fail
    go_ret2
    exact ⟨_, by rw [HS.out]; rfl, by rw [HS.out]; exact Own.nil_ _ _, HW6.out⟩
end Go.Proofs.YtcjbplgjjhenkaaDoor
namespace Go.Proofs.YtcjbplgjjhenkaaDoor
open Go.RowKit
set_option linter.unusedVariables false
set_option linter.unusedSimpArgs false

/-- What Nonce returns. -/
def nonceL (s : List UInt8) : List UInt8 := if 24 ≤ s.length then s.take 8 else List.replicate 8 0
theorem zero8_ofL : bA 8 (fun _ => (0 : UInt8)) = bA 8 (ofL (List.replicate 8 0)) := bA_ext fun j hj => by
  unfold ofL
  rw [List.getD_eq_getElem?_getD, List.getElem?_replicate, if_pos hj]
  rfl
set_option maxRecDepth 100000 in
set_option maxHeartbeats 4000000 in
theorem nonce_any (w : World) (s : List UInt8) (q n c : Nat) (A : Option Addr) (hn : n = s.length) (hm : Mem w q A s) (hc : s.length ≤ c) (hl : s.length ≤ 1048600) :
    Calls Tryd.prog 13 #[.slice A n c] w fun e w' => e = .returned (.tuple #[.agg (bA 8 (ofL (nonceL s))), .bool (decide (24 ≤ s.length))]) ∧ Below w.heap.size w w' := by
  by_cases h24 : s.length < 24
  · have hd : decide (24 ≤ s.length) = false := by rw [decide_eq_false_iff_not]; omega
    unfold nonceL
    rw [hd, if_neg (by omega), ← zero8_ofL]
    have h1 : n < 24 := by omega
    clear hn hm hc hl hd h24
    go_enter Tryd.func13, Tryd.ntmps13
    go_upto_region 1 with (fail)
    go_name_world W0 hW0
    have H2 := kept (show Blk W0 w.heap.size 23 (bA 8 (fun _ => 0)) by rw [← hW0]; exact Blk.new w _ _)
    have HW0 := kept (show Below w.heap.size w W0 by rw [← hW0]; exact (Below.refl _ w).alloc (Nat.le_refl _) _)
    clear hW0
    go_wp2_with fail
    refine (divide_no W0 n c A h1).mono ?_
    rintro e W1 ⟨rfl, k1⟩
    replace H2 := kept (H2.out.below k1 H2.out.lt)
    have HW1 := kept (below_next HW0.out k1)
    clear HW0 k1
    go_upto_region 2 with (refine wpList_store_row rfl 47 (.tmp 4) (.tmp 9) rfl W1.heap.size divZ rfl rfl 47 divZ (Blk.new W1 _ _) (by rw [parts_size]; rfl) rfl divZ_one ?_)
    go_name_world W2 hW2
    replace H2 := kept (show Blk W2 w.heap.size 23 (bA 8 (fun _ => 0)) by rw [← hW2]; exact (H2.out.alloc _).row_far (by have := H2.out.lt; omega))
    have HW2 := kept (below_next HW1.out (show Below W1.heap.size W1 W2 by rw [← hW2]; exact below_setRow ((Below.refl _ W1).alloc (Nat.le_refl _) _) (Nat.le_refl _) _))
    clear hW2 HW1
    go_wp2_with (refine wpList_store_row rfl 23 (.tmp 2) (.tmp 13) rfl w.heap.size (bA 8 (fun _ => 0)) rfl rfl 23 (bA 8 (fun _ => 0)) H2.out (by rw [b8_size, bA_size]) rfl (bA_one _ _) ?_)
    (try simp only [Exit.inBlock, Exit.then])
    exact bodyPost_ret (v := .tuple #[.agg (bA 8 (fun _ => 0)), .bool false]) (results_row_tmp Tryd.results13 _ _ w.heap.size 23 (bA 8 (fun _ => 0)) (0, 0) _ rfl (setRow_heap _ _ _ _ _ _ H2.out) Tryd.underlying23 rfl (by rw [b8_size, bA_size])) rfl ⟨rfl, below_setRow HW2.out (Nat.le_refl _) _⟩
  · have hd : decide (24 ≤ s.length) = true := by rw [decide_eq_true_eq]; omega
    obtain ⟨o, rfl⟩ := hm.head (by omega)
    unfold nonceL
    rw [hd, if_pos (by omega)]
    have h1 : 24 ≤ n := by omega
    have h2 : n ≤ 1048600 := by omega
    have h3 : n ≤ c := by omega
    have HNL := kept (show (s.take 8).length = 8 by rw [List.length_take]; omega)
    have HMN := kept (hm.take 8)
    obtain ⟨N, hN⟩ : ∃ N, s.take 8 = N := ⟨_, rfl⟩
    rw [hN] at HNL HMN ⊢
    clear hN hn hm hc hl hd h24
    go_enter Tryd.func13, Tryd.ntmps13
    go_upto_region 1 with (fail)
    go_name_world W0 hW0
    have H2 := kept (show Blk W0 w.heap.size 23 (bA 8 (fun _ => 0)) by rw [← hW0]; exact Blk.new w _ _)
    have HW0 := kept (show Below w.heap.size w W0 by rw [← hW0]; exact (Below.refl _ w).alloc (Nat.le_refl _) _)
    clear hW0
    go_wp2_with fail
    refine (divide_yes W0 q o n c h1 h2 h3).mono ?_
    rintro e W1 ⟨rfl, k1⟩
    replace H2 := kept (H2.out.below k1 H2.out.lt)
    have HW1 := kept (below_next HW0.out k1)
    clear HW0 k1
    go_upto_region 2 with (refine wpList_store_row rfl 47 (.tmp 4) (.tmp 9) rfl W1.heap.size (divC q o n) rfl rfl 47 divZ (Blk.new W1 _ _) (by rw [parts_size]; rfl) rfl (divC_one _ _ _) ?_)
    go_name_world W2 hW2
    replace H2 := kept (show Blk W2 w.heap.size 23 (bA 8 (fun _ => 0)) by rw [← hW2]; exact (H2.out.alloc _).row_far (by have := H2.out.lt; omega))
    have HW2 := kept (below_next HW1.out (show Below W1.heap.size W1 W2 by rw [← hW2]; exact below_setRow ((Below.refl _ W1).alloc (Nat.le_refl _) _) (Nat.le_refl _) _))
    have H4 := kept (show Blk W2 W1.heap.size 47 (divC q o n) by rw [← hW2]; exact setRow_heap _ _ _ _ _ _ (Blk.new W1 _ _))
    have MN := kept (mem_range (HMN.out.below0 HW2.out))
    clear hW2 HW1 HMN h1 h2 h3
    generalize W1.heap.size = g4 at H4 ⊢
    have hc0 : W2.cell? ⟨g4, 0, none⟩ = some (.slice (some ⟨q, o, none⟩) 8 8) := by rw [H4.out.cell]; rfl
    have ha8 := fun w' => arr8 w' (some ⟨q, o, none⟩) 8 8 (Nat.le_refl _)
    go_wp2_with (first | (refine wpList_load_mid rfl 23 (.tmp 16) rfl q o rfl (N.map bv) _ MN.out Tryd.underlying23 rfl (by rw [b8_size, List.length_map, HNL.out]) ?_) | (refine wpList_store_row rfl 23 (.tmp 2) (.tmp 17) rfl w.heap.size (N.map bv).toArray rfl rfl 23 (bA 8 (fun _ => 0)) H2.out (by rw [b8_size, ← bA_ofL N HNL.out, bA_size]) (by rw [← bA_ofL N HNL.out, bA_size, bA_size]) (by rw [← bA_ofL N HNL.out]; exact bA_one _ _) ?_))
    (try simp only [Exit.inBlock, Exit.then])
    exact bodyPost_ret (v := .tuple #[.agg (N.map bv).toArray, .bool true]) (results_row_tmp Tryd.results13 _ _ w.heap.size 23 (N.map bv).toArray (0, 0) _ rfl (setRow_heap _ _ _ _ _ _ H2.out) Tryd.underlying23 rfl (by rw [b8_size, ← bA_ofL N HNL.out, bA_size])) rfl ⟨by rw [bA_ofL N HNL.out], below_setRow HW2.out (Nat.le_refl _) _⟩
end Go.Proofs.YtcjbplgjjhenkaaDoor
