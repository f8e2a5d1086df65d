/-
  Two parts of a stream that follow each other are one part: the law CtrJoins returns true for every input. No condition.
-/
import Derived.Test.YtnfgmgkdkfeekaaCtrLaw
import Derived.Test.YtnfgmgkdkfeekaaJoin
import Derived.Test.YtnfgmgkdkfeekaaFive
namespace Go.Proofs.Ytnfgmgkdkfeekaa.ctrJoins
open Go.ChangeShapes Go.WideShapes Go.ChangeAt Go.RowKit
set_option linter.unusedVariables false
set_option linter.unusedSimpArgs false

theorem memM_two {w : World} {g : Nat} {A1 A2 : Option Addr} {q1 q2 c1 c2 : Nat} {l1 l2 : List UInt8} (hg : g = w.heap.size) (h1 : Mem w q1 A1 l1) (h2 : Mem w q2 A2 l2) (hc1 : l1.length ≤ c1) (hc2 : l2.length ≤ c2) :
    MemM (w.alloc (.cells #[.slice A1 l1.length c1, .slice A2 l2.length c2] 27)) g (some ⟨g, 0, none⟩) [l1, l2] := by
  subst hg
  have hb : Blk (w.alloc (.cells #[.slice A1 l1.length c1, .slice A2 l2.length c2] 27)) w.heap.size 27 #[.slice A1 l1.length c1, .slice A2 l2.length c2] := Blk.new w _ _
  refine .inr ⟨0, rfl, fun j l hj => ?_⟩
  match j, hj with
  | 0, hj =>
    injection hj with hj
    subst hj
    exact ⟨A1, q1, c1, by rw [hb.cell]; rfl, h1.alloc _, hc1⟩
  | 1, hj =>
    injection hj with hj
    subst hj
    exact ⟨A2, q2, c2, by rw [hb.cell]; rfl, h2.alloc _, hc2⟩
  | n + 2, hj => simp at hj
set_option maxHeartbeats 4000000 in
set_option maxRecDepth 100000 in
theorem walk (w : World) (key nonce : Nat → UInt8) (a n m : Nat) (ha : a < 65536) (hn : n < 256) (hm : m < 256) :
    Calls Try.prog 7 #[.agg (bA 16 key), .agg (bA 8 nonce), .int .u16 (a : Int), .int .u8 (n : Int), .int .u8 (m : Int)] w fun e w' => e = .returned (.bool true) ∧ Below w.heap.size w w' := by
  have ha' : (a : Int) < 65536 := by omega
  have hn' : (n : Int) < 256 := by omega
  have hm' : (m : Int) < 256 := by omega
  have wa : IntKind.i64.wrap (a : Int) = (a : Int) := IntWalk.i64_in _ (by omega)
  have wn : IntKind.i64.wrap (n : Int) = (n : Int) := IntWalk.i64_in _ (by omega)
  have wm : IntKind.i64.wrap (m : Int) = (m : Int) := IntWalk.i64_in _ (by omega)
  have wnm : IntKind.i64.wrap ((n : Int) + (m : Int)) = (n : Int) + (m : Int) := IntWalk.i64_in _ (by omega)
  have HS := kept (show ∀ w' (x y : Nat), x < 70000 → y < 600 → Calls Try.prog 10 #[.agg (bA 16 key), .agg (bA 8 nonce), .int .i64 (x : Int), .int .i64 (y : Int)] w' fun e w'' => ∃ v, e = .returned v ∧ Own w'' w'.heap.size v (sPart (cStr key nonce) x y) ∧ Below w'.heap.size w' w'' from fun w' x y hx hy => by
    have h := cstream_any w' key nonce (x : Int) (y : Int) (by omega) (by omega)
    rwa [sStream_in _ x y (by omega) (by omega)] at h)
  generalize cStr key nonce = f at HS
  go_enter Try.func7, Try.ntmps7
  go_upto_region 1 with (fail)
  go_name_world W0 hW0
  have n0 := Blk.new w 22 (bA 16 key)
  have n1 := Blk.new (w.alloc (.cells (bA 16 key) 22)) 23 (bA 8 nonce)
  simp only [World.size_alloc] at n1
  have H0 := kept (show Blk W0 w.heap.size 22 (bA 16 key) by rw [← hW0]; exact (n0.alloc _))
  have H1 := kept (show Blk W0 (w.heap.size + 1) 23 (bA 8 nonce) by rw [← hW0]; exact n1)
  have HW := kept (show Below w.heap.size w W0 by rw [← hW0]; exact ((Below.refl w.heap.size w).alloc (Nat.le_refl _) (.cells (bA 16 key) 22)).alloc (by simp) (.cells (bA 8 nonce) 23))
  clear hW0 n0 n1
  go_wp2_with fail
  refine (cawake_any W0).mono ?_
  rintro e W1 ⟨rfl, k⟩
  replace H0 := kept (H0.out.below k H0.out.lt)
  replace H1 := kept (H1.out.below k H1.out.lt)
  replace HW := kept (below_next HW.out k)
  clear k
  go_upto_region 3 with (fail)
  go_wp2_with (first | (refine wpList_load_row rfl 22 (.tmp 5) rfl w.heap.size rfl 22 (bA 16 key) (0, 0) _ H0.out Try.underlying22 rfl (by rw [b16_size, bA_size]) ?_) | (refine wpList_load_row rfl 23 (.tmp 6) rfl (w.heap.size + 1) rfl 23 (bA 8 nonce) (0, 0) _ H1.out Try.underlying23 rfl (by rw [b8_size, bA_size]) ?_))
  refine (HS.out W1 a n (by omega) (by omega)).mono ?_
  rintro e W2 ⟨v2, rfl, o2, k⟩
  replace H0 := kept (H0.out.below k H0.out.lt)
  replace H1 := kept (H1.out.below k H1.out.lt)
  replace HW := kept (below_next HW.out k)
  clear k
  obtain ⟨A2, q2, c2, hv2, hc2, hcm2, mo2, x2⟩ := o2.form
  subst hv2
  have M2 := kept mo2
  have HC2 := kept hc2
  rw [sPart_len] at hc2
  rw [sPart_len]
  clear o2 mo2 x2 hc2 hcm2
  go_wp2_with (first | (refine wpList_load_row rfl 22 (.tmp 5) rfl w.heap.size rfl 22 (bA 16 key) (0, 0) _ H0.out Try.underlying22 rfl (by rw [b16_size, bA_size]) ?_) | (refine wpList_load_row rfl 23 (.tmp 6) rfl (w.heap.size + 1) rfl 23 (bA 8 nonce) (0, 0) _ H1.out Try.underlying23 rfl (by rw [b8_size, bA_size]) ?_))
  refine (HS.out W2 (a + n) m (by omega) (by omega)).mono ?_
  rintro e W3 ⟨v3, rfl, o3, k⟩
  replace H0 := kept (H0.out.below k H0.out.lt)
  replace H1 := kept (H1.out.below k H1.out.lt)
  replace HW := kept (below_next HW.out k)
  replace M2 := kept (M2.out.below0 k)
  clear k
  obtain ⟨A3, q3, c3, hv3, hc3, hcm3, mo3, x3⟩ := o3.form
  subst hv3
  have M3 := kept mo3
  have HC3 := kept hc3
  rw [sPart_len] at hc3
  rw [sPart_len]
  clear o3 mo3 x3 hc3 hcm3
  have HJ := kept (sPart_add f a n m)
  have HL2 := kept (sPart_len f a n)
  have HL3 := kept (sPart_len f (a + n) m)
  have HL := kept (sPart_len f a (n + m))
  have HS3 := kept (fun w' => HS.out w' a (n + m) (by omega) (by omega))
  generalize sPart f a n = L2 at *
  generalize sPart f (a + n) m = L3 at *
  generalize sPart f a (n + m) = L at *
  clear HS
  go_upto_region 5 with (fail)
  have R0 := kept (show ∀ w', Below W3.heap.size W3 w' → w'.rangeAt w.heap.size 0 (bA 16 key).toList from fun w' h => (H0.out.below h H0.out.lt).range)
  have R1 := kept (show ∀ w', Below W3.heap.size W3 w' → w'.rangeAt (w.heap.size + 1) 0 (bA 8 nonce).toList from fun w' h => (H1.out.below h H1.out.lt).range)
  refine wp_region_flow 16 (fun w' => Below W3.heap.size W3 w') [fun v _ => v = .slice A2 (n : Nat) c2, fun v _ => v = .slice A3 (m : Nat) c3, fun v w' => ∃ g, v = .slice (some ⟨g, 0, none⟩) 2 2 ∧ MemM w' g (some ⟨g, 0, none⟩) [L2, L3], fun v w' => Own w' W3.heap.size v L, fun v _ => v = .agg (bA 16 key), fun v _ => v = .agg (bA 8 nonce), fun v _ => v = .int .u16 (a : Int), fun v _ => v = .int .i64 (a : Int), fun v _ => v = .int .u8 (n : Int), fun v _ => v = .int .i64 (n : Int), fun v _ => v = .int .u8 (m : Int), fun v _ => v = .int .i64 (m : Int), fun v _ => v = .int .i64 ((n + m : Nat) : Int), fun v w' => Own w' W3.heap.size v L, fun v _ => v = .bool true, fun v _ => v = .bool true] (by kernel_rfl) (by kernel_rfl) rfl (Below.refl _ W3).drew (fun _ _ h k => below_next h k) ?_ ?_ ?_
  · exact stable_cons (stable_eq _) (stable_cons (stable_eq _) (stable_cons (fun v w' w'' h k => by obtain ⟨g, h1, h2⟩ := h; exact ⟨g, h1, h2.below0 k⟩) (stable_cons (stable_own _ _) (stable_cons (stable_eq _) (stable_cons (stable_eq _) (stable_cons (stable_eq _) (stable_cons (stable_eq _) (stable_cons (stable_eq _) (stable_cons (stable_eq _) (stable_cons (stable_eq _) (stable_cons (stable_eq _) (stable_cons (stable_eq _) (stable_cons (stable_own _ _) (stable_cons (stable_eq _) (stable_cons (stable_eq _) (stable_nil))))))))))))))))
  · simp only [List.take_succ_cons, List.take_zero]
    refine OweAll.cons ?_ (OweAll.cons ?_ (OweAll.cons ?_ (OweAll.cons ?_ (OweAll.cons ?_ (OweAll.cons ?_ (OweAll.cons ?_ (OweAll.cons ?_ (OweAll.cons ?_ (OweAll.cons ?_ (OweAll.cons ?_ (OweAll.cons ?_ (OweAll.cons ?_ (OweAll.cons ?_ (OweAll.cons ?_ (OweAll.cons ?_ OweAll.nil)))))))))))))))
    · intro us w' A hA hC hd K hK
      exact flow_value (.slice A2 (n : Nat) c2) (by rw [hA]; kernel_rfl) (by rw [hA]; kernel_rfl) rfl hK
    · intro us w' A hA hC hd K hK
      exact flow_value (.slice A3 (m : Nat) c3) (by rw [hA]; kernel_rfl) (by rw [hA]; kernel_rfl) rfl hK
    · intro us w' A hA hC hd K hK
      have e0 : us 0 = .slice A2 (n : Nat) c2 := hd 0 (by kernel_rfl)
      have e1 : us 1 = .slice A3 (m : Nat) c3 := hd 1 (by kernel_rfl)
      have ev32 : A.tmps[32]?.getD undef = us 0 := by rw [hA]; kernel_rfl
      rw [e0] at ev32
      have ev33 : A.tmps[33]?.getD undef = us 1 := by rw [hA]; kernel_rfl
      rw [e1] at ev33
      refine flow_make (w1 := w'.alloc (.cells #[.slice A2 n c2, .slice A3 m c3] 27)) (.slice (some ⟨w'.heap.size, 0, none⟩) 2 2) (by rw [hA]; kernel_rfl) ?_ ((Below.refl _ w').alloc (Nat.le_refl _) _) (⟨w'.heap.size, rfl, by have h := memM_two (w := w') (g := w'.heap.size) rfl (M2.out.below0 hC) (M3.out.below0 hC) HC2.out HC3.out; rw [HL2.out, HL3.out] at h; exact h⟩) hK
      clear hA hd hK
      go_simp
    · intro us w' A hA hC hd K hK
      obtain ⟨g2, e2, mm2⟩ : ∃ g, us 2 = .slice (some ⟨g, 0, none⟩) 2 2 ∧ MemM w' g (some ⟨g, 0, none⟩) [L2, L3] := hd 2 (by kernel_rfl)
      refine flow_call 14 #[us 2] (by rw [hA]; kernel_rfl) (fun _ => by rw [hA]; kernel_rfl) ?_ hK
      rw [e2]
      have h := rejoin_any w' g2 (some ⟨g2, 0, none⟩) 2 2 [L2, L3] rfl mm2 (by simp) (by simp [HL2.out, HL3.out]; omega)
      rw [show [L2, L3].flatten = L by rw [HJ.out]; simp] at h
      exact h.mono fun e w2 ⟨v, he, ho, hb⟩ => ⟨v, he, ho.mono hC.size, hb⟩
    · intro us w' A hA hC hd K hK
      exact flow_load (φ := fun v _ => v = .agg (bA 16 key)) (by rw [hA]; kernel_rfl) 22 (.tmp 5) rfl w.heap.size 0 (by rw [hA]; kernel_rfl) (bA 16 key).toList _ (R0.out w' hC) Try.underlying22 rfl (s16_len _) rfl hK
    · intro us w' A hA hC hd K hK
      exact flow_load (φ := fun v _ => v = .agg (bA 8 nonce)) (by rw [hA]; kernel_rfl) 23 (.tmp 6) rfl (w.heap.size + 1) 0 (by rw [hA]; kernel_rfl) (bA 8 nonce).toList _ (R1.out w' hC) Try.underlying23 rfl (s8_len _) rfl hK
    · intro us w' A hA hC hd K hK
      exact flow_value (.int .u16 (a : Int)) (by rw [hA]; kernel_rfl) (by rw [hA]; kernel_rfl) rfl hK
    · intro us w' A hA hC hd K hK
      have e6 : us 6 = .int .u16 (a : Int) := hd 6 (by kernel_rfl)
      have ev38 : A.tmps[38]?.getD undef = us 6 := by rw [hA]; kernel_rfl
      rw [e6] at ev38
      refine flow_value (.int .i64 (a : Int)) (by rw [hA]; kernel_rfl) ?_ rfl hK
      clear hA hd hK
      go_simp
    · intro us w' A hA hC hd K hK
      exact flow_value (.int .u8 (n : Int)) (by rw [hA]; kernel_rfl) (by rw [hA]; kernel_rfl) rfl hK
    · intro us w' A hA hC hd K hK
      have e8 : us 8 = .int .u8 (n : Int) := hd 8 (by kernel_rfl)
      have ev40 : A.tmps[40]?.getD undef = us 8 := by rw [hA]; kernel_rfl
      rw [e8] at ev40
      refine flow_value (.int .i64 (n : Int)) (by rw [hA]; kernel_rfl) ?_ rfl hK
      clear hA hd hK
      go_simp
    · intro us w' A hA hC hd K hK
      exact flow_value (.int .u8 (m : Int)) (by rw [hA]; kernel_rfl) (by rw [hA]; kernel_rfl) rfl hK
    · intro us w' A hA hC hd K hK
      have e10 : us 10 = .int .u8 (m : Int) := hd 10 (by kernel_rfl)
      have ev42 : A.tmps[42]?.getD undef = us 10 := by rw [hA]; kernel_rfl
      rw [e10] at ev42
      refine flow_value (.int .i64 (m : Int)) (by rw [hA]; kernel_rfl) ?_ rfl hK
      clear hA hd hK
      go_simp
    · intro us w' A hA hC hd K hK
      have e9 : us 9 = .int .i64 (n : Int) := hd 9 (by kernel_rfl)
      have e11 : us 11 = .int .i64 (m : Int) := hd 11 (by kernel_rfl)
      have ev41 : A.tmps[41]?.getD undef = us 9 := by rw [hA]; kernel_rfl
      rw [e9] at ev41
      have ev43 : A.tmps[43]?.getD undef = us 11 := by rw [hA]; kernel_rfl
      rw [e11] at ev43
      refine flow_value (.int .i64 ((n + m : Nat) : Int)) (by rw [hA]; kernel_rfl) ?_ rfl hK
      clear hA hd hK
      go_simp
    · intro us w' A hA hC hd K hK
      have e4 : us 4 = .agg (bA 16 key) := hd 4 (by kernel_rfl)
      have e5 : us 5 = .agg (bA 8 nonce) := hd 5 (by kernel_rfl)
      have e7 : us 7 = .int .i64 (a : Int) := hd 7 (by kernel_rfl)
      have e12 : us 12 = .int .i64 ((n + m : Nat) : Int) := hd 12 (by kernel_rfl)
      refine flow_call 10 #[us 4, us 5, us 7, us 12] (by rw [hA]; kernel_rfl) (fun _ => by rw [hA]; kernel_rfl) ?_ hK
      rw [e4, e5, e7, e12]
      exact (HS3.out w').mono fun e w2 ⟨v, he, ho, hb⟩ => ⟨v, he, ho.mono hC.size, hb⟩
    · intro us w' A hA hC hd K hK
      have o3 : Own w' W3.heap.size (us 3) L := hd 3 (by kernel_rfl)
      obtain ⟨A3, q3, c3, e3, hc3, hm3, m3, x3⟩ := o3.form
      have o13 : Own w' W3.heap.size (us 13) L := hd 13 (by kernel_rfl)
      obtain ⟨A13, q13, c13, e13, hc13, hm13, m13, x13⟩ := o13.form
      refine flow_call 9 #[us 3, us 13] (by rw [hA]; kernel_rfl) (fun _ => by rw [hA]; kernel_rfl) ?_ hK
      rw [e3, e13]
      exact calls_known (same_b w' q3 q13 A3 A13 _ _ c3 c13 L rfl rfl (by have := HL.out; omega) m3 m13)
    · intro us w' A hA hC hd K hK
      have e14 : us 14 = .bool true := hd 14 (by kernel_rfl)
      have ev46 : A.tmps[46]?.getD undef = us 14 := by rw [hA]; kernel_rfl
      rw [e14] at ev46
      refine flow_value (.bool true) (by rw [hA]; kernel_rfl) ?_ rfl hK
      clear hA hd hK
      go_simp
  · intro us w' A hA hC hd
    subst hA
    have e0 : us 0 = .slice A2 (n : Nat) c2 := hd 0 (by omega)
    have e1 : us 1 = .slice A3 (m : Nat) c3 := hd 1 (by omega)
    obtain ⟨g2, e2, mm2⟩ : ∃ g, us 2 = .slice (some ⟨g, 0, none⟩) 2 2 ∧ MemM w' g (some ⟨g, 0, none⟩) [L2, L3] := hd 2 (by omega)
    have o3 : Own w' W3.heap.size (us 3) L := hd 3 (by omega)
    obtain ⟨A3, q3, c3, e3, hc3, hm3, m3, x3⟩ := o3.form
    have e4 : us 4 = .agg (bA 16 key) := hd 4 (by omega)
    have e5 : us 5 = .agg (bA 8 nonce) := hd 5 (by omega)
    have e6 : us 6 = .int .u16 (a : Int) := hd 6 (by omega)
    have e7 : us 7 = .int .i64 (a : Int) := hd 7 (by omega)
    have e8 : us 8 = .int .u8 (n : Int) := hd 8 (by omega)
    have e9 : us 9 = .int .i64 (n : Int) := hd 9 (by omega)
    have e10 : us 10 = .int .u8 (m : Int) := hd 10 (by omega)
    have e11 : us 11 = .int .i64 (m : Int) := hd 11 (by omega)
    have e12 : us 12 = .int .i64 ((n + m : Nat) : Int) := hd 12 (by omega)
    have o13 : Own w' W3.heap.size (us 13) L := hd 13 (by omega)
    obtain ⟨A13, q13, c13, e13, hc13, hm13, m13, x13⟩ := o13.form
    have e14 : us 14 = .bool true := hd 14 (by omega)
    have e15 : us 15 = .bool true := hd 15 (by omega)
    simp only [List.take_succ_cons, List.take_zero, List.drop_succ_cons, List.drop_zero, fillAct, Act.put, Nat.zero_add, Nat.reduceAdd, List.setIfInBounds_toArray, List.set_cons_zero, List.set_cons_succ, e0, e1, e2, e3, e4, e5, e6, e7, e8, e9, e10, e11, e12, e13, e14, e15]
    clear hd R0 R1 HS3
    have hW := HW.out.trans (hC.mono HW.out.size)
    go_wp2
    go_ret
    exact ⟨rfl, hW⟩

set_option maxRecDepth 100000 in
theorem lifted (os : Os) (started : os.Started) (H : Type) (enc : TypeId × Value → H) :
    ReturnsInHanded {} Try.checked os 7 .any (Rows.ctrJoinsSpec.pre6 enc Try.prog Try.f7 Rows.ctrJoinsRow.domain false) (Rows.ctrJoinsSpec.post enc Try.prog Try.f7 false true false false) := by
  refine returnsInHanded_of_change (C := Try.checked) own_knob started (by kernel_rfl) Try.func7
    (ChangeSpec.witness6 (enc := enc) (C := Try.checked) false ⟨#[], #[.agg #[.int .u8 0, .int .u8 0, .int .u8 0, .int .u8 0, .int .u8 0, .int .u8 0, .int .u8 0, .int .u8 0, .int .u8 0, .int .u8 0, .int .u8 0, .int .u8 0, .int .u8 0, .int .u8 0, .int .u8 0, .int .u8 0], .agg #[.int .u8 0, .int .u8 0, .int .u8 0, .int .u8 0, .int .u8 0, .int .u8 0, .int .u8 0, .int .u8 0], .int .u16 0, .int .u8 0, .int .u8 0], []⟩ 8 (by kernel_rfl) (by kernel_rfl) (by kernel_rfl) (by kernel_rfl)) ?_
  intro W base args ds gs before hval0 hW hcnd _
  have hval : ∀ (j : Nat) t v, Try.f7.params[j]? = some t → args[j]? = some v → Value.okWide Try.prog W .any base t v := hval0
  have hW' := hW
  obtain ⟨p, q, hA0, hV, rfl, hfz, hnd⟩ := hW
  have hA : DataW.TrodAll enc Try.prog W 0 (fun _ => true) true Try.f7.params.toList args.toList ds p := hA0
  rw [Try.params7] at hA hval
  obtain ⟨v0, v1, v2, v3, v4, d0, d1, d2, d3, d4, p0, p1, p2, p3, p4, rfl, rfl, rfl, h0, h1, h2, h3, h4⟩ := trodAll_five hA
  obtain ⟨rfl, rfl⟩ := trodVars_none hV
  have hvl0 := hval 0 22 v0 rfl rfl
  have hvl1 := hval 1 23 v1 rfl rfl
  have hvl2 := hval 2 45 v2 rfl rfl
  have hvl3 := hval 3 5 v3 rfl rfl
  have hvl4 := hval 4 5 v4 rfl rfl
  obtain ⟨f0, hv0, hw0⟩ := open_arrInt _ _ 16 Try.underlying22 .u8 Try.underlying5 (by kernel_rfl) (by kernel_rfl) hvl0 h0
  obtain ⟨key, hb0⟩ := bytes_of_arr 16 f0 hw0
  rw [hb0] at hv0
  subst hv0
  obtain ⟨f1, hv1, hw1⟩ := open_arrInt _ _ 8 Try.underlying23 .u8 Try.underlying5 (by kernel_rfl) (by kernel_rfl) hvl1 h1
  obtain ⟨nonce, hb1⟩ := bytes_of_arr 8 f1 hw1
  rw [hb1] at hv1
  subst hv1
  obtain ⟨z2, rfl, rfl, rfl, w2⟩ := open_int Try.underlying45 hvl2 h2
  obtain ⟨z3, rfl, rfl, rfl, w3⟩ := open_int Try.underlying5 hvl3 h3
  obtain ⟨z4, rfl, rfl, rfl, w4⟩ := open_int Try.underlying5 hvl4 h4
  have f2 : IntKind.u16.min ≤ z2 ∧ z2 ≤ IntKind.u16.max := by simpa [Lit.wf] using w2
  have g2 : 0 ≤ z2 ∧ z2 ≤ 65535 := f2
  obtain ⟨b3, rfl⟩ := byte_of_lit w3
  obtain ⟨b4, rfl⟩ := byte_of_lit w4
  obtain ⟨a, rfl⟩ := Int.eq_ofNat_of_zero_le g2.1
  clear hA0 hval0
  refine (walk W key nonce a b3.toNat b4.toNat (by omega) (byte_lt b3) (byte_lt b4)).mono fun e W' ⟨he, bel⟩ => ?_
  subst he
  exact ⟨_, rfl, _, _, _, [], _, [], hW', trodAll_mk1 (shut_bool Try.underlying4 _), trodAll_mk5 (keep_arg (by kernel_rfl) (of_decide_eq_true (by kernel_rfl)) h0 bel) (keep_arg (by kernel_rfl) (of_decide_eq_true (by kernel_rfl)) h1 bel) (shut_int Try.underlying45 w2) (shut_int Try.underlying5 w3) (shut_int Try.underlying5 w4), rfl, bel.frame _, fun h => by cases h⟩

theorem over : Rows.ctrJoinsRow.holds Try.pinned (OpenSpec.ofChange Rows.ctrJoinsSpec) :=
  OpenClaim.holds_of_wide 7 Try.f7 rfl rfl rfl rfl rfl rfl rfl ⟨rfl, rfl, rfl, rfl, rfl⟩ rfl rfl rfl rfl rfl (by kernel_rfl) Try.func7 (by kernel_rfl)
    (of_decide_eq_true (by kernel_rfl)) (by unfold Func.isWrapper; first | (rw [if_pos (by decide +kernel)]; kernel_rfl) | (rw [if_neg (by decide +kernel)]; exact ⟨rfl, rfl⟩))
    (fun os started H enc _ => lifted os started H enc)

/-- The statement. -/
theorem proved : Rows.CtrJoinsSaid := over
#print axioms proved
end Go.Proofs.Ytnfgmgkdkfeekaa.ctrJoins
