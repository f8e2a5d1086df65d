/-
  NameApart: two names have the same bytes exactly if they are the same, and the bytes of one name are no beginning of those of another one.
-/
import Derived.Test.YtnejidaplbonoaaNameAwk
import Derived.Test.YtnejidaplbonoaaNameF
import Derived.Test.YtnejidaplbonoaaOpenN
import Derived.Test.YtnejidaplbonoaaSame
import Derived.Test.YtnejidaplbonoaaSameB
import Derived.Test.YtnejidaplbonoaaFlow
namespace Go.Proofs.Ytnejidaplbonoaa.nameApart
open Go.ChangeShapes Go.WideShapes Go.ChangeAt Go.RowKit
set_option linter.unusedVariables false
set_option linter.unusedSimpArgs false
theorem slice_upto {w : World} (A : Option Addr) (n c m : Nat) (h : m ≤ c) : (Instr.slice 28 (.slice A n c) none (some (.int .i64 (m : Int))) none).run Try.prog w = .ok (.slice A m c) w := by
  have e : Try.prog.elem 28 = 5 := by simp [Program.elem, Try.underlying28]
  rw [run_slice_h w 28 A n c (by rw [e]; exact Try.underlying28) .i64 (m : Int) (by omega) (by omega)]
  rw [e, show (sizeOf 5).run Try.prog w = .ok 1 w by
    have h := u8_size
    cases hq : Try.prog.info? 5 with
    | none => rw [hq] at h; cases h
    | some i =>
      rw [hq] at h
      have hs : i.size = 1 := by simpa using h
      simp [sizeOf, typeInfo, hq, hs]]
  show Result.ok (sliced _ _ _ _ _) w = _
  unfold sliced
  rw [show (m : Int).toNat = m by omega, Nat.zero_mul, Nat.sub_zero, Nat.sub_zero]
  split
  · rfl
  · cases A with
    | none => rfl
    | some ad => rw [Option.map_some, show ad.add 0 = ad by simp [Addr.add]]
theorem same_whole {a b : Nm} (ha : isN a = true) (hb : isN b = true) : sameB (bytesO a) (bytesO b) = decide (a = b) := by
  unfold bytesO sameB
  rw [if_pos ha, if_pos hb]
  by_cases h : a = b
  · rw [decide_eq_true h, decide_eq_true (by rw [h])]
  · rw [decide_eq_false h, decide_eq_false fun e => h (bytesN_inj ha hb e)]
theorem same_part {a b : Nm} (ha : isN a = true) (hb : isN b = true) : sameB ((bytesO a).take (min (bytesO a).length (bytesO b).length)) ((bytesO b).take (min (bytesO a).length (bytesO b).length)) = decide (a = b) := by
  unfold bytesO sameB
  rw [if_pos ha, if_pos hb]
  by_cases h : a = b
  · rw [decide_eq_true h, decide_eq_true (by rw [h])]
  · rw [decide_eq_false h, decide_eq_false fun e => h (bytesN_apart ha hb _ e rfl)]
set_option maxHeartbeats 4000000 in
set_option maxRecDepth 100000 in
theorem walk_any (w : World) (R1 R2 : ByteArray) (L1 L2 : List ByteArray) (q1 q2 c1 c2 : Nat) (A1 A2 : Option Addr) (hR1 : R1.size ≤ maxLen) (hR2 : R2.size ≤ maxLen) (hS1 : ∀ s ∈ L1, s.size ≤ maxLen) (hS2 : ∀ s ∈ L2, s.size ≤ maxLen) (hl1 : L1.length ≤ maxLen) (hl2 : L2.length ≤ maxLen) (hm1 : MemS w q1 A1 L1) (hm2 : MemS w q2 A2 L2) :
    Calls Try.prog 6 #[.agg #[.string R1, .slice A1 L1.length c1], .agg #[.string R2, .slice A2 L2.length c2]] w fun e w' => e = .returned (.bool true) ∧ Below w.heap.size w w' := by
  have HR1 := kept hR1
  have HR2 := kept hR2
  have HS1 := kept hS1
  have HS2 := kept hS2
  have HL1 := kept hl1
  have HL2 := kept hl2
  have M1 := kept hm1
  have M2 := kept hm2
  clear hR1 hR2 hS1 hS2 hl1 hl2 hm1 hm2
  go_enter Try.func6, Try.ntmps6
  go_upto_region 1 with (fail)
  go_name_world W0 hW0
  have H1 := kept (show Blk W0 w.heap.size 24 #[.string R1, .slice A1 L1.length c1] by rw [← hW0]; exact (Blk.new w _ _).alloc _)
  have H2 := kept (show Blk W0 (w.heap.size + 1) 24 #[.string R2, .slice A2 L2.length c2] by
    rw [← hW0]
    have n1 := Blk.new (w.alloc (.cells #[.string R1, .slice A1 L1.length c1] 24)) 24 #[.string R2, .slice A2 L2.length c2]
    rw [World.size_alloc] at n1
    exact n1)
  have HW := kept (show Below w.heap.size w W0 by rw [← hW0]; exact ((Below.refl _ w).alloc (Nat.le_refl _) _).alloc (by simp) _)
  replace M1 := kept (M1.out.below0 HW.out)
  replace M2 := kept (M2.out.below0 HW.out)
  clear hW0
  go_wp2_with fail
  refine (nawake_any W0).mono ?_
  rintro e W1 ⟨rfl, k⟩
  replace H1 := kept (H1.out.below k H1.out.lt)
  replace H2 := kept (H2.out.below k H2.out.lt)
  replace M1 := kept (M1.out.below0 k)
  replace M2 := kept (M2.out.below0 k)
  replace HW := kept (below_next HW.out k)
  clear k
  go_wp2_with (refine wpList_load_row_w (by rfl) 24 (.tmp 2) rfl w.heap.size rfl 24 #[.string R1, .slice A1 L1.length c1] (0, 0) _ H1.out Try.underlying24 rfl (by rw [nm_size]; rfl) ?_)
  refine (refew_any W1 R1 L1 q1 A1 c1 (by have := HL1.out; unfold maxLen at this; omega) M1.out).mono ?_
  rintro e W2 ⟨rfl, k⟩
  replace H1 := kept (H1.out.below k H1.out.lt)
  replace H2 := kept (H2.out.below k H2.out.lt)
  replace M1 := kept (M1.out.below0 k)
  replace M2 := kept (M2.out.below0 k)
  replace HW := kept (below_next HW.out k)
  clear k
  cases h : isF (R1, L1) with
  | false =>
    clear h
    go_wp2_with fail
    refine (nawake_any W2).mono ?_
    rintro e W9 ⟨rfl, k⟩
    replace HW := kept (below_next HW.out k)
    clear k
    go_wp2_with fail
    go_ret
    exact ⟨rfl, HW.out⟩
  | true =>
    have HV := kept h
    clear h
    clear HV
    go_wp2_with (refine wpList_load_row_w (by rfl) 24 (.tmp 3) rfl (w.heap.size + 1) rfl 24 #[.string R2, .slice A2 L2.length c2] (0, 0) _ H2.out Try.underlying24 rfl (by rw [nm_size]; rfl) ?_)
    refine (refew_any W2 R2 L2 q2 A2 c2 (by have := HL2.out; unfold maxLen at this; omega) M2.out).mono ?_
    rintro e W3 ⟨rfl, k⟩
    replace H1 := kept (H1.out.below k H1.out.lt)
    replace H2 := kept (H2.out.below k H2.out.lt)
    replace M1 := kept (M1.out.below0 k)
    replace M2 := kept (M2.out.below0 k)
    replace HW := kept (below_next HW.out k)
    clear k
    cases h : isF (R2, L2) with
    | false =>
      clear h
      go_wp2_with fail
      refine (nawake_any W3).mono ?_
      rintro e W9 ⟨rfl, k⟩
      replace HW := kept (below_next HW.out k)
      clear k
      go_wp2_with fail
      go_ret
      exact ⟨rfl, HW.out⟩
    | true =>
      have HV := kept h
      clear h
      clear HV
      go_wp2_with (refine wpList_load_row_w (by rfl) 24 (.tmp 2) rfl w.heap.size rfl 24 #[.string R1, .slice A1 L1.length c1] (0, 0) _ H1.out Try.underlying24 rfl (by rw [nm_size]; rfl) ?_)
      refine (revalid_any W3 R1 L1 q1 A1 c1 HR1.out HS1.out (by have := HL1.out; unfold maxLen at this; omega) M1.out).mono ?_
      rintro e W4 ⟨rfl, k⟩
      replace H1 := kept (H1.out.below k H1.out.lt)
      replace H2 := kept (H2.out.below k H2.out.lt)
      replace M1 := kept (M1.out.below0 k)
      replace M2 := kept (M2.out.below0 k)
      replace HW := kept (below_next HW.out k)
      clear k
      cases h : isN (R1, L1) with
      | false =>
        clear h
        go_wp2_with fail
        refine (nawake_any W4).mono ?_
        rintro e W9 ⟨rfl, k⟩
        replace HW := kept (below_next HW.out k)
        clear k
        go_wp2_with fail
        go_ret
        exact ⟨rfl, HW.out⟩
      | true =>
        have HV := kept h
        clear h
        have HVA := kept HV.out
        clear HV
        go_wp2_with (refine wpList_load_row_w (by rfl) 24 (.tmp 3) rfl (w.heap.size + 1) rfl 24 #[.string R2, .slice A2 L2.length c2] (0, 0) _ H2.out Try.underlying24 rfl (by rw [nm_size]; rfl) ?_)
        refine (revalid_any W4 R2 L2 q2 A2 c2 HR2.out HS2.out (by have := HL2.out; unfold maxLen at this; omega) M2.out).mono ?_
        rintro e W5 ⟨rfl, k⟩
        replace H1 := kept (H1.out.below k H1.out.lt)
        replace H2 := kept (H2.out.below k H2.out.lt)
        replace M1 := kept (M1.out.below0 k)
        replace M2 := kept (M2.out.below0 k)
        replace HW := kept (below_next HW.out k)
        clear k
        cases h : isN (R2, L2) with
        | false =>
          clear h
          go_wp2_with fail
          refine (nawake_any W5).mono ?_
          rintro e W9 ⟨rfl, k⟩
          replace HW := kept (below_next HW.out k)
          clear k
          go_wp2_with fail
          go_ret
          exact ⟨rfl, HW.out⟩
        | true =>
          have HV := kept h
          clear h
          have HVB := kept HV.out
          clear HV
          go_upto_region 3 with (fail)
          have HV1 := kept HVA.out
          have HV2 := kept HVB.out
          have HS12 := kept (same_whole HV1.out HV2.out)
          have HS13 := kept (same_part HV1.out HV2.out)
          have hB1 := kept (nbytes_any W5 R1 L1 q1 A1 c1 HR1.out HS1.out HL1.out M1.out)
          go_wp2_with (refine wpList_load_row_w (by rfl) 24 (.tmp 2) rfl w.heap.size rfl 24 #[.string R1, .slice A1 L1.length c1] (0, 0) _ H1.out Try.underlying24 rfl (by rw [nm_size]; rfl) ?_)
          refine (hB1.out).mono ?_
          rw [HV1.out]
          rintro e W6 ⟨v6, rfl, ho6, k⟩
          clear hB1
          replace H1 := kept (H1.out.below k H1.out.lt)
          replace H2 := kept (H2.out.below k H2.out.lt)
          replace M1 := kept (M1.out.below0 k)
          replace M2 := kept (M2.out.below0 k)
          replace HW := kept (below_next HW.out k)
          clear k
          obtain ⟨A6, q6, c6, hv6, hc6, _, hm6, _, _⟩ := ho6.form
          obtain ⟨nx, hnx⟩ : ∃ nx, (bytesO (R1, L1)).length = nx := ⟨_, rfl⟩
          rw [hnx] at hv6 hc6
          subst hv6
          have M6 := kept hm6
          have HC6 := kept hc6
          have HL6 := kept hnx
          clear ho6 hm6 hc6 hnx
          have hB2 := kept (nbytes_any W6 R2 L2 q2 A2 c2 HR2.out HS2.out HL2.out M2.out)
          go_upto_region 4 with (fail)
          go_wp2_with (refine wpList_load_row_w (by rfl) 24 (.tmp 3) rfl (w.heap.size + 1) rfl 24 #[.string R2, .slice A2 L2.length c2] (0, 0) _ H2.out Try.underlying24 rfl (by rw [nm_size]; rfl) ?_)
          refine (hB2.out).mono ?_
          rw [HV2.out]
          rintro e W7 ⟨v7, rfl, ho7, k⟩
          clear hB2
          replace M6 := kept (M6.out.below0 k)
          replace H1 := kept (H1.out.below k H1.out.lt)
          replace H2 := kept (H2.out.below k H2.out.lt)
          replace M1 := kept (M1.out.below0 k)
          replace M2 := kept (M2.out.below0 k)
          replace HW := kept (below_next HW.out k)
          clear k
          obtain ⟨A7, q7, c7, hv7, hc7, _, hm7, _, _⟩ := ho7.form
          obtain ⟨ny, hny⟩ : ∃ ny, (bytesO (R2, L2)).length = ny := ⟨_, rfl⟩
          rw [hny] at hv7 hc7
          subst hv7
          have M7 := kept hm7
          have HC7 := kept hc7
          have HL7 := kept hny
          clear ho7 hm7 hc7 hny
          have hbl : (bytesO (R1, L1)).length ≤ 10000 ∧ (bytesO (R2, L2)).length ≤ 10000 := ⟨bytesO_len _, bytesO_len _⟩
          obtain ⟨X, hX⟩ : ∃ X, bytesO (R1, L1) = X := ⟨_, rfl⟩
          obtain ⟨Y, hY⟩ : ∃ Y, bytesO (R2, L2) = Y := ⟨_, rfl⟩
          have hx1 := HS12.out
          have hx2 := HS13.out
          have HNX := kept (show X.length = nx by rw [← hX]; exact HL6.out)
          have HNY := kept (show Y.length = ny by rw [← hY]; exact HL7.out)
          rw [hX] at M6 hx1 hx2 hbl
          rw [hY] at M7 hx1 hx2 hbl
          rw [HNX.out] at hx2 hbl
          rw [HNY.out] at hx2 hbl
          have hc6 := HC6.out
          have hc7 := HC7.out
          obtain ⟨D, hD⟩ : ∃ D, decide (((R1, L1) : Nm) = (R2, L2)) = D := ⟨_, rfl⟩
          rw [hD] at hx1 hx2
          have HD := kept hD
          have HX1 := kept hx1
          have HX2 := kept hx2
          clear hX hY hD hx1 hx2 HV1 HV2 HL6 HL7 HS12 HS13
          have RA := kept (show ∀ w', Below W7.heap.size W7 w' → w'.rangeAt w.heap.size 0 #[.string R1, .slice A1 L1.length c1].toList from fun w' h => blk_range (H1.out.below h H1.out.lt))
          have RB := kept (show ∀ w', Below W7.heap.size W7 w' → w'.rangeAt (w.heap.size + 1) 0 #[.string R2, .slice A2 L2.length c2].toList from fun w' h => blk_range (H2.out.below h H2.out.lt))
          go_upto_region 5 with (fail)
          rcases Nat.lt_trichotomy nx ny with hlt | heq | hgt
          · have t1 : nx < ny := hlt
            have t2 : ¬ ny < nx := by omega
            have t3 : min (nx : Int) (ny : Int) = (nx : Int) := by omega
            have HX3 := kept (show sameB (X.take nx) (Y.take nx) = D by rw [show nx = min nx ny by omega]; exact HX2.out)
            go_upto_region 6 with (fail)
            refine wp_region_flow 20 (fun w' => Below W7.heap.size W7 w') [fun v _ => v = .slice A6 nx c6, fun v _ => v = .slice A7 ny c7, fun v _ => v = .bool D, fun v _ => v = .agg (#[.string R1, .slice A1 L1.length c1]), fun v _ => v = .agg (#[.string R2, .slice A2 L2.length c2]), fun v _ => v = .bool D, fun v _ => v = .bool true, fun v _ => v = .bool true, fun v _ => v = .slice A6 nx c6, fun v _ => v = .int .i64 (nx : Int), fun v _ => v = .slice A6 nx c6, fun v _ => v = .slice A7 ny c7, fun v _ => v = .int .i64 (nx : Int), fun v _ => v = .slice A7 nx c7, fun v _ => v = .bool D, fun v _ => v = .agg (#[.string R1, .slice A1 L1.length c1]), fun v _ => v = .agg (#[.string R2, .slice A2 L2.length c2]), fun v _ => v = .bool D, fun v _ => v = .bool true, fun v _ => v = .bool true] (by kernel_rfl) (by kernel_rfl) rfl (Below.refl _ W7).drew (fun _ _ h k => below_next h k) ?_ ?_ ?_
            · exact stable_cons (stable_eq _) (stable_cons (stable_eq _) (stable_cons (stable_eq _) (stable_cons (stable_eq _) (stable_cons (stable_eq _) (stable_cons (stable_eq _) (stable_cons (stable_eq _) (stable_cons (stable_eq _) (stable_cons (stable_eq _) (stable_cons (stable_eq _) (stable_cons (stable_eq _) (stable_cons (stable_eq _) (stable_cons (stable_eq _) (stable_cons (stable_eq _) (stable_cons (stable_eq _) (stable_cons (stable_eq _) (stable_cons (stable_eq _) (stable_cons (stable_eq _) (stable_cons (stable_eq _) (stable_cons (stable_eq _) (stable_nil))))))))))))))))))))
            · simp only [List.take_succ_cons, List.take_zero]
              refine OweAll.cons ?_ (OweAll.cons ?_ (OweAll.cons ?_ (OweAll.cons ?_ (OweAll.cons ?_ (OweAll.cons ?_ (OweAll.cons ?_ (OweAll.cons ?_ (OweAll.cons ?_ (OweAll.cons ?_ (OweAll.cons ?_ (OweAll.cons ?_ (OweAll.cons ?_ (OweAll.cons ?_ (OweAll.cons ?_ (OweAll.cons ?_ (OweAll.cons ?_ (OweAll.cons ?_ (OweAll.cons ?_ (OweAll.cons ?_ OweAll.nil)))))))))))))))))))
              · intro us w' A hA hC hd K hK
                exact flow_value (.slice A6 nx c6) (by rw [hA]; kernel_rfl) (by rw [hA]; kernel_rfl) rfl hK
              · intro us w' A hA hC hd K hK
                exact flow_value (.slice A7 ny c7) (by rw [hA]; kernel_rfl) (by rw [hA]; kernel_rfl) rfl hK
              · intro us w' A hA hC hd K hK
                have e0 : us 0 = .slice A6 nx c6 := hd 0 (by kernel_rfl)
                have e1 : us 1 = .slice A7 ny c7 := hd 1 (by kernel_rfl)
                refine flow_call 17 #[us 0, us 1] (by rw [hA]; kernel_rfl) (fun _ => by rw [hA]; kernel_rfl) ?_ hK
                rw [e0, e1]
                have := same_any w' q6 q7 A6 A7 nx ny c6 c7 X Y HNX.out.symm HNY.out.symm (by rw [HNX.out]; omega) (M6.out.below0 hC) (M7.out.below0 hC)
                rw [HX1.out] at this
                exact calls_known (this.mono fun e w2 ⟨h1, nn, h2⟩ => ⟨h1, by rw [h2]; exact below_drewN (Below.refl _ w') nn⟩)
              · intro us w' A hA hC hd K hK
                exact flow_load (φ := fun v _ => v = .agg (#[.string R1, .slice A1 L1.length c1])) (by rw [hA]; kernel_rfl) 24 (.tmp 2) rfl w.heap.size 0 (by rw [hA]; kernel_rfl) (#[.string R1, .slice A1 L1.length c1]).toList _ (RA.out w' hC) Try.underlying24 rfl (by rw [nm_size]; rfl) rfl hK
              · intro us w' A hA hC hd K hK
                exact flow_load (φ := fun v _ => v = .agg (#[.string R2, .slice A2 L2.length c2])) (by rw [hA]; kernel_rfl) 24 (.tmp 3) rfl (w.heap.size + 1) 0 (by rw [hA]; kernel_rfl) (#[.string R2, .slice A2 L2.length c2]).toList _ (RB.out w' hC) Try.underlying24 rfl (by rw [nm_size]; rfl) rfl hK
              · intro us w' A hA hC hd K hK
                have e3 : us 3 = .agg (#[.string R1, .slice A1 L1.length c1]) := hd 3 (by kernel_rfl)
                have e4 : us 4 = .agg (#[.string R2, .slice A2 L2.length c2]) := hd 4 (by kernel_rfl)
                refine flow_call 19 #[us 3, us 4] (by rw [hA]; kernel_rfl) (fun _ => by rw [hA]; kernel_rfl) ?_ hK
                rw [e3, e4]
                have := resame_any w' R1 R2 L1 L2 q1 q2 A1 A2 c1 c2 (by have := HL1.out; unfold maxLen at this; omega) (by have := HL2.out; unfold maxLen at this; omega) (M1.out.below0 hC) (M2.out.below0 hC)
                rw [HD.out] at this
                exact calls_known this
              · intro us w' A hA hC hd K hK
                have e2 : us 2 = .bool D := hd 2 (by kernel_rfl)
                have e5 : us 5 = .bool D := hd 5 (by kernel_rfl)
                have ev50 : A.tmps[50]?.getD undef = us 2 := by rw [hA]; kernel_rfl
                rw [e2] at ev50
                have ev53 : A.tmps[53]?.getD undef = us 5 := by rw [hA]; kernel_rfl
                rw [e5] at ev53
                refine flow_value (.bool true) (by rw [hA]; kernel_rfl) ?_ rfl hK
                clear hA hd hK
                cases D <;> go_simp
              · intro us w' A hA hC hd K hK
                have e6 : us 6 = .bool true := hd 6 (by kernel_rfl)
                have ev54 : A.tmps[54]?.getD undef = us 6 := by rw [hA]; kernel_rfl
                rw [e6] at ev54
                refine flow_value (.bool true) (by rw [hA]; kernel_rfl) ?_ rfl hK
                clear hA hd hK
                go_simp
              · intro us w' A hA hC hd K hK
                have e7 : us 7 = .bool true := hd 7 (by kernel_rfl)
                have gv : A.tmps[55]? = some (us 7) := by rw [hA]; kernel_rfl
                rw [e7] at gv
                exact flow_value (.slice A6 nx c6) (by rw [guard_known 7 true true 55 rfl rfl gv]; rfl) (by rw [hA]; kernel_rfl) rfl hK
              · intro us w' A hA hC hd K hK
                have e7 : us 7 = .bool true := hd 7 (by kernel_rfl)
                have gv : A.tmps[55]? = some (us 7) := by rw [hA]; kernel_rfl
                rw [e7] at gv
                exact flow_value (.int .i64 (nx : Int)) (by rw [guard_known 7 true true 55 rfl rfl gv]; rfl) (by rw [hA]; kernel_rfl) rfl hK
              · intro us w' A hA hC hd K hK
                have e8 : us 8 = .slice A6 nx c6 := hd 8 (by kernel_rfl)
                have e9 : us 9 = .int .i64 (nx : Int) := hd 9 (by kernel_rfl)
                have e7 : us 7 = .bool true := hd 7 (by kernel_rfl)
                have gv : A.tmps[55]? = some (us 7) := by rw [hA]; kernel_rfl
                rw [e7] at gv
                have ev56 : A.tmps[56]?.getD undef = us 8 := by rw [hA]; kernel_rfl
                rw [e8] at ev56
                have ev57 : A.tmps[57]?.getD undef = us 9 := by rw [hA]; kernel_rfl
                rw [e9] at ev57
                refine flow_value (.slice A6 nx c6) (by rw [guard_known 7 true true 55 rfl rfl gv]; rfl) ?_ rfl hK
                clear hA hd hK gv
                have hs := slice_upto (w := w') A6 nx c6 nx (by omega)
                go_simp
              · intro us w' A hA hC hd K hK
                have e7 : us 7 = .bool true := hd 7 (by kernel_rfl)
                have gv : A.tmps[55]? = some (us 7) := by rw [hA]; kernel_rfl
                rw [e7] at gv
                exact flow_value (.slice A7 ny c7) (by rw [guard_known 7 true true 55 rfl rfl gv]; rfl) (by rw [hA]; kernel_rfl) rfl hK
              · intro us w' A hA hC hd K hK
                have e7 : us 7 = .bool true := hd 7 (by kernel_rfl)
                have gv : A.tmps[55]? = some (us 7) := by rw [hA]; kernel_rfl
                rw [e7] at gv
                exact flow_value (.int .i64 (nx : Int)) (by rw [guard_known 7 true true 55 rfl rfl gv]; rfl) (by rw [hA]; kernel_rfl) rfl hK
              · intro us w' A hA hC hd K hK
                have e11 : us 11 = .slice A7 ny c7 := hd 11 (by kernel_rfl)
                have e12 : us 12 = .int .i64 (nx : Int) := hd 12 (by kernel_rfl)
                have e7 : us 7 = .bool true := hd 7 (by kernel_rfl)
                have gv : A.tmps[55]? = some (us 7) := by rw [hA]; kernel_rfl
                rw [e7] at gv
                have ev59 : A.tmps[59]?.getD undef = us 11 := by rw [hA]; kernel_rfl
                rw [e11] at ev59
                have ev60 : A.tmps[60]?.getD undef = us 12 := by rw [hA]; kernel_rfl
                rw [e12] at ev60
                refine flow_value (.slice A7 nx c7) (by rw [guard_known 7 true true 55 rfl rfl gv]; rfl) ?_ rfl hK
                clear hA hd hK gv
                have hs := slice_upto (w := w') A7 ny c7 nx (by omega)
                go_simp
              · intro us w' A hA hC hd K hK
                have e10 : us 10 = .slice A6 nx c6 := hd 10 (by kernel_rfl)
                have e13 : us 13 = .slice A7 nx c7 := hd 13 (by kernel_rfl)
                have e7 : us 7 = .bool true := hd 7 (by kernel_rfl)
                have gv : A.tmps[55]? = some (us 7) := by rw [hA]; kernel_rfl
                rw [e7] at gv
                refine flow_call 17 #[us 10, us 13] (by rw [guard_known 7 true true 55 rfl rfl gv]; rfl) (fun _ => by rw [hA]; kernel_rfl) ?_ hK
                rw [e10, e13]
                have := same_any w' q6 q7 A6 A7 nx nx c6 c7 (X.take nx) (Y.take nx) (by rw [List.length_take, HNX.out]; omega) (by rw [List.length_take, HNY.out]; omega) (by rw [List.length_take]; omega) ((M6.out.below0 hC).take nx) ((M7.out.below0 hC).take nx)
                rw [HX3.out] at this
                exact calls_known (this.mono fun e w2 ⟨h1, nn, h2⟩ => ⟨h1, by rw [h2]; exact below_drewN (Below.refl _ w') nn⟩)
              · intro us w' A hA hC hd K hK
                have e7 : us 7 = .bool true := hd 7 (by kernel_rfl)
                have gv : A.tmps[55]? = some (us 7) := by rw [hA]; kernel_rfl
                rw [e7] at gv
                exact flow_load (φ := fun v _ => v = .agg (#[.string R1, .slice A1 L1.length c1])) (by rw [guard_known 7 true true 55 rfl rfl gv]; rfl) 24 (.tmp 2) rfl w.heap.size 0 (by rw [hA]; kernel_rfl) (#[.string R1, .slice A1 L1.length c1]).toList _ (RA.out w' hC) Try.underlying24 rfl (by rw [nm_size]; rfl) rfl hK
              · intro us w' A hA hC hd K hK
                have e7 : us 7 = .bool true := hd 7 (by kernel_rfl)
                have gv : A.tmps[55]? = some (us 7) := by rw [hA]; kernel_rfl
                rw [e7] at gv
                exact flow_load (φ := fun v _ => v = .agg (#[.string R2, .slice A2 L2.length c2])) (by rw [guard_known 7 true true 55 rfl rfl gv]; rfl) 24 (.tmp 3) rfl (w.heap.size + 1) 0 (by rw [hA]; kernel_rfl) (#[.string R2, .slice A2 L2.length c2]).toList _ (RB.out w' hC) Try.underlying24 rfl (by rw [nm_size]; rfl) rfl hK
              · intro us w' A hA hC hd K hK
                have e15 : us 15 = .agg (#[.string R1, .slice A1 L1.length c1]) := hd 15 (by kernel_rfl)
                have e16 : us 16 = .agg (#[.string R2, .slice A2 L2.length c2]) := hd 16 (by kernel_rfl)
                have e7 : us 7 = .bool true := hd 7 (by kernel_rfl)
                have gv : A.tmps[55]? = some (us 7) := by rw [hA]; kernel_rfl
                rw [e7] at gv
                refine flow_call 19 #[us 15, us 16] (by rw [guard_known 7 true true 55 rfl rfl gv]; rfl) (fun _ => by rw [hA]; kernel_rfl) ?_ hK
                rw [e15, e16]
                have := resame_any w' R1 R2 L1 L2 q1 q2 A1 A2 c1 c2 (by have := HL1.out; unfold maxLen at this; omega) (by have := HL2.out; unfold maxLen at this; omega) (M1.out.below0 hC) (M2.out.below0 hC)
                rw [HD.out] at this
                exact calls_known this
              · intro us w' A hA hC hd K hK
                have e14 : us 14 = .bool D := hd 14 (by kernel_rfl)
                have e17 : us 17 = .bool D := hd 17 (by kernel_rfl)
                have e7 : us 7 = .bool true := hd 7 (by kernel_rfl)
                have gv : A.tmps[55]? = some (us 7) := by rw [hA]; kernel_rfl
                rw [e7] at gv
                have ev62 : A.tmps[62]?.getD undef = us 14 := by rw [hA]; kernel_rfl
                rw [e14] at ev62
                have ev65 : A.tmps[65]?.getD undef = us 17 := by rw [hA]; kernel_rfl
                rw [e17] at ev65
                refine flow_value (.bool true) (by rw [guard_known 7 true true 55 rfl rfl gv]; rfl) ?_ rfl hK
                clear hA hd hK gv
                cases D <;> go_simp
              · intro us w' A hA hC hd K hK
                have e7 : us 7 = .bool true := hd 7 (by kernel_rfl)
                have e18 : us 18 = .bool true := hd 18 (by kernel_rfl)
                have ev55 : A.tmps[55]?.getD undef = us 7 := by rw [hA]; kernel_rfl
                rw [e7] at ev55
                have ev66 : A.tmps[66]?.getD undef = us 18 := by rw [hA]; kernel_rfl
                rw [e18] at ev66
                refine flow_value (.bool true) (by rw [hA]; kernel_rfl) ?_ rfl hK
                clear hA hd hK
                go_simp
            · intro us w' A hA hC hd
              subst hA
              have e0 : us 0 = .slice A6 nx c6 := hd 0 (by omega)
              have e1 : us 1 = .slice A7 ny c7 := hd 1 (by omega)
              have e2 : us 2 = .bool D := hd 2 (by omega)
              have e3 : us 3 = .agg (#[.string R1, .slice A1 L1.length c1]) := hd 3 (by omega)
              have e4 : us 4 = .agg (#[.string R2, .slice A2 L2.length c2]) := hd 4 (by omega)
              have e5 : us 5 = .bool D := hd 5 (by omega)
              have e6 : us 6 = .bool true := hd 6 (by omega)
              have e7 : us 7 = .bool true := hd 7 (by omega)
              have e8 : us 8 = .slice A6 nx c6 := hd 8 (by omega)
              have e9 : us 9 = .int .i64 (nx : Int) := hd 9 (by omega)
              have e10 : us 10 = .slice A6 nx c6 := hd 10 (by omega)
              have e11 : us 11 = .slice A7 ny c7 := hd 11 (by omega)
              have e12 : us 12 = .int .i64 (nx : Int) := hd 12 (by omega)
              have e13 : us 13 = .slice A7 nx c7 := hd 13 (by omega)
              have e14 : us 14 = .bool D := hd 14 (by omega)
              have e15 : us 15 = .agg (#[.string R1, .slice A1 L1.length c1]) := hd 15 (by omega)
              have e16 : us 16 = .agg (#[.string R2, .slice A2 L2.length c2]) := hd 16 (by omega)
              have e17 : us 17 = .bool D := hd 17 (by omega)
              have e18 : us 18 = .bool true := hd 18 (by omega)
              have e19 : us 19 = .bool true := hd 19 (by omega)
              simp only [List.take_succ_cons, List.take_zero, List.drop_succ_cons, List.drop_zero, fillAct, Act.put, Nat.zero_add, Nat.reduceAdd, List.setIfInBounds_toArray, List.set_cons_zero, List.set_cons_succ, e0, e1, e2, e3, e4, e5, e6, e7, e8, e9, e10, e11, e12, e13, e14, e15, e16, e17, e18, e19]
              clear hd 
              have HB := kept (below_next HW.out hC)
              clear e0 e1 e2 e3 e4 e5 e6 e7 e8 e9 e10 e11 e12 e13 e14 e15 e16 e17 e18 e19
              go_wp2_with fail
              go_ret
              exact ⟨rfl, HB.out⟩
          · subst heq
            have t3 : min (nx : Int) (nx : Int) = (nx : Int) := by omega
            have HX3 := kept (show sameB (X.take nx) (Y.take nx) = D by rw [show nx = min nx nx by omega]; exact HX2.out)
            go_upto_region 6 with (fail)
            refine wp_region_flow 20 (fun w' => Below W7.heap.size W7 w') [fun v _ => v = .slice A6 nx c6, fun v _ => v = .slice A7 nx c7, fun v _ => v = .bool D, fun v _ => v = .agg (#[.string R1, .slice A1 L1.length c1]), fun v _ => v = .agg (#[.string R2, .slice A2 L2.length c2]), fun v _ => v = .bool D, fun v _ => v = .bool true, fun v _ => v = .bool true, fun v _ => v = .slice A6 nx c6, fun v _ => v = .int .i64 (nx : Int), fun v _ => v = .slice A6 nx c6, fun v _ => v = .slice A7 nx c7, fun v _ => v = .int .i64 (nx : Int), fun v _ => v = .slice A7 nx c7, fun v _ => v = .bool D, fun v _ => v = .agg (#[.string R1, .slice A1 L1.length c1]), fun v _ => v = .agg (#[.string R2, .slice A2 L2.length c2]), fun v _ => v = .bool D, fun v _ => v = .bool true, fun v _ => v = .bool true] (by kernel_rfl) (by kernel_rfl) rfl (Below.refl _ W7).drew (fun _ _ h k => below_next h k) ?_ ?_ ?_
            · exact stable_cons (stable_eq _) (stable_cons (stable_eq _) (stable_cons (stable_eq _) (stable_cons (stable_eq _) (stable_cons (stable_eq _) (stable_cons (stable_eq _) (stable_cons (stable_eq _) (stable_cons (stable_eq _) (stable_cons (stable_eq _) (stable_cons (stable_eq _) (stable_cons (stable_eq _) (stable_cons (stable_eq _) (stable_cons (stable_eq _) (stable_cons (stable_eq _) (stable_cons (stable_eq _) (stable_cons (stable_eq _) (stable_cons (stable_eq _) (stable_cons (stable_eq _) (stable_cons (stable_eq _) (stable_cons (stable_eq _) (stable_nil))))))))))))))))))))
            · simp only [List.take_succ_cons, List.take_zero]
              refine OweAll.cons ?_ (OweAll.cons ?_ (OweAll.cons ?_ (OweAll.cons ?_ (OweAll.cons ?_ (OweAll.cons ?_ (OweAll.cons ?_ (OweAll.cons ?_ (OweAll.cons ?_ (OweAll.cons ?_ (OweAll.cons ?_ (OweAll.cons ?_ (OweAll.cons ?_ (OweAll.cons ?_ (OweAll.cons ?_ (OweAll.cons ?_ (OweAll.cons ?_ (OweAll.cons ?_ (OweAll.cons ?_ (OweAll.cons ?_ OweAll.nil)))))))))))))))))))
              · intro us w' A hA hC hd K hK
                exact flow_value (.slice A6 nx c6) (by rw [hA]; kernel_rfl) (by rw [hA]; kernel_rfl) rfl hK
              · intro us w' A hA hC hd K hK
                exact flow_value (.slice A7 nx c7) (by rw [hA]; kernel_rfl) (by rw [hA]; kernel_rfl) rfl hK
              · intro us w' A hA hC hd K hK
                have e0 : us 0 = .slice A6 nx c6 := hd 0 (by kernel_rfl)
                have e1 : us 1 = .slice A7 nx c7 := hd 1 (by kernel_rfl)
                refine flow_call 17 #[us 0, us 1] (by rw [hA]; kernel_rfl) (fun _ => by rw [hA]; kernel_rfl) ?_ hK
                rw [e0, e1]
                have := same_any w' q6 q7 A6 A7 nx nx c6 c7 X Y HNX.out.symm HNY.out.symm (by rw [HNX.out]; omega) (M6.out.below0 hC) (M7.out.below0 hC)
                rw [HX1.out] at this
                exact calls_known (this.mono fun e w2 ⟨h1, nn, h2⟩ => ⟨h1, by rw [h2]; exact below_drewN (Below.refl _ w') nn⟩)
              · intro us w' A hA hC hd K hK
                exact flow_load (φ := fun v _ => v = .agg (#[.string R1, .slice A1 L1.length c1])) (by rw [hA]; kernel_rfl) 24 (.tmp 2) rfl w.heap.size 0 (by rw [hA]; kernel_rfl) (#[.string R1, .slice A1 L1.length c1]).toList _ (RA.out w' hC) Try.underlying24 rfl (by rw [nm_size]; rfl) rfl hK
              · intro us w' A hA hC hd K hK
                exact flow_load (φ := fun v _ => v = .agg (#[.string R2, .slice A2 L2.length c2])) (by rw [hA]; kernel_rfl) 24 (.tmp 3) rfl (w.heap.size + 1) 0 (by rw [hA]; kernel_rfl) (#[.string R2, .slice A2 L2.length c2]).toList _ (RB.out w' hC) Try.underlying24 rfl (by rw [nm_size]; rfl) rfl hK
              · intro us w' A hA hC hd K hK
                have e3 : us 3 = .agg (#[.string R1, .slice A1 L1.length c1]) := hd 3 (by kernel_rfl)
                have e4 : us 4 = .agg (#[.string R2, .slice A2 L2.length c2]) := hd 4 (by kernel_rfl)
                refine flow_call 19 #[us 3, us 4] (by rw [hA]; kernel_rfl) (fun _ => by rw [hA]; kernel_rfl) ?_ hK
                rw [e3, e4]
                have := resame_any w' R1 R2 L1 L2 q1 q2 A1 A2 c1 c2 (by have := HL1.out; unfold maxLen at this; omega) (by have := HL2.out; unfold maxLen at this; omega) (M1.out.below0 hC) (M2.out.below0 hC)
                rw [HD.out] at this
                exact calls_known this
              · intro us w' A hA hC hd K hK
                have e2 : us 2 = .bool D := hd 2 (by kernel_rfl)
                have e5 : us 5 = .bool D := hd 5 (by kernel_rfl)
                have ev50 : A.tmps[50]?.getD undef = us 2 := by rw [hA]; kernel_rfl
                rw [e2] at ev50
                have ev53 : A.tmps[53]?.getD undef = us 5 := by rw [hA]; kernel_rfl
                rw [e5] at ev53
                refine flow_value (.bool true) (by rw [hA]; kernel_rfl) ?_ rfl hK
                clear hA hd hK
                cases D <;> go_simp
              · intro us w' A hA hC hd K hK
                have e6 : us 6 = .bool true := hd 6 (by kernel_rfl)
                have ev54 : A.tmps[54]?.getD undef = us 6 := by rw [hA]; kernel_rfl
                rw [e6] at ev54
                refine flow_value (.bool true) (by rw [hA]; kernel_rfl) ?_ rfl hK
                clear hA hd hK
                go_simp
              · intro us w' A hA hC hd K hK
                have e7 : us 7 = .bool true := hd 7 (by kernel_rfl)
                have gv : A.tmps[55]? = some (us 7) := by rw [hA]; kernel_rfl
                rw [e7] at gv
                exact flow_value (.slice A6 nx c6) (by rw [guard_known 7 true true 55 rfl rfl gv]; rfl) (by rw [hA]; kernel_rfl) rfl hK
              · intro us w' A hA hC hd K hK
                have e7 : us 7 = .bool true := hd 7 (by kernel_rfl)
                have gv : A.tmps[55]? = some (us 7) := by rw [hA]; kernel_rfl
                rw [e7] at gv
                exact flow_value (.int .i64 (nx : Int)) (by rw [guard_known 7 true true 55 rfl rfl gv]; rfl) (by rw [hA]; kernel_rfl) rfl hK
              · intro us w' A hA hC hd K hK
                have e8 : us 8 = .slice A6 nx c6 := hd 8 (by kernel_rfl)
                have e9 : us 9 = .int .i64 (nx : Int) := hd 9 (by kernel_rfl)
                have e7 : us 7 = .bool true := hd 7 (by kernel_rfl)
                have gv : A.tmps[55]? = some (us 7) := by rw [hA]; kernel_rfl
                rw [e7] at gv
                have ev56 : A.tmps[56]?.getD undef = us 8 := by rw [hA]; kernel_rfl
                rw [e8] at ev56
                have ev57 : A.tmps[57]?.getD undef = us 9 := by rw [hA]; kernel_rfl
                rw [e9] at ev57
                refine flow_value (.slice A6 nx c6) (by rw [guard_known 7 true true 55 rfl rfl gv]; rfl) ?_ rfl hK
                clear hA hd hK gv
                have hs := slice_upto (w := w') A6 nx c6 nx (by omega)
                go_simp
              · intro us w' A hA hC hd K hK
                have e7 : us 7 = .bool true := hd 7 (by kernel_rfl)
                have gv : A.tmps[55]? = some (us 7) := by rw [hA]; kernel_rfl
                rw [e7] at gv
                exact flow_value (.slice A7 nx c7) (by rw [guard_known 7 true true 55 rfl rfl gv]; rfl) (by rw [hA]; kernel_rfl) rfl hK
              · intro us w' A hA hC hd K hK
                have e7 : us 7 = .bool true := hd 7 (by kernel_rfl)
                have gv : A.tmps[55]? = some (us 7) := by rw [hA]; kernel_rfl
                rw [e7] at gv
                exact flow_value (.int .i64 (nx : Int)) (by rw [guard_known 7 true true 55 rfl rfl gv]; rfl) (by rw [hA]; kernel_rfl) rfl hK
              · intro us w' A hA hC hd K hK
                have e11 : us 11 = .slice A7 nx c7 := hd 11 (by kernel_rfl)
                have e12 : us 12 = .int .i64 (nx : Int) := hd 12 (by kernel_rfl)
                have e7 : us 7 = .bool true := hd 7 (by kernel_rfl)
                have gv : A.tmps[55]? = some (us 7) := by rw [hA]; kernel_rfl
                rw [e7] at gv
                have ev59 : A.tmps[59]?.getD undef = us 11 := by rw [hA]; kernel_rfl
                rw [e11] at ev59
                have ev60 : A.tmps[60]?.getD undef = us 12 := by rw [hA]; kernel_rfl
                rw [e12] at ev60
                refine flow_value (.slice A7 nx c7) (by rw [guard_known 7 true true 55 rfl rfl gv]; rfl) ?_ rfl hK
                clear hA hd hK gv
                have hs := slice_upto (w := w') A7 nx c7 nx (by omega)
                go_simp
              · intro us w' A hA hC hd K hK
                have e10 : us 10 = .slice A6 nx c6 := hd 10 (by kernel_rfl)
                have e13 : us 13 = .slice A7 nx c7 := hd 13 (by kernel_rfl)
                have e7 : us 7 = .bool true := hd 7 (by kernel_rfl)
                have gv : A.tmps[55]? = some (us 7) := by rw [hA]; kernel_rfl
                rw [e7] at gv
                refine flow_call 17 #[us 10, us 13] (by rw [guard_known 7 true true 55 rfl rfl gv]; rfl) (fun _ => by rw [hA]; kernel_rfl) ?_ hK
                rw [e10, e13]
                have := same_any w' q6 q7 A6 A7 nx nx c6 c7 (X.take nx) (Y.take nx) (by rw [List.length_take, HNX.out]; omega) (by rw [List.length_take, HNY.out]; omega) (by rw [List.length_take]; omega) ((M6.out.below0 hC).take nx) ((M7.out.below0 hC).take nx)
                rw [HX3.out] at this
                exact calls_known (this.mono fun e w2 ⟨h1, nn, h2⟩ => ⟨h1, by rw [h2]; exact below_drewN (Below.refl _ w') nn⟩)
              · intro us w' A hA hC hd K hK
                have e7 : us 7 = .bool true := hd 7 (by kernel_rfl)
                have gv : A.tmps[55]? = some (us 7) := by rw [hA]; kernel_rfl
                rw [e7] at gv
                exact flow_load (φ := fun v _ => v = .agg (#[.string R1, .slice A1 L1.length c1])) (by rw [guard_known 7 true true 55 rfl rfl gv]; rfl) 24 (.tmp 2) rfl w.heap.size 0 (by rw [hA]; kernel_rfl) (#[.string R1, .slice A1 L1.length c1]).toList _ (RA.out w' hC) Try.underlying24 rfl (by rw [nm_size]; rfl) rfl hK
              · intro us w' A hA hC hd K hK
                have e7 : us 7 = .bool true := hd 7 (by kernel_rfl)
                have gv : A.tmps[55]? = some (us 7) := by rw [hA]; kernel_rfl
                rw [e7] at gv
                exact flow_load (φ := fun v _ => v = .agg (#[.string R2, .slice A2 L2.length c2])) (by rw [guard_known 7 true true 55 rfl rfl gv]; rfl) 24 (.tmp 3) rfl (w.heap.size + 1) 0 (by rw [hA]; kernel_rfl) (#[.string R2, .slice A2 L2.length c2]).toList _ (RB.out w' hC) Try.underlying24 rfl (by rw [nm_size]; rfl) rfl hK
              · intro us w' A hA hC hd K hK
                have e15 : us 15 = .agg (#[.string R1, .slice A1 L1.length c1]) := hd 15 (by kernel_rfl)
                have e16 : us 16 = .agg (#[.string R2, .slice A2 L2.length c2]) := hd 16 (by kernel_rfl)
                have e7 : us 7 = .bool true := hd 7 (by kernel_rfl)
                have gv : A.tmps[55]? = some (us 7) := by rw [hA]; kernel_rfl
                rw [e7] at gv
                refine flow_call 19 #[us 15, us 16] (by rw [guard_known 7 true true 55 rfl rfl gv]; rfl) (fun _ => by rw [hA]; kernel_rfl) ?_ hK
                rw [e15, e16]
                have := resame_any w' R1 R2 L1 L2 q1 q2 A1 A2 c1 c2 (by have := HL1.out; unfold maxLen at this; omega) (by have := HL2.out; unfold maxLen at this; omega) (M1.out.below0 hC) (M2.out.below0 hC)
                rw [HD.out] at this
                exact calls_known this
              · intro us w' A hA hC hd K hK
                have e14 : us 14 = .bool D := hd 14 (by kernel_rfl)
                have e17 : us 17 = .bool D := hd 17 (by kernel_rfl)
                have e7 : us 7 = .bool true := hd 7 (by kernel_rfl)
                have gv : A.tmps[55]? = some (us 7) := by rw [hA]; kernel_rfl
                rw [e7] at gv
                have ev62 : A.tmps[62]?.getD undef = us 14 := by rw [hA]; kernel_rfl
                rw [e14] at ev62
                have ev65 : A.tmps[65]?.getD undef = us 17 := by rw [hA]; kernel_rfl
                rw [e17] at ev65
                refine flow_value (.bool true) (by rw [guard_known 7 true true 55 rfl rfl gv]; rfl) ?_ rfl hK
                clear hA hd hK gv
                cases D <;> go_simp
              · intro us w' A hA hC hd K hK
                have e7 : us 7 = .bool true := hd 7 (by kernel_rfl)
                have e18 : us 18 = .bool true := hd 18 (by kernel_rfl)
                have ev55 : A.tmps[55]?.getD undef = us 7 := by rw [hA]; kernel_rfl
                rw [e7] at ev55
                have ev66 : A.tmps[66]?.getD undef = us 18 := by rw [hA]; kernel_rfl
                rw [e18] at ev66
                refine flow_value (.bool true) (by rw [hA]; kernel_rfl) ?_ rfl hK
                clear hA hd hK
                go_simp
            · intro us w' A hA hC hd
              subst hA
              have e0 : us 0 = .slice A6 nx c6 := hd 0 (by omega)
              have e1 : us 1 = .slice A7 nx c7 := hd 1 (by omega)
              have e2 : us 2 = .bool D := hd 2 (by omega)
              have e3 : us 3 = .agg (#[.string R1, .slice A1 L1.length c1]) := hd 3 (by omega)
              have e4 : us 4 = .agg (#[.string R2, .slice A2 L2.length c2]) := hd 4 (by omega)
              have e5 : us 5 = .bool D := hd 5 (by omega)
              have e6 : us 6 = .bool true := hd 6 (by omega)
              have e7 : us 7 = .bool true := hd 7 (by omega)
              have e8 : us 8 = .slice A6 nx c6 := hd 8 (by omega)
              have e9 : us 9 = .int .i64 (nx : Int) := hd 9 (by omega)
              have e10 : us 10 = .slice A6 nx c6 := hd 10 (by omega)
              have e11 : us 11 = .slice A7 nx c7 := hd 11 (by omega)
              have e12 : us 12 = .int .i64 (nx : Int) := hd 12 (by omega)
              have e13 : us 13 = .slice A7 nx c7 := hd 13 (by omega)
              have e14 : us 14 = .bool D := hd 14 (by omega)
              have e15 : us 15 = .agg (#[.string R1, .slice A1 L1.length c1]) := hd 15 (by omega)
              have e16 : us 16 = .agg (#[.string R2, .slice A2 L2.length c2]) := hd 16 (by omega)
              have e17 : us 17 = .bool D := hd 17 (by omega)
              have e18 : us 18 = .bool true := hd 18 (by omega)
              have e19 : us 19 = .bool true := hd 19 (by omega)
              simp only [List.take_succ_cons, List.take_zero, List.drop_succ_cons, List.drop_zero, fillAct, Act.put, Nat.zero_add, Nat.reduceAdd, List.setIfInBounds_toArray, List.set_cons_zero, List.set_cons_succ, e0, e1, e2, e3, e4, e5, e6, e7, e8, e9, e10, e11, e12, e13, e14, e15, e16, e17, e18, e19]
              clear hd 
              have HB := kept (below_next HW.out hC)
              clear e0 e1 e2 e3 e4 e5 e6 e7 e8 e9 e10 e11 e12 e13 e14 e15 e16 e17 e18 e19
              go_wp2_with fail
              go_ret
              exact ⟨rfl, HB.out⟩
          · have t1 : ¬ nx < ny := by omega
            have t2 : ny < nx := hgt
            have t3 : min (nx : Int) (ny : Int) = (ny : Int) := by omega
            have HX3 := kept (show sameB (X.take ny) (Y.take ny) = D by rw [show ny = min nx ny by omega]; exact HX2.out)
            go_upto_region 6 with (fail)
            refine wp_region_flow 20 (fun w' => Below W7.heap.size W7 w') [fun v _ => v = .slice A6 nx c6, fun v _ => v = .slice A7 ny c7, fun v _ => v = .bool D, fun v _ => v = .agg (#[.string R1, .slice A1 L1.length c1]), fun v _ => v = .agg (#[.string R2, .slice A2 L2.length c2]), fun v _ => v = .bool D, fun v _ => v = .bool true, fun v _ => v = .bool true, fun v _ => v = .slice A6 nx c6, fun v _ => v = .int .i64 (ny : Int), fun v _ => v = .slice A6 ny c6, fun v _ => v = .slice A7 ny c7, fun v _ => v = .int .i64 (ny : Int), fun v _ => v = .slice A7 ny c7, fun v _ => v = .bool D, fun v _ => v = .agg (#[.string R1, .slice A1 L1.length c1]), fun v _ => v = .agg (#[.string R2, .slice A2 L2.length c2]), fun v _ => v = .bool D, fun v _ => v = .bool true, fun v _ => v = .bool true] (by kernel_rfl) (by kernel_rfl) rfl (Below.refl _ W7).drew (fun _ _ h k => below_next h k) ?_ ?_ ?_
            · exact stable_cons (stable_eq _) (stable_cons (stable_eq _) (stable_cons (stable_eq _) (stable_cons (stable_eq _) (stable_cons (stable_eq _) (stable_cons (stable_eq _) (stable_cons (stable_eq _) (stable_cons (stable_eq _) (stable_cons (stable_eq _) (stable_cons (stable_eq _) (stable_cons (stable_eq _) (stable_cons (stable_eq _) (stable_cons (stable_eq _) (stable_cons (stable_eq _) (stable_cons (stable_eq _) (stable_cons (stable_eq _) (stable_cons (stable_eq _) (stable_cons (stable_eq _) (stable_cons (stable_eq _) (stable_cons (stable_eq _) (stable_nil))))))))))))))))))))
            · simp only [List.take_succ_cons, List.take_zero]
              refine OweAll.cons ?_ (OweAll.cons ?_ (OweAll.cons ?_ (OweAll.cons ?_ (OweAll.cons ?_ (OweAll.cons ?_ (OweAll.cons ?_ (OweAll.cons ?_ (OweAll.cons ?_ (OweAll.cons ?_ (OweAll.cons ?_ (OweAll.cons ?_ (OweAll.cons ?_ (OweAll.cons ?_ (OweAll.cons ?_ (OweAll.cons ?_ (OweAll.cons ?_ (OweAll.cons ?_ (OweAll.cons ?_ (OweAll.cons ?_ OweAll.nil)))))))))))))))))))
              · intro us w' A hA hC hd K hK
                exact flow_value (.slice A6 nx c6) (by rw [hA]; kernel_rfl) (by rw [hA]; kernel_rfl) rfl hK
              · intro us w' A hA hC hd K hK
                exact flow_value (.slice A7 ny c7) (by rw [hA]; kernel_rfl) (by rw [hA]; kernel_rfl) rfl hK
              · intro us w' A hA hC hd K hK
                have e0 : us 0 = .slice A6 nx c6 := hd 0 (by kernel_rfl)
                have e1 : us 1 = .slice A7 ny c7 := hd 1 (by kernel_rfl)
                refine flow_call 17 #[us 0, us 1] (by rw [hA]; kernel_rfl) (fun _ => by rw [hA]; kernel_rfl) ?_ hK
                rw [e0, e1]
                have := same_any w' q6 q7 A6 A7 nx ny c6 c7 X Y HNX.out.symm HNY.out.symm (by rw [HNX.out]; omega) (M6.out.below0 hC) (M7.out.below0 hC)
                rw [HX1.out] at this
                exact calls_known (this.mono fun e w2 ⟨h1, nn, h2⟩ => ⟨h1, by rw [h2]; exact below_drewN (Below.refl _ w') nn⟩)
              · intro us w' A hA hC hd K hK
                exact flow_load (φ := fun v _ => v = .agg (#[.string R1, .slice A1 L1.length c1])) (by rw [hA]; kernel_rfl) 24 (.tmp 2) rfl w.heap.size 0 (by rw [hA]; kernel_rfl) (#[.string R1, .slice A1 L1.length c1]).toList _ (RA.out w' hC) Try.underlying24 rfl (by rw [nm_size]; rfl) rfl hK
              · intro us w' A hA hC hd K hK
                exact flow_load (φ := fun v _ => v = .agg (#[.string R2, .slice A2 L2.length c2])) (by rw [hA]; kernel_rfl) 24 (.tmp 3) rfl (w.heap.size + 1) 0 (by rw [hA]; kernel_rfl) (#[.string R2, .slice A2 L2.length c2]).toList _ (RB.out w' hC) Try.underlying24 rfl (by rw [nm_size]; rfl) rfl hK
              · intro us w' A hA hC hd K hK
                have e3 : us 3 = .agg (#[.string R1, .slice A1 L1.length c1]) := hd 3 (by kernel_rfl)
                have e4 : us 4 = .agg (#[.string R2, .slice A2 L2.length c2]) := hd 4 (by kernel_rfl)
                refine flow_call 19 #[us 3, us 4] (by rw [hA]; kernel_rfl) (fun _ => by rw [hA]; kernel_rfl) ?_ hK
                rw [e3, e4]
                have := resame_any w' R1 R2 L1 L2 q1 q2 A1 A2 c1 c2 (by have := HL1.out; unfold maxLen at this; omega) (by have := HL2.out; unfold maxLen at this; omega) (M1.out.below0 hC) (M2.out.below0 hC)
                rw [HD.out] at this
                exact calls_known this
              · intro us w' A hA hC hd K hK
                have e2 : us 2 = .bool D := hd 2 (by kernel_rfl)
                have e5 : us 5 = .bool D := hd 5 (by kernel_rfl)
                have ev50 : A.tmps[50]?.getD undef = us 2 := by rw [hA]; kernel_rfl
                rw [e2] at ev50
                have ev53 : A.tmps[53]?.getD undef = us 5 := by rw [hA]; kernel_rfl
                rw [e5] at ev53
                refine flow_value (.bool true) (by rw [hA]; kernel_rfl) ?_ rfl hK
                clear hA hd hK
                cases D <;> go_simp
              · intro us w' A hA hC hd K hK
                have e6 : us 6 = .bool true := hd 6 (by kernel_rfl)
                have ev54 : A.tmps[54]?.getD undef = us 6 := by rw [hA]; kernel_rfl
                rw [e6] at ev54
                refine flow_value (.bool true) (by rw [hA]; kernel_rfl) ?_ rfl hK
                clear hA hd hK
                go_simp
              · intro us w' A hA hC hd K hK
                have e7 : us 7 = .bool true := hd 7 (by kernel_rfl)
                have gv : A.tmps[55]? = some (us 7) := by rw [hA]; kernel_rfl
                rw [e7] at gv
                exact flow_value (.slice A6 nx c6) (by rw [guard_known 7 true true 55 rfl rfl gv]; rfl) (by rw [hA]; kernel_rfl) rfl hK
              · intro us w' A hA hC hd K hK
                have e7 : us 7 = .bool true := hd 7 (by kernel_rfl)
                have gv : A.tmps[55]? = some (us 7) := by rw [hA]; kernel_rfl
                rw [e7] at gv
                exact flow_value (.int .i64 (ny : Int)) (by rw [guard_known 7 true true 55 rfl rfl gv]; rfl) (by rw [hA]; kernel_rfl) rfl hK
              · intro us w' A hA hC hd K hK
                have e8 : us 8 = .slice A6 nx c6 := hd 8 (by kernel_rfl)
                have e9 : us 9 = .int .i64 (ny : Int) := hd 9 (by kernel_rfl)
                have e7 : us 7 = .bool true := hd 7 (by kernel_rfl)
                have gv : A.tmps[55]? = some (us 7) := by rw [hA]; kernel_rfl
                rw [e7] at gv
                have ev56 : A.tmps[56]?.getD undef = us 8 := by rw [hA]; kernel_rfl
                rw [e8] at ev56
                have ev57 : A.tmps[57]?.getD undef = us 9 := by rw [hA]; kernel_rfl
                rw [e9] at ev57
                refine flow_value (.slice A6 ny c6) (by rw [guard_known 7 true true 55 rfl rfl gv]; rfl) ?_ rfl hK
                clear hA hd hK gv
                have hs := slice_upto (w := w') A6 nx c6 ny (by omega)
                go_simp
              · intro us w' A hA hC hd K hK
                have e7 : us 7 = .bool true := hd 7 (by kernel_rfl)
                have gv : A.tmps[55]? = some (us 7) := by rw [hA]; kernel_rfl
                rw [e7] at gv
                exact flow_value (.slice A7 ny c7) (by rw [guard_known 7 true true 55 rfl rfl gv]; rfl) (by rw [hA]; kernel_rfl) rfl hK
              · intro us w' A hA hC hd K hK
                have e7 : us 7 = .bool true := hd 7 (by kernel_rfl)
                have gv : A.tmps[55]? = some (us 7) := by rw [hA]; kernel_rfl
                rw [e7] at gv
                exact flow_value (.int .i64 (ny : Int)) (by rw [guard_known 7 true true 55 rfl rfl gv]; rfl) (by rw [hA]; kernel_rfl) rfl hK
              · intro us w' A hA hC hd K hK
                have e11 : us 11 = .slice A7 ny c7 := hd 11 (by kernel_rfl)
                have e12 : us 12 = .int .i64 (ny : Int) := hd 12 (by kernel_rfl)
                have e7 : us 7 = .bool true := hd 7 (by kernel_rfl)
                have gv : A.tmps[55]? = some (us 7) := by rw [hA]; kernel_rfl
                rw [e7] at gv
                have ev59 : A.tmps[59]?.getD undef = us 11 := by rw [hA]; kernel_rfl
                rw [e11] at ev59
                have ev60 : A.tmps[60]?.getD undef = us 12 := by rw [hA]; kernel_rfl
                rw [e12] at ev60
                refine flow_value (.slice A7 ny c7) (by rw [guard_known 7 true true 55 rfl rfl gv]; rfl) ?_ rfl hK
                clear hA hd hK gv
                have hs := slice_upto (w := w') A7 ny c7 ny (by omega)
                go_simp
              · intro us w' A hA hC hd K hK
                have e10 : us 10 = .slice A6 ny c6 := hd 10 (by kernel_rfl)
                have e13 : us 13 = .slice A7 ny c7 := hd 13 (by kernel_rfl)
                have e7 : us 7 = .bool true := hd 7 (by kernel_rfl)
                have gv : A.tmps[55]? = some (us 7) := by rw [hA]; kernel_rfl
                rw [e7] at gv
                refine flow_call 17 #[us 10, us 13] (by rw [guard_known 7 true true 55 rfl rfl gv]; rfl) (fun _ => by rw [hA]; kernel_rfl) ?_ hK
                rw [e10, e13]
                have := same_any w' q6 q7 A6 A7 ny ny c6 c7 (X.take ny) (Y.take ny) (by rw [List.length_take, HNX.out]; omega) (by rw [List.length_take, HNY.out]; omega) (by rw [List.length_take]; omega) ((M6.out.below0 hC).take ny) ((M7.out.below0 hC).take ny)
                rw [HX3.out] at this
                exact calls_known (this.mono fun e w2 ⟨h1, nn, h2⟩ => ⟨h1, by rw [h2]; exact below_drewN (Below.refl _ w') nn⟩)
              · intro us w' A hA hC hd K hK
                have e7 : us 7 = .bool true := hd 7 (by kernel_rfl)
                have gv : A.tmps[55]? = some (us 7) := by rw [hA]; kernel_rfl
                rw [e7] at gv
                exact flow_load (φ := fun v _ => v = .agg (#[.string R1, .slice A1 L1.length c1])) (by rw [guard_known 7 true true 55 rfl rfl gv]; rfl) 24 (.tmp 2) rfl w.heap.size 0 (by rw [hA]; kernel_rfl) (#[.string R1, .slice A1 L1.length c1]).toList _ (RA.out w' hC) Try.underlying24 rfl (by rw [nm_size]; rfl) rfl hK
              · intro us w' A hA hC hd K hK
                have e7 : us 7 = .bool true := hd 7 (by kernel_rfl)
                have gv : A.tmps[55]? = some (us 7) := by rw [hA]; kernel_rfl
                rw [e7] at gv
                exact flow_load (φ := fun v _ => v = .agg (#[.string R2, .slice A2 L2.length c2])) (by rw [guard_known 7 true true 55 rfl rfl gv]; rfl) 24 (.tmp 3) rfl (w.heap.size + 1) 0 (by rw [hA]; kernel_rfl) (#[.string R2, .slice A2 L2.length c2]).toList _ (RB.out w' hC) Try.underlying24 rfl (by rw [nm_size]; rfl) rfl hK
              · intro us w' A hA hC hd K hK
                have e15 : us 15 = .agg (#[.string R1, .slice A1 L1.length c1]) := hd 15 (by kernel_rfl)
                have e16 : us 16 = .agg (#[.string R2, .slice A2 L2.length c2]) := hd 16 (by kernel_rfl)
                have e7 : us 7 = .bool true := hd 7 (by kernel_rfl)
                have gv : A.tmps[55]? = some (us 7) := by rw [hA]; kernel_rfl
                rw [e7] at gv
                refine flow_call 19 #[us 15, us 16] (by rw [guard_known 7 true true 55 rfl rfl gv]; rfl) (fun _ => by rw [hA]; kernel_rfl) ?_ hK
                rw [e15, e16]
                have := resame_any w' R1 R2 L1 L2 q1 q2 A1 A2 c1 c2 (by have := HL1.out; unfold maxLen at this; omega) (by have := HL2.out; unfold maxLen at this; omega) (M1.out.below0 hC) (M2.out.below0 hC)
                rw [HD.out] at this
                exact calls_known this
              · intro us w' A hA hC hd K hK
                have e14 : us 14 = .bool D := hd 14 (by kernel_rfl)
                have e17 : us 17 = .bool D := hd 17 (by kernel_rfl)
                have e7 : us 7 = .bool true := hd 7 (by kernel_rfl)
                have gv : A.tmps[55]? = some (us 7) := by rw [hA]; kernel_rfl
                rw [e7] at gv
                have ev62 : A.tmps[62]?.getD undef = us 14 := by rw [hA]; kernel_rfl
                rw [e14] at ev62
                have ev65 : A.tmps[65]?.getD undef = us 17 := by rw [hA]; kernel_rfl
                rw [e17] at ev65
                refine flow_value (.bool true) (by rw [guard_known 7 true true 55 rfl rfl gv]; rfl) ?_ rfl hK
                clear hA hd hK gv
                cases D <;> go_simp
              · intro us w' A hA hC hd K hK
                have e7 : us 7 = .bool true := hd 7 (by kernel_rfl)
                have e18 : us 18 = .bool true := hd 18 (by kernel_rfl)
                have ev55 : A.tmps[55]?.getD undef = us 7 := by rw [hA]; kernel_rfl
                rw [e7] at ev55
                have ev66 : A.tmps[66]?.getD undef = us 18 := by rw [hA]; kernel_rfl
                rw [e18] at ev66
                refine flow_value (.bool true) (by rw [hA]; kernel_rfl) ?_ rfl hK
                clear hA hd hK
                go_simp
            · intro us w' A hA hC hd
              subst hA
              have e0 : us 0 = .slice A6 nx c6 := hd 0 (by omega)
              have e1 : us 1 = .slice A7 ny c7 := hd 1 (by omega)
              have e2 : us 2 = .bool D := hd 2 (by omega)
              have e3 : us 3 = .agg (#[.string R1, .slice A1 L1.length c1]) := hd 3 (by omega)
              have e4 : us 4 = .agg (#[.string R2, .slice A2 L2.length c2]) := hd 4 (by omega)
              have e5 : us 5 = .bool D := hd 5 (by omega)
              have e6 : us 6 = .bool true := hd 6 (by omega)
              have e7 : us 7 = .bool true := hd 7 (by omega)
              have e8 : us 8 = .slice A6 nx c6 := hd 8 (by omega)
              have e9 : us 9 = .int .i64 (ny : Int) := hd 9 (by omega)
              have e10 : us 10 = .slice A6 ny c6 := hd 10 (by omega)
              have e11 : us 11 = .slice A7 ny c7 := hd 11 (by omega)
              have e12 : us 12 = .int .i64 (ny : Int) := hd 12 (by omega)
              have e13 : us 13 = .slice A7 ny c7 := hd 13 (by omega)
              have e14 : us 14 = .bool D := hd 14 (by omega)
              have e15 : us 15 = .agg (#[.string R1, .slice A1 L1.length c1]) := hd 15 (by omega)
              have e16 : us 16 = .agg (#[.string R2, .slice A2 L2.length c2]) := hd 16 (by omega)
              have e17 : us 17 = .bool D := hd 17 (by omega)
              have e18 : us 18 = .bool true := hd 18 (by omega)
              have e19 : us 19 = .bool true := hd 19 (by omega)
              simp only [List.take_succ_cons, List.take_zero, List.drop_succ_cons, List.drop_zero, fillAct, Act.put, Nat.zero_add, Nat.reduceAdd, List.setIfInBounds_toArray, List.set_cons_zero, List.set_cons_succ, e0, e1, e2, e3, e4, e5, e6, e7, e8, e9, e10, e11, e12, e13, e14, e15, e16, e17, e18, e19]
              clear hd 
              have HB := kept (below_next HW.out hC)
              clear e0 e1 e2 e3 e4 e5 e6 e7 e8 e9 e10 e11 e12 e13 e14 e15 e16 e17 e18 e19
              go_wp2_with fail
              go_ret
              exact ⟨rfl, HB.out⟩
set_option maxRecDepth 100000 in
theorem lifted (os : Os) (started : os.Started) (H : Type) (enc : TypeId × Value → H) :
    ReturnsInHanded {} Try.checked os 6 .any (Rows.nameApartSpec.pre6 enc Try.prog Try.f6 Rows.nameApartRow.domain false) (Rows.nameApartSpec.post enc Try.prog Try.f6 false true false false) := by
  refine returnsInHanded_of_change (C := Try.checked) own_knob started (by kernel_rfl) Try.func6
    (ChangeSpec.witness6 (enc := enc) (C := Try.checked) false ⟨#[], #[.agg #[.string ⟨#[]⟩, .slice none 0 0], .agg #[.string ⟨#[]⟩, .slice none 0 0]], []⟩ 8 (by kernel_rfl) (by kernel_rfl) (by kernel_rfl) (by kernel_rfl)) ?_
  intro W base args ds gs before hval0 hW hcnd _
  have hval : ∀ (j : Nat) t v, Try.f6.params[j]? = some t → args[j]? = some v → Value.okWide Try.prog W .any base t v := hval0
  have hW' := hW
  obtain ⟨p, q, hA0, hV, rfl, hfz, hnd⟩ := hW
  have hA : DataW.TrodAll enc Try.prog W 0 (fun _ => true) true Try.f6.params.toList args.toList ds p := hA0
  rw [Try.params6] at hA hval
  obtain ⟨v0, v1, d0, d1, p0, p1, rfl, rfl, rfl, h0, h1⟩ := trodAll_two hA
  obtain ⟨rfl, rfl⟩ := trodVars_none hV
  have hvl0 := hval 0 24 v0 rfl rfl
  have hvl1 := hval 1 24 v1 rfl rfl
  obtain ⟨R1, A1, q1, c1, L1, rfl, hr1, hs1, hl1, hc1, hm1⟩ := open_name hvl0 h0
  obtain ⟨R2, A2, q2, c2, L2, rfl, hr2, hs2, hl2, hc2, hm2⟩ := open_name hvl1 h1
  clear hA0 hval0
  refine (walk_any W R1 R2 L1 L2 q1 q2 c1 c2 A1 A2 hr1 hr2 hs1 hs2 (Nat.le_trans hl1 hc1) (Nat.le_trans hl2 hc2) hm1 hm2).mono fun e W' ⟨he, bel⟩ => ?_
  subst he
  exact ⟨_, rfl, _, _, _, [], _, [], hW', trodAll_mk1 (shut_bool Try.underlying4 _), trodAll_mk2 (keep_arg (by kernel_rfl) (of_decide_eq_true (by kernel_rfl)) h0 bel) (keep_arg (by kernel_rfl) (of_decide_eq_true (by kernel_rfl)) h1 bel), rfl, bel.frame _, fun h => by cases h⟩

theorem over : Rows.nameApartRow.holds Try.pinned (OpenSpec.ofChange Rows.nameApartSpec) :=
  OpenClaim.holds_of_wide 6 Try.f6 rfl rfl rfl rfl rfl rfl rfl ⟨rfl, rfl, rfl, rfl, rfl⟩ rfl rfl rfl rfl rfl (by kernel_rfl) Try.func6 (by kernel_rfl)
    (of_decide_eq_true (by kernel_rfl)) (by unfold Func.isWrapper; first | (rw [if_pos (by decide +kernel)]; kernel_rfl) | (rw [if_neg (by decide +kernel)]; exact ⟨rfl, rfl⟩))
    (fun os started H enc _ => lifted os started H enc)

/-- The statement. -/
theorem proved : Rows.NameApartSaid := over
#print axioms proved
end Go.Proofs.Ytnejidaplbonoaa.nameApart
