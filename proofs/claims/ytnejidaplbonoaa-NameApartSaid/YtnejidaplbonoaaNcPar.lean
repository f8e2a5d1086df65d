/-
  Parse of package name, by a contract.
-/
import Derived.Test.YtnejidaplbonoaaNcGo
import Derived.Test.YtnejidaplbonoaaNcTxt
import Derived.Deep.LoopGhost
import Derived.WalkMore
namespace Go.Proofs.Ytnejidaplbonoaa
open Go.RowKit
set_option linter.unusedVariables false
set_option linter.unusedSimpArgs false

theorem wcut_rest (l : List UInt8) : (wcut [] l).2.2.length ≤ l.length ∧ (wcut [] l).1.length ≤ l.length := by
  obtain ⟨O, h1, h2⟩ := wcut_back l.length l [] (Nat.le_refl _)
  rw [List.nil_append] at h1
  have hE : O.length ≤ (escL O).length := by
    clear h1 h2
    induction O with
    | nil => simp
    | cons b O ih =>
      rw [escL_cons, List.length_append, List.length_cons]
      split
      · simp; omega
      · simp; omega
  rw [h1]
  rcases h2 with ⟨_, h2, h3⟩ | ⟨_, h2⟩
  · rw [h3]
    have := congrArg List.length h2
    exact ⟨by simp, by omega⟩
  · have := congrArg List.length h2
    rw [List.length_append, List.length_cons] at this
    exact ⟨by omega, by omega⟩
set_option maxHeartbeats 8000000 in
set_option maxRecDepth 100000 in
theorem nparse_any (s : ByteArray) (w : World) (hs : s.size ≤ 2000) :
    Calls Try.prog 14 #[.string s] w fun e w' => ∃ v, e = .returned (.tuple #[.agg #[.string ((parseL s.data.toList).getD (⟨#[]⟩, [])).1, v], .bool (parseL s.data.toList).isSome]) ∧ OwnS 9 w' w.heap.size v ((parseL s.data.toList).getD (⟨#[]⟩, [])).2 ∧ Below w.heap.size w w' := by
  obtain ⟨i0, hi0, hz0, hs0, hb0⟩ := str_parts
  obtain ⟨Z, hZ⟩ : ∃ Z, parseL s.data.toList = Z := ⟨_, rfl⟩
  rw [hZ]
  have HZ := kept ((pGo_all s.data.toList).trans hZ)
  clear hZ
  go_enter Try.func14, Try.ntmps14
  go_wp2
  go_step3
  go_wp2
  go_step3
  go_wp2
  go_name_world W0 hW0
  have hbx := two_box (w := w) (T := 24) (a := zN) (b := zN)
  rw [show (w.alloc (.cells zN 24)).alloc (.cells zN 24) = W0 from hW0] at hbx
  obtain ⟨hb2, hb1, hw⟩ := hbx
  have HB1 := kept hb1
  have HB2 := kept hb2
  have HW := kept hw
  have hsz0 : w.heap.size + 2 ≤ W0.heap.size := by have := hb2.lt; omega
  clear hW0 hb1 hb2 hw
  go_loopg [0, 5, 6, 7] 7 (fun g t _ _ _ wr => ∃ (D : List (List UInt8)) (l : ByteArray) (v : Value), t = .string l ∧ g + 1 + D.length = 8 ∧ l.size ≤ 2000 ∧ w.heap.size + 2 ≤ wr.heap.size ∧ Kept (∀ x ∈ D, x.length ≤ 2000) ∧ Kept (pGo (g + 1) D l.data.toList = Z) ∧ Kept (OwnS 9 wr (w.heap.size + 2) v (D.map strOf)) ∧ Kept (Blk wr (w.heap.size + 1) 24 #[.string ⟨#[]⟩, v]) ∧ Kept (Blk wr w.heap.size 24 zN) ∧ Kept (Below w.heap.size w wr))
  case atStart => exact ⟨[], s, _, rfl, rfl, hs, hsz0, kept (fun x hx => by cases hx), HZ, kept (OwnS.nil_ _ _ _), HB2, HB1, HW⟩
  case round =>
    obtain ⟨D, l, v, rfl, hgD, hls, hwr, HD, HG, HO, HB2, HB1, HW⟩ := hrel
    have hcut := fun W => ncut_any l W (by omega)
    have hrs := wcut_rest l.data.toList
    have hll : l.data.toList.length = l.size := by simp
    obtain ⟨⟨O, e, r⟩, hwc⟩ : ∃ p, wcut [] l.data.toList = p := ⟨_, rfl⟩
    have hG := HG.out
    unfold pGo at hG
    rw [hwc] at hcut hrs hG
    simp only at hrs hG
    have HCUT := kept hcut
    have HGG := kept hG
    have HRS := kept (show O.length ≤ 2000 ∧ r.length ≤ 2000 by omega)
    clear hcut hrs hG HG hwc
    go_upto_region 3 with (first | (go_at_call 33; refine (HCUT.out _).mono ?_; unfold cutV; rintro e1 w1 ⟨rfl, k1⟩))
    replace HO := kept (HO.out.below k1)
    replace HB2 := kept (HB2.out.below k1 HB2.out.lt)
    replace HB1 := kept (HB1.out.below k1 HB1.out.lt)
    replace HW := kept (HW.out.trans (k1.mono HW.out.size))
    have hw1 : w.heap.size + 2 ≤ w1.heap.size := Nat.le_trans hwr k1.size
    clear k1 HCUT
    have hn1 : w1.cell? ⟨w.heap.size + 1, 1, none⟩ = some v := by rw [HB2.out.cell]; rfl
    have hnf := HB2.out.frozen 1
    obtain ⟨X, hX⟩ : ∃ X, strOf O = X := ⟨_, rfl⟩
    have HX := kept hX
    rw [hX]
    clear hX
    have hM := mem_oneS w1 X
    have HOa := kept (HO.out.alloc (.cells #[.string X] 9))
    have HB2a := kept (HB2.out.alloc (.cells #[.string X] 9))
    have HB1a := kept (HB1.out.alloc (.cells #[.string X] 9))
    have hBa : w.heap.size + 2 ≤ (w1.alloc (.cells #[.string X] 9)).heap.size := by simp; omega
    have HDL := kept (show (D.map strOf).length + ([X] : List ByteArray).length ≤ 1000000 by simp; omega)
    have HWa := kept (HW.out.alloc HW.out.size (.cells #[.string X] 9))
    go_upto_region 4 with (
      at_builtin
      refine wpList_append_strs (T := 9) rfl (.tmp 18) (.tmp 20) 22 rfl (w.heap.size + 2) i0 Try.underlying22 hi0 hz0 hs0 hb0 v (D.map strOf) rfl HOa.out w1.heap.size (some ⟨w1.heap.size, 0, none⟩) 1 1 [X] rfl rfl hM HDL.out hBa ?_
      intro v4 W4 ho4 hg4
      obtain ⟨A4, q4, c4, hv4, hcc4, hcm4, hm4⟩ := ho4.form
      obtain ⟨n4, hn4⟩ : ∃ n4, (D.map strOf ++ [X]).length = n4 := ⟨_, rfl⟩
      have HN4 := kept (show n4 = D.length + 1 by rw [← hn4]; simp)
      rw [hn4] at hv4
      subst hv4
      have HO4 := kept (show OwnS 9 W4 (w.heap.size + 2) (.slice A4 n4 c4) ((D ++ [O]).map strOf) by rw [List.map_append, List.map_cons, HX.out]; exact ho4)
      have HB24 := kept (HB2a.out.grown hg4 (fun e => by have := (OwnS.lt HO.out _ e.symm).1; omega))
      have HB14 := kept (HB1a.out.grown hg4 (fun e => by have := (OwnS.lt HO.out _ e.symm).1; omega))
      have HW4 := kept (HWa.out.grown hg4 HWa.out.size (fun j hj => by have := (OwnS.lt HO.out j hj).1; omega))
      have hs4 : w.heap.size + 2 ≤ W4.heap.size := Nat.le_trans hBa hg4.size
      have hn14 : W4.cell? ⟨w.heap.size + 1, 1, none⟩ = some v := by rw [HB24.out.cell]; rfl
      have hnf4 := HB24.out.frozen 1
      clear ho4 hg4 hcc4 hcm4 hm4 hn4)
    go_name_world W5 hW5
    replace HB2 := kept (show Blk W5 (w.heap.size + 1) 24 #[.string ⟨#[]⟩, .slice A4 n4 c4] by rw [← hW5]; exact HB24.out.put 1 (.slice A4 n4 c4))
    replace HB1 := kept (show Blk W5 w.heap.size 24 zN by rw [← hW5]; exact HB14.out.far (p := ⟨w.heap.size + 1, 1, none⟩) (by show w.heap.size ≠ w.heap.size + 1; omega) _)
    replace HO := kept (show OwnS 9 W5 (w.heap.size + 2) (.slice A4 n4 c4) ((D ++ [O]).map strOf) by
      rw [← hW5]
      exact HO4.out.keep fun j hj => Below.heap_setCell W4 ⟨w.heap.size + 1, 1, none⟩ _ j (by have := (OwnS.lt HO4.out j hj).1; show j ≠ w.heap.size + 1; omega))
    replace HW := kept (show Below w.heap.size w W5 by rw [← hW5]; exact HW4.out.setCell (p := ⟨w.heap.size + 1, 1, none⟩) (by show w.heap.size ≤ w.heap.size + 1; omega) _)
    have hs5 : w.heap.size + 2 ≤ W5.heap.size := by rw [← hW5]; simpa [World.setCell] using hs4
    have HD2 := kept (show ∀ x ∈ D ++ [O], x.length ≤ 2000 from fun x hx => by
      rcases List.mem_append.1 hx with h | h
      · exact HD.out x h
      · rw [List.mem_singleton.1 h]; exact HRS.out.1)
    clear hW5 HO4 HB24 HB14 HW4 hn14 hnf4 HWa HB1a HB2a HOa hM hn1 hnf hs4 hBa HDL HD HX
    by_cases h64 : e = 64
    · subst h64
      have hG := HGG.out
      rw [if_pos rfl] at hG
      have HG := kept hG
      clear hG HGG
      have hcut := fun W => ncut_any (strOf r) W (by rw [strOf_size]; have := HRS.out.2; omega)
      have hG := HG.out
      unfold pFin at hG
      obtain ⟨⟨O2, e2, r2⟩, hwc⟩ : ∃ p, wcut [] r = p := ⟨_, rfl⟩
      rw [strOf_list, hwc] at hcut
      rw [hwc] at hG
      simp only at hG
      obtain ⟨RR, hRR⟩ : ∃ RR, strOf O2 = RR := ⟨_, rfl⟩
      obtain ⟨L, hL⟩ : ∃ L, (D ++ [O]).map strOf = L := ⟨_, rfl⟩
      rw [hRR, hL] at hG
      have hRRs : RR.size ≤ 2000 := by
        have h1 := (wcut_rest r).2
        rw [hwc] at h1
        have h2 := HRS.out.2
        rw [← hRR, strOf_size]
        exact Nat.le_trans h1 h2
      have HN := kept (show n4 = L.length by rw [HN4.out, ← hL]; simp)
      have HLS := kept (show ∀ s ∈ L, s.size ≤ maxLen from fun s hs => by
        rw [← hL] at hs
        obtain ⟨x, hx, rfl⟩ := List.mem_map.1 hs
        have := HD2.out x hx
        rw [strOf_size]
        unfold maxLen
        omega)
      replace HO := kept (show OwnS 9 W5 (w.heap.size + 2) (.slice A4 n4 c4) L by rw [← hL]; exact HO.out)
      have HCUT := kept (show ∀ W, Calls Try.prog 33 #[.string (strOf r)] W fun e w' => e = .returned (.tuple #[.string RR, .int .u8 (e2.toNat : Int), .string (strOf r2)]) ∧ Below W.heap.size W w' from fun W => by rw [← hRR]; exact hcut W)
      have HGG := kept hG
      have h8 : n4 ≤ 8 := by have := HN4.out; omega
      clear hcut hG HG hwc hRR hL HD2 HN4
      go_upto_region 9 with (first | (go_at_call 33; refine (HCUT.out _).mono ?_; rintro e1 w6 ⟨rfl, k6⟩))
      replace HO := kept (HO.out.below k6)
      replace HB2 := kept (HB2.out.below k6 HB2.out.lt)
      replace HB1 := kept (HB1.out.below k6 HB1.out.lt)
      replace HW := kept (HW.out.trans (k6.mono HW.out.size))
      have hs6 : w.heap.size + 2 ≤ w6.heap.size := Nat.le_trans hs5 k6.size
      clear k6 HCUT
      have hn0 : w6.cell? ⟨w.heap.size + 1, 0, none⟩ = some (.string ⟨#[]⟩) := by rw [HB2.out.cell]; rfl
      have hnf := HB2.out.frozen 0
      go_upto_region 10 with (fail)
      go_name_world W7 hW7
      replace HO := kept (show OwnS 9 W7 (w.heap.size + 2) (.slice A4 n4 c4) L by
        rw [← hW7]
        exact HO.out.keep fun j hj => Below.heap_setCell w6 ⟨w.heap.size + 1, 0, none⟩ _ j (by have := (OwnS.lt HO.out j hj).1; show j ≠ w.heap.size + 1; omega))
      replace HB2 := kept (show Blk W7 (w.heap.size + 1) 24 #[.string RR, .slice A4 n4 c4] by rw [← hW7]; exact HB2.out.put 0 (.string RR))
      replace HB1 := kept (show Blk W7 w.heap.size 24 zN by rw [← hW7]; exact HB1.out.far (p := ⟨w.heap.size + 1, 0, none⟩) (by show w.heap.size ≠ w.heap.size + 1; omega) _)
      replace HW := kept (show Below w.heap.size w W7 by rw [← hW7]; exact HW.out.setCell (p := ⟨w.heap.size + 1, 0, none⟩) (by show w.heap.size ≤ w.heap.size + 1; omega) _)
      clear hW7 hn0 hnf
      by_cases h0 : e2 = 0
      · subst h0
        have hn0 : W7.cell? ⟨w.heap.size + 1, 0, none⟩ = some (.string RR) := by rw [HB2.out.cell]; rfl
        have hn1 : W7.cell? ⟨w.heap.size + 1, 1, none⟩ = some (.slice A4 n4 c4) := by rw [HB2.out.cell]; rfl
        obtain ⟨A5, q5, c5, hv5, _, _, hm5⟩ := HO.out.form
        injection hv5 with hv5 hv7 hv6
        subst hv5 hv6
        clear hv7
        have HV := kept (show Calls Try.prog 11 #[.agg #[.string RR, .slice A4 n4 c4]] W7 fun e w' => e = .returned (.bool (isN (RR, L))) ∧ Below W7.heap.size W7 w' by
          rw [HN.out]
          exact nvalid_any W7 RR L q5 A4 c4 (by unfold maxLen; omega) HLS.out (by unfold maxLen; have := HN.out; omega) hm5)
        clear hm5
        cases hN : isN (RR, L) with
        | false =>
          obtain rfl : Z = none := HGG.out.symm.trans (if_neg fun h => by rw [hN] at h; cases h.2)
          go_upto_region 11 with (first | (go_at_call 11; refine HV.out.mono ?_; rintro e1 w8 ⟨rfl, k8⟩))
          replace HB1 := kept (HB1.out.below k8 HB1.out.lt)
          replace HW := kept (HW.out.trans (k8.mono HW.out.size))
          clear k8
          have hz1 : w8.cell? ⟨w.heap.size, 0, none⟩ = some (.string ⟨#[]⟩) := by rw [HB1.out.cell]; rfl
          have hz2 : w8.cell? ⟨w.heap.size, 1, none⟩ = some (.slice none 0 0) := by rw [HB1.out.cell]; rfl
          have hf0 := HB1.out.frozen 0
          have hf1 := HB1.out.frozen 1
          have HB9 := kept ((HB1.out.put 0 (.string ⟨#[]⟩)).put 1 (.slice none 0 0))
          have HW9 := kept ((HW.out.setCell (p := ⟨w.heap.size, 0, none⟩) (Nat.le_refl _) (.string ⟨#[]⟩)).setCell (p := ⟨w.heap.size, 1, none⟩) (Nat.le_refl _) (.slice none 0 0))
          have x0 : ((w8.setCell ⟨w.heap.size, 0, none⟩ (.string ⟨#[]⟩)).setCell ⟨w.heap.size, 1, none⟩ (.slice none 0 0)).cell? ⟨w.heap.size, 0, none⟩ = some (.string ⟨#[]⟩) := by rw [HB9.out.cell]; rfl
          have x1 : ((w8.setCell ⟨w.heap.size, 0, none⟩ (.string ⟨#[]⟩)).setCell ⟨w.heap.size, 1, none⟩ (.slice none 0 0)).cell? ⟨w.heap.size, 1, none⟩ = some (.slice none 0 0) := by rw [HB9.out.cell]; rfl
          go_wp2
          rw [Exit.noGoto_ret]
          refine bodyPost_ret (v := .tuple #[.agg #[.string ⟨#[]⟩, .slice none 0 0], .bool false]) (by simp [results, Try.results14, go_sem, x0, x1]) rfl ⟨_, rfl, OwnS.nil_ _ _ _, HW9.out⟩
        | true =>
          obtain rfl : Z = some (RR, L) := HGG.out.symm.trans (if_pos ⟨rfl, hN⟩)
          go_upto_region 12 with (first | (go_at_call 11; refine HV.out.mono ?_; rintro e1 w8 ⟨rfl, k8⟩))
          replace HO := kept (HO.out.below k8)
          replace HB2 := kept (HB2.out.below k8 HB2.out.lt)
          replace HB1 := kept (HB1.out.below k8 HB1.out.lt)
          replace HW := kept (HW.out.trans (k8.mono HW.out.size))
          clear k8 hn0 hn1
          have hn0 : w8.cell? ⟨w.heap.size + 1, 0, none⟩ = some (.string RR) := by rw [HB2.out.cell]; rfl
          have hn1 : w8.cell? ⟨w.heap.size + 1, 1, none⟩ = some (.slice A4 n4 c4) := by rw [HB2.out.cell]; rfl
          have hz1 : w8.cell? ⟨w.heap.size, 0, none⟩ = some (.string ⟨#[]⟩) := by rw [HB1.out.cell]; rfl
          have hz2 : w8.cell? ⟨w.heap.size, 1, none⟩ = some (.slice none 0 0) := by rw [HB1.out.cell]; rfl
          have hf0 := HB1.out.frozen 0
          have hf1 := HB1.out.frozen 1
          have HB9 := kept ((HB1.out.put 0 (.string RR)).put 1 (.slice A4 n4 c4))
          have HW9 := kept ((HW.out.setCell (p := ⟨w.heap.size, 0, none⟩) (Nat.le_refl _) (.string RR)).setCell (p := ⟨w.heap.size, 1, none⟩) (Nat.le_refl _) (.slice A4 n4 c4))
          have x0 : ((w8.setCell ⟨w.heap.size, 0, none⟩ (.string RR)).setCell ⟨w.heap.size, 1, none⟩ (.slice A4 n4 c4)).cell? ⟨w.heap.size, 0, none⟩ = some (.string RR) := by rw [HB9.out.cell]; rfl
          have x1 : ((w8.setCell ⟨w.heap.size, 0, none⟩ (.string RR)).setCell ⟨w.heap.size, 1, none⟩ (.slice A4 n4 c4)).cell? ⟨w.heap.size, 1, none⟩ = some (.slice A4 n4 c4) := by rw [HB9.out.cell]; rfl
          have HO9 := kept (show OwnS 9 ((w8.setCell ⟨w.heap.size, 0, none⟩ (.string RR)).setCell ⟨w.heap.size, 1, none⟩ (.slice A4 n4 c4)) w.heap.size (.slice A4 n4 c4) L from OwnS.mono (OwnS.keep HO.out fun j hj => by
            have hj1 := (OwnS.lt HO.out j hj).1
            exact (Below.heap_setCell _ ⟨w.heap.size, 1, none⟩ _ j (by show j ≠ w.heap.size; omega)).trans (Below.heap_setCell _ ⟨w.heap.size, 0, none⟩ _ j (by show j ≠ w.heap.size; omega))) (by omega))
          go_wp2
          rw [Exit.noGoto_ret]
          refine bodyPost_ret (v := .tuple #[.agg #[.string RR, .slice A4 n4 c4], .bool true]) (by simp [results, Try.results14, go_sem, x0, x1]) rfl ⟨_, rfl, HO9.out, HW9.out⟩
      · obtain rfl : Z = none := HGG.out.symm.trans (if_neg fun h => h0 h.1)
        have hb0 : ((e2.toNat : Int) != 0) = true := bne_iff_ne.2 fun z => h0 (UInt8.toNat_inj.1 (by show e2.toNat = 0; omega))
        clear h0 HGG
        have hz1 : W7.cell? ⟨w.heap.size, 0, none⟩ = some (.string ⟨#[]⟩) := by rw [HB1.out.cell]; rfl
        have hz2 : W7.cell? ⟨w.heap.size, 1, none⟩ = some (.slice none 0 0) := by rw [HB1.out.cell]; rfl
        have hf0 := HB1.out.frozen 0
        have hf1 := HB1.out.frozen 1
        have HB9 := kept ((HB1.out.put 0 (.string ⟨#[]⟩)).put 1 (.slice none 0 0))
        have HW9 := kept ((HW.out.setCell (p := ⟨w.heap.size, 0, none⟩) (Nat.le_refl _) (.string ⟨#[]⟩)).setCell (p := ⟨w.heap.size, 1, none⟩) (Nat.le_refl _) (.slice none 0 0))
        have x0 : ((W7.setCell ⟨w.heap.size, 0, none⟩ (.string ⟨#[]⟩)).setCell ⟨w.heap.size, 1, none⟩ (.slice none 0 0)).cell? ⟨w.heap.size, 0, none⟩ = some (.string ⟨#[]⟩) := by rw [HB9.out.cell]; rfl
        have x1 : ((W7.setCell ⟨w.heap.size, 0, none⟩ (.string ⟨#[]⟩)).setCell ⟨w.heap.size, 1, none⟩ (.slice none 0 0)).cell? ⟨w.heap.size, 1, none⟩ = some (.slice none 0 0) := by rw [HB9.out.cell]; rfl
        go_wp2
        rw [Exit.noGoto_ret]
        refine bodyPost_ret (v := .tuple #[.agg #[.string ⟨#[]⟩, .slice none 0 0], .bool false]) (by simp [results, Try.results14, go_sem, x0, x1]) rfl ⟨_, rfl, OwnS.nil_ _ _ _, HW9.out⟩
    · have hb64 : ((e.toNat : Int) == 64) = false := beq_false_of_ne fun z => h64 (UInt8.toNat_inj.1 (by show e.toNat = 64; omega))
      have hG := HGG.out
      rw [if_neg h64] at hG
      have HG := kept hG
      have hn1 : W5.cell? ⟨w.heap.size + 1, 1, none⟩ = some (.slice A4 n4 c4) := by rw [HB2.out.cell]; rfl
      clear hG HGG h64
      by_cases h47 : e = 47
      · subst h47
        by_cases hg0 : gk = 0
        · obtain rfl : Z = none := HG.out.symm.trans (if_neg fun h => h.2 hg0)
          have h8 : n4 = 8 := by have := HN4.out; omega
          subst h8
          clear HG HN4
          have hz1 : W5.cell? ⟨w.heap.size, 0, none⟩ = some (.string ⟨#[]⟩) := by rw [HB1.out.cell]; rfl
          have hz2 : W5.cell? ⟨w.heap.size, 1, none⟩ = some (.slice none 0 0) := by rw [HB1.out.cell]; rfl
          have hf0 := HB1.out.frozen 0
          have hf1 := HB1.out.frozen 1
          have HB9 := kept ((HB1.out.put 0 (.string ⟨#[]⟩)).put 1 (.slice none 0 0))
          have HW9 := kept ((HW.out.setCell (p := ⟨w.heap.size, 0, none⟩) (Nat.le_refl _) (.string ⟨#[]⟩)).setCell (p := ⟨w.heap.size, 1, none⟩) (Nat.le_refl _) (.slice none 0 0))
          have x0 : ((W5.setCell ⟨w.heap.size, 0, none⟩ (.string ⟨#[]⟩)).setCell ⟨w.heap.size, 1, none⟩ (.slice none 0 0)).cell? ⟨w.heap.size, 0, none⟩ = some (.string ⟨#[]⟩) := by rw [HB9.out.cell]; rfl
          have x1 : ((W5.setCell ⟨w.heap.size, 0, none⟩ (.string ⟨#[]⟩)).setCell ⟨w.heap.size, 1, none⟩ (.slice none 0 0)).cell? ⟨w.heap.size, 1, none⟩ = some (.slice none 0 0) := by rw [HB9.out.cell]; rfl
          go_wp2
          rw [Exit.noGoto_ret]
          refine bodyPost_ret (v := .tuple #[.agg #[.string ⟨#[]⟩, .slice none 0 0], .bool false]) (by simp [results, Try.results14, go_sem, x0, x1]) rfl ⟨_, rfl, OwnS.nil_ _ _ _, HW9.out⟩
        · have HG2 := kept (show pGo (gk - 1 + 1) (D ++ [O]) r = Z by rw [show gk - 1 + 1 = gk by omega]; exact (if_pos ⟨rfl, hg0⟩).symm.trans HG.out)
          have h8 : ((n4 : Int) == 8) = false := beq_false_of_ne (by have := HN4.out; omega)
          clear HG
          go_wp2
          go_roundg (gk - 1)
          case rel => exact ⟨D ++ [O], strOf r, .slice A4 n4 c4, rfl, by simp; omega, by rw [strOf_size]; exact HRS.out.2, hs5, HD2, HG2, HO, HB2, HB1, HW⟩
          case measure => omega
      · obtain rfl : Z = none := HG.out.symm.trans (if_neg fun h => h47 h.1)
        have hb47 : ((e.toNat : Int) != 47) = true := bne_iff_ne.2 fun z => h47 (UInt8.toNat_inj.1 (by show e.toNat = 47; omega))
        clear HG h47
        have hz1 : W5.cell? ⟨w.heap.size, 0, none⟩ = some (.string ⟨#[]⟩) := by rw [HB1.out.cell]; rfl
        have hz2 : W5.cell? ⟨w.heap.size, 1, none⟩ = some (.slice none 0 0) := by rw [HB1.out.cell]; rfl
        have hf0 := HB1.out.frozen 0
        have hf1 := HB1.out.frozen 1
        have HB9 := kept ((HB1.out.put 0 (.string ⟨#[]⟩)).put 1 (.slice none 0 0))
        have HW9 := kept ((HW.out.setCell (p := ⟨w.heap.size, 0, none⟩) (Nat.le_refl _) (.string ⟨#[]⟩)).setCell (p := ⟨w.heap.size, 1, none⟩) (Nat.le_refl _) (.slice none 0 0))
        have x0 : ((W5.setCell ⟨w.heap.size, 0, none⟩ (.string ⟨#[]⟩)).setCell ⟨w.heap.size, 1, none⟩ (.slice none 0 0)).cell? ⟨w.heap.size, 0, none⟩ = some (.string ⟨#[]⟩) := by rw [HB9.out.cell]; rfl
        have x1 : ((W5.setCell ⟨w.heap.size, 0, none⟩ (.string ⟨#[]⟩)).setCell ⟨w.heap.size, 1, none⟩ (.slice none 0 0)).cell? ⟨w.heap.size, 1, none⟩ = some (.slice none 0 0) := by rw [HB9.out.cell]; rfl
        go_wp2
        rw [Exit.noGoto_ret]
        refine bodyPost_ret (v := .tuple #[.agg #[.string ⟨#[]⟩, .slice none 0 0], .bool false]) (by simp [results, Try.results14, go_sem, x0, x1]) rfl ⟨_, rfl, OwnS.nil_ _ _ _, HW9.out⟩
end Go.Proofs.Ytnejidaplbonoaa
