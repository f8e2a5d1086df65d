/-
  Read of package name, by a contract (written by wip/gen-ncread.py).
-/
import Derived.Test.YtnejidaplbonoaaNcVal
import Derived.Test.YtnejidaplbonoaaNcTxt
import Derived.Test.YtnejidaplbonoaaNameR
import Derived.Test.YtnejidaplbonoaaNameQ
import Derived.Test.YtnejidaplbonoaaRead
import Derived.Deep.LoopGhost
import Derived.OrdersHeld
import Derived.Deep.RegionHeld
import Derived.WalkMore
namespace Go.Proofs.Ytnejidaplbonoaa
open Go.RowKit
set_option linter.unusedVariables false
set_option linter.unusedSimpArgs false

theorem rStr_bad (s : RS) (k : Int) (h : (rStr s k).1.1 = true) : (rStr s k).2 = [] := by
  unfold rStr at h ⊢
  split
  · rename_i hc
    rw [if_pos hc] at h
    unfold rTake at h ⊢
    split
    · rename_i hd
      rw [if_pos hd] at h
      cases h
    · rfl
  · rfl
theorem rParts_bad : ∀ (k : Nat) (s : RS), (rParts k s).1.1 = true → k = 0 ∨ ([] : List UInt8) ∈ (rParts k s).2
  | 0, _, _ => .inl rfl
  | 1, s, h => .inr (by
      have e : (rStr s 1).2 = [] := rStr_bad s 1 h
      show [] ∈ [(rStr s 1).2]
      rw [e]
      simp)
  | k + 2, s, h => .inr (by
      show [] ∈ (rStr s 1).2 :: (rParts (k + 1) (rStr s 1).1).2
      rcases rParts_bad (k + 1) (rStr s 1).1 h with h | h
      · omega
      · exact List.mem_cons_of_mem _ h)
theorem isN_bad (k : Nat) (s : RS) (R : ByteArray) (h : (rParts k s).1.1 = true) : isN (R, (rParts k s).2.map strOf) = false := by
  cases e : isN (R, (rParts k s).2.map strOf) with
  | false => rfl
  | true =>
    exfalso
    obtain ⟨h1, h2, h3, h4⟩ := isN_parts e
    rcases rParts_bad k s h with h0 | h0
    · rw [List.length_map, rParts_len, h0] at h3
      omega
    · have h5 := (isW_size (h1 (strOf []) (List.mem_map.2 ⟨[], h0, rfl⟩))).1
      simp [strOf, ByteArray.size] at h5
theorem rNameB_small (s : RS) (h : (rNum (rStr s 1).1 1).2 ≤ 8) : rNameB s = isN (strOf (rStr s 1).2, (rParts (rNum (rStr s 1).1 1).2 (rNum (rStr s 1).1 1).1).2.map strOf) ∧ (rName s).1 = (rParts (rNum (rStr s 1).1 1).2 (rNum (rStr s 1).1 1).1).1 ∧ (rName s).2 = (strOf (rStr s 1).2, (rParts (rNum (rStr s 1).1 1).2 (rNum (rStr s 1).1 1).1).2.map strOf) := by
  have e : rName s = ((rParts (rNum (rStr s 1).1 1).2 (rNum (rStr s 1).1 1).1).1, (strOf (rStr s 1).2, (rParts (rNum (rStr s 1).1 1).2 (rNum (rStr s 1).1 1).1).2.map strOf)) := by
    unfold rName
    rw [show min (rNum (rStr s 1).1 1).2 9 = (rNum (rStr s 1).1 1).2 by omega]
  refine ⟨?_, by rw [e], by rw [e]⟩
  unfold rNameB
  rw [e]
  simp only
  cases hb : (rParts (rNum (rStr s 1).1 1).2 (rNum (rStr s 1).1 1).1).1.1 with
  | false => rfl
  | true => rw [isN_bad _ _ _ hb]; rfl
theorem rNameB_big (s : RS) (h : 9 ≤ (rNum (rStr s 1).1 1).2) : rNameB s = false := by
  unfold rNameB rName
  rw [show min (rNum (rStr s 1).1 1).2 9 = 9 by omega]
  have e : isN (strOf (rStr s 1).2, (rParts 9 (rNum (rStr s 1).1 1).1).2.map strOf) = false := by
    cases e : isN (strOf (rStr s 1).2, (rParts 9 (rNum (rStr s 1).1 1).1).2.map strOf) with
    | false => rfl
    | true =>
      have h4 := (isN_parts e).2.2.2
      rw [List.length_map, rParts_len] at h4
      omega
  rw [e, Bool.and_false]
theorem Rd.far {w : World} {g q : Nat} {bad : Bool} {l : List UInt8} (h : Rd w g q bad l) {p : Addr} (hg : g ≠ p.block) (hq : l ≠ [] → q ≠ p.block) (u : Value) : Rd (w.setCell p u) g q bad l := by
  obtain ⟨A', c', hb, hm, hc⟩ := h.blk
  refine ⟨⟨A', c', hb.far hg u, ?_, hc⟩, h.ne, h.len⟩
  by_cases e : l = []
  · exact .inl e
  · exact hm.setCell (hq e) u
set_option maxHeartbeats 8000000 in
set_option maxRecDepth 100000 in
theorem nread_any (w : World) (g q : Nat) (l : List UInt8) (h : Rd w g q false l) (hl : l.length ≤ 1000000) :
    Calls Try.prog 16 #[.pointer (some ⟨g, 0, none⟩)] w fun e w' => ∃ v bad' l', e = .returned (.tuple #[.agg #[.string (rNameO (false, l)).1, v], .bool (rNameB (false, l))]) ∧ OwnS 9 w' w.heap.size v (rNameO (false, l)).2 ∧ Rd w' g q bad' l' ∧ (rNameB (false, l) = true → (bad', l') = (rName (false, l)).1) ∧ w.grownBy w' (some g) := by
  obtain ⟨i0, hi0, hz0, hs0, hb0⟩ := str_parts
  obtain ⟨QN, hQN⟩ : ∃ QN, (rName (false, l)).1 = QN := ⟨_, rfl⟩
  obtain ⟨ZB, hZB⟩ : ∃ ZB, rNameB (false, l) = ZB := ⟨_, rfl⟩
  obtain ⟨ON, hON⟩ : ∃ ON, rNameO (false, l) = ON := ⟨_, rfl⟩
  have HON := kept (show ON = if ZB then (rName (false, l)).2 else (⟨#[]⟩, []) by rw [← hON, ← hZB]; rfl)
  rw [hZB, hON, hQN]
  have HSM := kept (rNameB_small (false, l))
  have HBG := kept (rNameB_big (false, l))
  have h1 := rStr_rest (false, l) 1
  have hst := str_any w 1 h
  have hgl := h.lt
  have hq0 : l ≠ [] → q < w.heap.size := fun hne => by
    obtain ⟨A, c, _, hm, _⟩ := h.blk
    exact hm.lt hne
  have HS1 := kept (fun W (hr : Rd W g q false l) => str_any W 1 hr)
  obtain ⟨⟨⟨b1, l1⟩, S1⟩, hs1⟩ : ∃ s1, rStr (false, l) 1 = s1 := ⟨_, rfl⟩
  rw [hs1] at HS1 HSM HBG h1
  rw [hZB, hQN] at HSM
  rw [hZB] at HBG
  simp only at HS1 HSM HBG h1
  have h2 := rNum_len (b1, l1) 1
  have h3 := rNum_lt (b1, l1) 1
  have HS2 := kept (fun W (hr : Rd W g q b1 l1) => num_any W 1 hr)
  obtain ⟨⟨⟨b2, l2⟩, N2⟩, hs2⟩ : ∃ s2, rNum (b1, l1) 1 = s2 := ⟨_, rfl⟩
  rw [hs2] at HS2 HSM HBG h2 h3
  simp only at HS2 HSM HBG h2 h3
  have HR := kept h
  have HQ0 := kept hq0
  have HLT := kept hgl
  have HLEN := kept (show l1.length ≤ 1000000 ∧ S1.length ≤ 1000000 ∧ l2.length ≤ l1.length ∧ (l1 ≠ [] → l ≠ []) from ⟨by omega, by omega, h2, fun hne e => hne (List.length_eq_zero_iff.1 (by rw [e] at h1; simpa using h1.1))⟩)
  clear hst hgl hq0 h hs1 hs2 h1 h2 hQN hZB hON
  go_enter Try.func16, Try.ntmps16
  go_wp2
  go_step3
  go_upto_region 1 with (fail)
  go_name_world W0 hW0
  have HB1 := kept (show Blk W0 w.heap.size 24 zN by rw [← hW0]; exact Blk.new w _ _)
  have HG := kept (show w.grownBy W0 (some g) by rw [← hW0]; exact gb_of_below ((Below.refl _ w).alloc (Nat.le_refl _) _) _)
  replace HR := kept (show Rd W0 g q false l by rw [← hW0]; exact HR.out.alloc _)
  clear hW0
  obtain ⟨RR, hRR⟩ : ∃ RR, strOf S1 = RR := ⟨_, rfl⟩
  rw [hRR] at HSM
  have HRS := kept (show RR.size ≤ 1000000 by rw [← hRR, strOf_size]; exact HLEN.out.2.1)
  have HRR := kept hRR
  clear hRR
  go_upto_region 2 with (first
    | (go_at_call 35
       refine (HS1.out _ HR.out).mono ?_
       rintro e W1 ⟨v1, rfl, ho1, hr1, hg1⟩
       obtain ⟨A1, q1, c1, hv1, hcc1, hcm1, hm1, -, -⟩ := ho1.form
       subst hv1
       have hcv := conv_str hm1 S1.length c1 rfl
       rw [HRR.out] at hcv)
    | (refine wpList_store_row rfl 24 (.tmp 4) (.tmp 9) rfl W1.heap.size #[.string RR, .slice none 0 0] rfl rfl 24 #[.string ⟨#[]⟩, .slice none 0 0] (Blk.new W1 _ _) (by rw [nm_size]; rfl) rfl (nm_one _ _ _ _) ?_))
  go_name_world W2 hW2
  have hb12 : Below W1.heap.size W1 W2 := by rw [← hW2]; exact below_setRow ((Below.refl _ W1).alloc (Nat.le_refl _) _) (Nat.le_refl _) _
  have HB2 := kept (show Blk W2 W1.heap.size 24 #[.string RR, .slice none 0 0] by rw [← hW2]; exact setRow_heap _ _ _ _ _ _ (Blk.new W1 _ _))
  have hgg : g ≠ w.heap.size := by have := HLT.out; omega
  have hlt1 : w.heap.size < W1.heap.size := Nat.lt_of_lt_of_le HB1.out.lt hg1.size
  replace HB1 := kept (show Blk W2 w.heap.size 24 zN from ((HB1.out.grown hg1 (fun e => by injection e with e; exact hgg e.symm)).below hb12 hlt1))
  replace HG := kept (show w.grownBy W2 (some g) from gb_then (gb_then HG.out hg1 (.inl rfl)) (gb_of_below hb12 none) (.inr fun j hj => by cases hj))
  replace HR := kept (show Rd W2 g q b1 l1 from hr1.below hb12)
  have hlt2 : W1.heap.size + 1 ≤ W2.heap.size := HB2.out.lt
  have HLT1 := kept hlt1
  have HQ1 := kept (show l1 ≠ [] → q < w.heap.size from fun h => HQ0.out (HLEN.out.2.2.2 h))
  clear hW2 hb12 ho1 hr1 hg1 hcc1 hcm1 hm1 hcv hlt1 hgg
  generalize W1.heap.size = gN at HB2 hlt2 HLT1 ⊢
  go_wp2_with (first
    | (go_at_call 36
       refine (HS2.out _ HR.out).mono ?_
       rintro e W3 ⟨rfl, hr3, hg3⟩))
  go_step3
  go_wp2
  have HNE2 := kept (show some gN ≠ some g from fun e => by injection e with e; have := HLT.out; have := HLT1.out; omega)
  have HNE1 := kept (show some w.heap.size ≠ some g from fun e => by injection e with e; have := HLT.out; omega)
  replace HB1 := kept (HB1.out.grown hg3 HNE1.out)
  replace HB2 := kept (HB2.out.grown hg3 HNE2.out)
  replace HG := kept (gb_then HG.out hg3 (.inl rfl))
  have hlt3 : gN + 1 ≤ W3.heap.size := Nat.le_trans hlt2 hg3.size
  have HLTg := kept (show g < gN by have := HLT.out; have := HLT1.out; omega)
  have HQ2 := kept (show l2 ≠ [] → q < w.heap.size from fun h => HQ1.out (fun e => h (List.length_eq_zero_iff.1 (by have := HLEN.out.2.2.1; rw [e] at this; simpa using this))))
  replace HR := kept hr3
  have HLL2 := kept (show l2.length ≤ 1000000 by have := HLEN.out; omega)
  clear hlt2 hr3 hg3
  go_loopg [16, 19] 8 (fun gk _ _ wr => ∃ (k : Nat) (Av : Option Addr) (cv : Nat) (b3 : Bool) (l3 : List UInt8) (PP : List (List UInt8)), k ≤ N2 ∧ gk + k = 8 ∧ Kept (rParts k (b2, l2) = ((b3, l3), PP)) ∧ Kept (l3 ≠ [] → q < w.heap.size) ∧ Kept (l3.length ≤ 1000000) ∧ Kept (Rd wr g q b3 l3) ∧ Kept (Blk wr w.heap.size 24 zN) ∧ Kept (Blk wr gN 24 #[.string RR, .slice Av k cv]) ∧ Kept (OwnS 9 wr (gN + 1) (.slice Av k cv) (PP.map strOf)) ∧ Kept (w.grownBy wr (some g)) ∧ gN + 1 ≤ wr.heap.size)
  case atStart => exact ⟨0, none, 0, b2, l2, [], Nat.zero_le _, rfl, kept rfl, HQ2, HLL2, HR, HB1, HB2, kept (OwnS.nil_ _ _ _), HG, hlt3⟩
  case round =>
    obtain ⟨k, Av, cv, b3, l3, PP, hkN2, hgk, HSN0, HQ3, HLL3, HR, HB1, HB2, HO, HG, hsr⟩ := hrel
    rename World => wr
    have HPL := kept (show PP.length = k by have := rParts_len k (b2, l2); rw [HSN0.out] at this; exact this)
    have hn1 : wr.cell? ⟨gN, 1, none⟩ = some (.slice Av k cv) := by rw [HB2.out.cell]; rfl
    have hk8 : k ≤ 8 := by omega
    by_cases hkN : k = N2
    · subst hkN
      have hsm := HSM.out hk8
      rw [HSN0.out] at hsm
      simp only at hsm
      have HZ := kept hsm.1
      have HQNE := kept hsm.2.1
      have HRN := kept hsm.2.2
      have hn0 : wr.cell? ⟨gN, 0, none⟩ = some (.string RR) := by rw [HB2.out.cell]; rfl
      obtain ⟨A5, q5, c5, hv5, _, _, hm5⟩ := HO.out.form
      injection hv5 with hv5 hv7 hv6
      subst hv5 hv6
      have HV := kept (show Calls Try.prog 11 #[.agg #[.string RR, .slice Av k cv]] wr fun e w' => e = .returned (.bool (isN (RR, PP.map strOf))) ∧ Below wr.heap.size wr w' by
        rw [hv7]
        refine nvalid_any wr RR (PP.map strOf) q5 Av cv (by have := HRS.out; unfold maxLen; omega) (fun s hs => ?_) (by rw [List.length_map, HPL.out]; unfold maxLen; omega) hm5
        obtain ⟨x, hx, rfl⟩ := List.mem_map.1 hs
        have h1 := (rParts_rest k (b2, l2)).2 x (by rw [HSN0.out]; exact hx)
        have h2 := HLL2.out
        rw [strOf_size]
        unfold maxLen
        simp only at h1
        omega)
      clear hm5 hv7 hsm
      cases hN : isN (RR, PP.map strOf) with
      | false =>
        rw [hN] at HZ
        obtain rfl : ZB = false := HZ.out
        have HONE := kept (show ON = (⟨#[]⟩, []) from HON.out)
        go_upto_region 9 with (first | (go_at_call 11; refine HV.out.mono ?_; rintro e1 w8 ⟨rfl, k8⟩))
        replace HB1 := kept (HB1.out.below k8 HB1.out.lt)
        replace HG := kept (gb_then HG.out (gb_of_below k8 none) (.inr fun j hj => by cases hj))
        replace HR := kept (HR.out.below k8)
        clear k8
        have hz1 : w8.cell? ⟨w.heap.size, 0, none⟩ = some (.string ⟨#[]⟩) := by rw [HB1.out.cell]; rfl
        have hz2 : w8.cell? ⟨w.heap.size, 1, none⟩ = some (.slice none 0 0) := by rw [HB1.out.cell]; rfl
        have hf0 := HB1.out.frozen 0
        have hf1 := HB1.out.frozen 1
        have HB9 := kept ((HB1.out.put 0 (.string ⟨#[]⟩)).put 1 (.slice none 0 0))
        have HG9 := kept (gb_setCell (gb_setCell HG.out (p := ⟨w.heap.size, 0, none⟩) (.inr (Nat.le_refl _)) (.string ⟨#[]⟩)) (p := ⟨w.heap.size, 1, none⟩) (.inr (Nat.le_refl _)) (.slice none 0 0))
        have HR9 := kept ((HR.out.far (p := ⟨w.heap.size, 0, none⟩) (by show g ≠ w.heap.size; have := HLT.out; omega) (fun h => by show q ≠ w.heap.size; have := HQ3.out h; omega) (.string ⟨#[]⟩)).far (p := ⟨w.heap.size, 1, none⟩) (by show g ≠ w.heap.size; have := HLT.out; omega) (fun h => by show q ≠ w.heap.size; have := HQ3.out h; omega) (.slice none 0 0))
        have x0 : ((w8.setCell ⟨w.heap.size, 0, none⟩ (.string ⟨#[]⟩)).setCell ⟨w.heap.size, 1, none⟩ (.slice none 0 0)).cell? ⟨w.heap.size, 0, none⟩ = some (.string ⟨#[]⟩) := by rw [HB9.out.cell]; rfl
        have x1 : ((w8.setCell ⟨w.heap.size, 0, none⟩ (.string ⟨#[]⟩)).setCell ⟨w.heap.size, 1, none⟩ (.slice none 0 0)).cell? ⟨w.heap.size, 1, none⟩ = some (.slice none 0 0) := by rw [HB9.out.cell]; rfl
        go_wp2
        rw [Exit.noGoto_ret]
        refine bodyPost_ret (v := .tuple #[.agg #[.string ⟨#[]⟩, .slice none 0 0], .bool false]) (by simp [results, Try.results16, go_sem, x0, x1]) rfl ?_
        rw [HONE.out]
        exact ⟨_, b3, l3, rfl, OwnS.nil_ _ _ _, HR9.out, fun h => Bool.noConfusion h, HG9.out⟩
      | true =>
        rw [hN] at HZ
        obtain rfl : ZB = true := HZ.out
        have HONE := kept (show ON = (RR, PP.map strOf) from HON.out.trans HRN.out)
        go_upto_region 10 with (first | (go_at_call 11; refine HV.out.mono ?_; rintro e1 w8 ⟨rfl, k8⟩))
        replace HB1 := kept (HB1.out.below k8 HB1.out.lt)
        replace HB2 := kept (HB2.out.below k8 HB2.out.lt)
        replace HO := kept (OwnS.below HO.out k8)
        replace HG := kept (gb_then HG.out (gb_of_below k8 none) (.inr fun j hj => by cases hj))
        replace HR := kept (HR.out.below k8)
        clear k8 hn0 hn1
        have hn0 : w8.cell? ⟨gN, 0, none⟩ = some (.string RR) := by rw [HB2.out.cell]; rfl
        have hn1 : w8.cell? ⟨gN, 1, none⟩ = some (.slice Av k cv) := by rw [HB2.out.cell]; rfl
        have hz1 : w8.cell? ⟨w.heap.size, 0, none⟩ = some (.string ⟨#[]⟩) := by rw [HB1.out.cell]; rfl
        have hz2 : w8.cell? ⟨w.heap.size, 1, none⟩ = some (.slice none 0 0) := by rw [HB1.out.cell]; rfl
        have hf0 := HB1.out.frozen 0
        have hf1 := HB1.out.frozen 1
        have HB9 := kept ((HB1.out.put 0 (.string RR)).put 1 (.slice Av k cv))
        have HG9 := kept (gb_setCell (gb_setCell HG.out (p := ⟨w.heap.size, 0, none⟩) (.inr (Nat.le_refl _)) (.string RR)) (p := ⟨w.heap.size, 1, none⟩) (.inr (Nat.le_refl _)) (.slice Av k cv))
        have HR9 := kept ((HR.out.far (p := ⟨w.heap.size, 0, none⟩) (by show g ≠ w.heap.size; have := HLT.out; omega) (fun h => by show q ≠ w.heap.size; have := HQ3.out h; omega) (.string RR)).far (p := ⟨w.heap.size, 1, none⟩) (by show g ≠ w.heap.size; have := HLT.out; omega) (fun h => by show q ≠ w.heap.size; have := HQ3.out h; omega) (.slice Av k cv))
        have x0 : ((w8.setCell ⟨w.heap.size, 0, none⟩ (.string RR)).setCell ⟨w.heap.size, 1, none⟩ (.slice Av k cv)).cell? ⟨w.heap.size, 0, none⟩ = some (.string RR) := by rw [HB9.out.cell]; rfl
        have x1 : ((w8.setCell ⟨w.heap.size, 0, none⟩ (.string RR)).setCell ⟨w.heap.size, 1, none⟩ (.slice Av k cv)).cell? ⟨w.heap.size, 1, none⟩ = some (.slice Av k cv) := by rw [HB9.out.cell]; rfl
        have HO9 := kept (show OwnS 9 ((w8.setCell ⟨w.heap.size, 0, none⟩ (.string RR)).setCell ⟨w.heap.size, 1, none⟩ (.slice Av k cv)) w.heap.size (.slice Av k cv) (PP.map strOf) from OwnS.mono (OwnS.keep HO.out fun j hj => by
          have hj1 := (OwnS.lt HO.out j hj).1
          have hj2 := HLT1.out
          exact (Below.heap_setCell _ ⟨w.heap.size, 1, none⟩ _ j (by show j ≠ w.heap.size; omega)).trans (Below.heap_setCell _ ⟨w.heap.size, 0, none⟩ _ j (by show j ≠ w.heap.size; omega))) (by have := HLT1.out; omega))
        go_wp2
        rw [Exit.noGoto_ret]
        refine bodyPost_ret (v := .tuple #[.agg #[.string RR, .slice Av k cv], .bool true]) (by simp [results, Try.results16, go_sem, x0, x1]) rfl ?_
        rw [HONE.out]
        exact ⟨_, b3, l3, rfl, HO9.out, HR9.out, fun _ => HQNE.out.symm, HG9.out⟩
    · have hkb : ((k : Int) == (N2 : Int)) = false := beq_false_of_ne (by omega)
      by_cases h8 : k = 8
      · subst h8
        obtain rfl : ZB = false := HBG.out (by omega)
        have HONE := kept (show ON = (⟨#[]⟩, []) from HON.out)
        have hz1 : wr.cell? ⟨w.heap.size, 0, none⟩ = some (.string ⟨#[]⟩) := by rw [HB1.out.cell]; rfl
        have hz2 : wr.cell? ⟨w.heap.size, 1, none⟩ = some (.slice none 0 0) := by rw [HB1.out.cell]; rfl
        have hf0 := HB1.out.frozen 0
        have hf1 := HB1.out.frozen 1
        have HB9 := kept ((HB1.out.put 0 (.string ⟨#[]⟩)).put 1 (.slice none 0 0))
        have HG9 := kept (gb_setCell (gb_setCell HG.out (p := ⟨w.heap.size, 0, none⟩) (.inr (Nat.le_refl _)) (.string ⟨#[]⟩)) (p := ⟨w.heap.size, 1, none⟩) (.inr (Nat.le_refl _)) (.slice none 0 0))
        have HR9 := kept ((HR.out.far (p := ⟨w.heap.size, 0, none⟩) (by show g ≠ w.heap.size; have := HLT.out; omega) (fun h => by show q ≠ w.heap.size; have := HQ3.out h; omega) (.string ⟨#[]⟩)).far (p := ⟨w.heap.size, 1, none⟩) (by show g ≠ w.heap.size; have := HLT.out; omega) (fun h => by show q ≠ w.heap.size; have := HQ3.out h; omega) (.slice none 0 0))
        have x0 : ((wr.setCell ⟨w.heap.size, 0, none⟩ (.string ⟨#[]⟩)).setCell ⟨w.heap.size, 1, none⟩ (.slice none 0 0)).cell? ⟨w.heap.size, 0, none⟩ = some (.string ⟨#[]⟩) := by rw [HB9.out.cell]; rfl
        have x1 : ((wr.setCell ⟨w.heap.size, 0, none⟩ (.string ⟨#[]⟩)).setCell ⟨w.heap.size, 1, none⟩ (.slice none 0 0)).cell? ⟨w.heap.size, 1, none⟩ = some (.slice none 0 0) := by rw [HB9.out.cell]; rfl
        go_wp2
        refine bodyPost_ret (v := .tuple #[.agg #[.string ⟨#[]⟩, .slice none 0 0], .bool false]) (by simp [results, Try.results16, go_sem, x0, x1]) rfl ?_
        rw [HONE.out]
        exact ⟨_, b3, l3, rfl, OwnS.nil_ _ _ _, HR9.out, fun h => Bool.noConfusion h, HG9.out⟩
      · have h8b : ((k : Int) == 8) = false := beq_false_of_ne (by omega)
        have hS := rParts_snoc k (b2, l2)
        rw [HSN0.out] at hS
        simp only at hS
        have hst := str_any wr.drew 1 (show Rd wr.drew g q b3 l3 from ⟨HR.out.blk, HR.out.ne, HR.out.len⟩)
        have hrs := (rStr_rest (b3, l3) 1).1
        obtain ⟨⟨⟨b4, l4⟩, S4⟩, hs4⟩ : ∃ p, rStr (b3, l3) 1 = p := ⟨_, rfl⟩
        rw [hs4] at hS hst hrs
        simp only at hS hst hrs
        have HSN := kept hS
        have HST := kept hst
        have HLL4 := kept (show l4.length ≤ 1000000 by have := HLL3.out; omega)
        have HQ4 := kept (show l4 ≠ [] → q < w.heap.size from fun h => HQ3.out (fun e => h (List.length_eq_zero_iff.1 (by rw [e] at hrs; simpa using hrs))))
        have HNO := kept (show ∀ j, (Value.slice Av k cv).ownBlock = some j → some j ≠ some g from fun j hj e => by
          injection e with e
          have h1 := (OwnS.lt HO.out j hj).1
          have h2 := HLTg.out
          omega)
        replace HB1 := kept (show Blk wr.drew w.heap.size 24 zN from HB1.out)
        replace HB2 := kept (show Blk wr.drew gN 24 #[.string RR, .slice Av k cv] from HB2.out)
        replace HO := kept (show OwnS 9 wr.drew (gN + 1) (.slice Av k cv) (PP.map strOf) from HO.out)
        replace HG := kept (gb_drew HG.out)
        have hn1d : wr.drew.cell? ⟨gN, 1, none⟩ = some (.slice Av k cv) := hn1
        obtain ⟨Y, hY⟩ : ∃ Y, strOf S4 = Y := ⟨_, rfl⟩
        have HY := kept hY
        clear hS hst hrs hs4 hY HR
        go_upto_region 7 with (fail)
        refine wp_region_held_drew (S := fun _ : World => True) (by kernel_rfl) trivial (fun _ => ?_)
        refine wpAnyH_take (i := 0) (v := ?_) rfl (by kernel_rfl) (by kernel_rfl) (by kernel_rfl) (fun _ _ _ h => h) (Or.inl ⟨by rfl, ?_⟩) trivial ?_
        rotate_left
        · rintro w' h1
          go_simp; with_reducible rfl
        try simp only [Act.put, List.getElem_toArray, List.getElem_cons_zero, List.getElem_cons_succ, List.setIfInBounds_toArray, List.set_cons_zero, List.set_cons_succ]
        refine wpAnyH_take (i := 2) (v := ?_) rfl (by kernel_rfl) (by kernel_rfl) (by kernel_rfl) (fun _ _ _ h => h) (Or.inl ⟨by rfl, ?_⟩) trivial ?_
        rotate_left
        · rintro w' h1
          go_simp; with_reducible rfl
        try simp only [Act.put, List.getElem_toArray, List.getElem_cons_zero, List.getElem_cons_succ, List.setIfInBounds_toArray, List.set_cons_zero, List.set_cons_succ]
        refine wpAnyH_ready (rs := [1, 3]) (by kernel_rfl) (by simp) ?_
        refine AllReadyH.cons rfl (fun K hK => ?_) (AllReadyH.cons rfl (fun K hK => ?_) (AllReadyH.nil))
        · go_simp
          refine hK.out _ _ trivial (fun _ => ?_)
          clear hK K
          try simp only [Act.put, List.getElem_toArray, List.getElem_cons_zero, List.getElem_cons_succ, List.setIfInBounds_toArray, List.set_cons_zero, List.set_cons_succ]
          refine wpAnyH_ready (rs := [3]) (by kernel_rfl) (by simp) ?_
          refine AllReadyH.cons rfl (fun K hK => ?_) (AllReadyH.nil)
          go_simp
          refine (HST.out).mono ?_
          rintro e W3 ⟨v3, rfl, ho3, hr3, hg3⟩
          obtain ⟨A3, q3, c3, hv3, hcc3, hcm3, hm3, -, -⟩ := ho3.form
          subst hv3
          have HB23 := kept (HB2.out.grown hg3 HNE2.out)
          have HB13 := kept (HB1.out.grown hg3 HNE1.out)
          have HO3 := kept (HO.out.grown hg3 HNO.out)
          have HG3 := kept (gb_then HG.out hg3 (.inl rfl))
          have HR3 := kept hr3
          have hcv := conv_str hm3 S4.length c3 rfl
          rw [HY.out] at hcv
          have hc3' : W3.cell? ⟨gN, 1, none⟩ = some (.slice Av k cv) := by rw [HB23.out.cell]; rfl
          have hs3 : gN < W3.heap.size := HB23.out.lt
          have HOa := kept (HO3.out.alloc (.cells #[.string Y] 9))
          have HB2a := kept (HB23.out.alloc (.cells #[.string Y] 9))
          have HB1a := kept (HB13.out.alloc (.cells #[.string Y] 9))
          have HRa := kept (HR3.out.alloc (.cells #[.string Y] 9))
          have HGa := kept (gb_alloc HG3.out (.cells #[.string Y] 9))
          have HMa := kept (mem_oneS W3 Y)
          have hsa : gN + 1 ≤ (W3.alloc (.cells #[.string Y] 9)).heap.size := by simp; omega
          have hca' : (W3.alloc (.cells #[.string Y] 9)).cell? ⟨gN, 1, none⟩ = some (.slice Av k cv) := by rw [HB2a.out.cell]; rfl
          have hfa' := HB2a.out.frozen 1
          clear ho3 hr3 hg3 hm3 hcc3 hcm3
          refine hK.out _ _ trivial (fun _ => ?_)
          clear hK K
          try simp only [Act.put, List.getElem_toArray, List.getElem_cons_zero, List.getElem_cons_succ, List.setIfInBounds_toArray, List.set_cons_zero, List.set_cons_succ]
          refine wpAnyH_ready (rs := [4]) (by kernel_rfl) (by simp) ?_
          refine AllReadyH.cons rfl (fun K hK => ?_) (AllReadyH.nil)
          go_simp
          refine hK.out _ _ trivial (fun _ => ?_)
          clear hK K
          try simp only [Act.put, List.getElem_toArray, List.getElem_cons_zero, List.getElem_cons_succ, List.setIfInBounds_toArray, List.set_cons_zero, List.set_cons_succ]
          refine wpAnyH_ready (rs := [5]) (by kernel_rfl) (by simp) ?_
          refine AllReadyH.cons rfl (fun K hK => ?_) (AllReadyH.nil)
          go_simp
          refine hK.out _ _ trivial (fun _ => ?_)
          clear hK K
          try simp only [Act.put, List.getElem_toArray, List.getElem_cons_zero, List.getElem_cons_succ, List.setIfInBounds_toArray, List.set_cons_zero, List.set_cons_succ]
          refine wpAnyH_ready (rs := [6]) (by kernel_rfl) (by simp) ?_
          refine AllReadyH.cons rfl (fun K hK => ?_) (AllReadyH.nil)
          refine step_append_strs (T := 9) rfl (.tmp 23) (.tmp 27) 22 rfl (gN + 1) i0 Try.underlying22 hi0 hz0 hs0 hb0 (.slice Av k cv) (PP.map strOf) rfl HOa.out W3.heap.size (some ⟨W3.heap.size, 0, none⟩) 1 1 [Y] rfl rfl HMa.out (by rw [List.length_map, HPL.out]; simp; omega) hsa ?_
          intro v5 W5 ho5 hg5
          obtain ⟨A5, q5, c5, hv5, hcc5, hcm5, hm5⟩ := ho5.form
          have hl5 : (PP.map strOf ++ [Y]).length = k + 1 := by rw [List.length_append, List.length_map, HPL.out]; rfl
          rw [hl5] at hv5
          obtain ⟨k1, hk1⟩ : ∃ k1, k + 1 = k1 := ⟨_, rfl⟩
          rw [hk1] at hv5
          have HK1 := kept hk1
          subst hv5
          have hne5 : ∀ j, (Value.slice Av k cv).ownBlock = some j → gN + 1 ≤ j := fun j hj => (OwnS.lt HOa.out j hj).1
          have HB25 := kept (HB2a.out.grown hg5 (fun e => by have := hne5 _ e.symm; omega))
          have HB15 := kept (HB1a.out.grown hg5 (fun e => by have := hne5 _ e.symm; have := HLT1.out; omega))
          have HR5 := kept (HRa.out.grown2 hg5 (fun e => by have := hne5 _ e.symm; have := HLTg.out; omega) (by
            by_cases h : l4 = []
            · exact .inl h
            · exact .inr fun e => by have := hne5 _ e.symm; have := HQ4.out h; have := HLT1.out; omega))
          have HG5 := kept (gb_then HGa.out hg5 (.inr fun j hj => by have := hne5 j hj; have := HLT1.out; omega))
          have hs5 : gN + 1 ≤ W5.heap.size := Nat.le_trans hsa hg5.size
          have HO5 := kept ho5
          have hc5' : W5.cell? ⟨gN, 1, none⟩ = some (.slice Av k cv) := by rw [HB25.out.cell]; rfl
          have hf5' := HB25.out.frozen 1
          clear ho5 hg5 hcc5 hcm5 hm5 hl5 hk1
          refine hK.out _ _ trivial (fun _ => ?_)
          clear hK K
          try simp only [Act.put, List.getElem_toArray, List.getElem_cons_zero, List.getElem_cons_succ, List.setIfInBounds_toArray, List.set_cons_zero, List.set_cons_succ]
          refine wpAnyH_take (i := 7) (v := ?_) rfl (by kernel_rfl) (by kernel_rfl) (by kernel_rfl) (fun _ _ _ h => h) (Or.inl ⟨by rfl, ?_⟩) trivial ?_
          rotate_left
          · rintro w' h1
            go_simp; with_reducible rfl
          try simp only [Act.put, List.getElem_toArray, List.getElem_cons_zero, List.getElem_cons_succ, List.setIfInBounds_toArray, List.set_cons_zero, List.set_cons_succ]
          refine wpAnyH_ready (rs := [8]) (by kernel_rfl) (by simp) ?_
          refine AllReadyH.cons rfl (fun K hK => ?_) (AllReadyH.nil)
          go_simp
          have hne6 : ∀ j, (Value.slice A5 k1 c5).ownBlock = some j → gN + 1 ≤ j := fun j hj => (OwnS.lt HO5.out j hj).1
          have HB26 := kept (show Blk (W5.setCell ⟨gN, 1, none⟩ (.slice A5 k1 c5)) gN 24 #[.string RR, .slice A5 k1 c5] from HB25.out.put 1 (.slice A5 k1 c5))
          have HB16 := kept (Blk.far HB15.out (p := ⟨gN, 1, none⟩) (by show w.heap.size ≠ gN; have := HLT1.out; omega) (.slice A5 k1 c5))
          have HO6 := kept (show OwnS 9 (W5.setCell ⟨gN, 1, none⟩ (.slice A5 k1 c5)) (gN + 1) (.slice A5 k1 c5) (PP.map strOf ++ [Y]) from OwnS.keep HO5.out fun j hj => Below.heap_setCell W5 ⟨gN, 1, none⟩ _ j (by show j ≠ gN; have := hne6 j hj; omega))
          have HG6 := kept (gb_setCell HG5.out (p := ⟨gN, 1, none⟩) (.inr (by show w.heap.size ≤ gN; have := HLT1.out; omega)) (.slice A5 k1 c5))
          have HR6 := kept (HR5.out.far (p := ⟨gN, 1, none⟩) (by show g ≠ gN; have := HLTg.out; omega) (fun h => by show q ≠ gN; have := HQ4.out h; have := HLT1.out; omega) (.slice A5 k1 c5))
          have hs6 : gN + 1 ≤ (W5.setCell ⟨gN, 1, none⟩ (.slice A5 k1 c5)).heap.size := by simpa [World.setCell] using hs5
          refine hK.out _ _ trivial (fun _ => ?_)
          clear hK K
          try simp only [Act.put, List.getElem_toArray, List.getElem_cons_zero, List.getElem_cons_succ, List.setIfInBounds_toArray, List.set_cons_zero, List.set_cons_succ]
          refine wpAnyH_done (by kernel_rfl) ?_ _
          obtain ⟨W6, hW6⟩ : ∃ W6, W5.setCell ⟨gN, 1, none⟩ (.slice A5 k1 c5) = W6 := ⟨_, rfl⟩
          rw [hW6] at HB26 HB16 HO6 HG6 HR6 hs6 ⊢
          clear hW6 hc5' hf5' hca' hfa' hc3' hcv HB25 HB15 HR5 HG5 HO5 HB2a HB1a HRa HGa HOa HB23 HB13 HO3 HG3 HR3 hsa hs5 hs3 hne5 hne6
          go_wp2
          go_roundg (gk - 1)
          case rel => exact ⟨k1, A5, c5, b4, l4, PP ++ [S4], by have := HK1.out; omega, by have := HK1.out; omega, kept (by rw [← HK1.out]; exact HSN.out), kept (fun h => HQ4.out h), HLL4, HR6, HB16, HB26, kept (by rw [List.map_append, List.map_singleton, HY.out]; exact HO6.out), HG6, hs6⟩
          case measure => have := HK1.out; omega
        · go_simp
          refine (HST.out).mono ?_
          rintro e W3 ⟨v3, rfl, ho3, hr3, hg3⟩
          obtain ⟨A3, q3, c3, hv3, hcc3, hcm3, hm3, -, -⟩ := ho3.form
          subst hv3
          have HB23 := kept (HB2.out.grown hg3 HNE2.out)
          have HB13 := kept (HB1.out.grown hg3 HNE1.out)
          have HO3 := kept (HO.out.grown hg3 HNO.out)
          have HG3 := kept (gb_then HG.out hg3 (.inl rfl))
          have HR3 := kept hr3
          have hcv := conv_str hm3 S4.length c3 rfl
          rw [HY.out] at hcv
          have hc3' : W3.cell? ⟨gN, 1, none⟩ = some (.slice Av k cv) := by rw [HB23.out.cell]; rfl
          have hs3 : gN < W3.heap.size := HB23.out.lt
          have HOa := kept (HO3.out.alloc (.cells #[.string Y] 9))
          have HB2a := kept (HB23.out.alloc (.cells #[.string Y] 9))
          have HB1a := kept (HB13.out.alloc (.cells #[.string Y] 9))
          have HRa := kept (HR3.out.alloc (.cells #[.string Y] 9))
          have HGa := kept (gb_alloc HG3.out (.cells #[.string Y] 9))
          have HMa := kept (mem_oneS W3 Y)
          have hsa : gN + 1 ≤ (W3.alloc (.cells #[.string Y] 9)).heap.size := by simp; omega
          have hca' : (W3.alloc (.cells #[.string Y] 9)).cell? ⟨gN, 1, none⟩ = some (.slice Av k cv) := by rw [HB2a.out.cell]; rfl
          have hfa' := HB2a.out.frozen 1
          clear ho3 hr3 hg3 hm3 hcc3 hcm3
          refine hK.out _ _ trivial (fun _ => ?_)
          clear hK K
          try simp only [Act.put, List.getElem_toArray, List.getElem_cons_zero, List.getElem_cons_succ, List.setIfInBounds_toArray, List.set_cons_zero, List.set_cons_succ]
          refine wpAnyH_ready (rs := [1, 4]) (by kernel_rfl) (by simp) ?_
          refine AllReadyH.cons rfl (fun K hK => ?_) (AllReadyH.cons rfl (fun K hK => ?_) (AllReadyH.nil))
          · go_simp
            refine hK.out _ _ trivial (fun _ => ?_)
            clear hK K
            try simp only [Act.put, List.getElem_toArray, List.getElem_cons_zero, List.getElem_cons_succ, List.setIfInBounds_toArray, List.set_cons_zero, List.set_cons_succ]
            refine wpAnyH_ready (rs := [4]) (by kernel_rfl) (by simp) ?_
            refine AllReadyH.cons rfl (fun K hK => ?_) (AllReadyH.nil)
            go_simp
            refine hK.out _ _ trivial (fun _ => ?_)
            clear hK K
            try simp only [Act.put, List.getElem_toArray, List.getElem_cons_zero, List.getElem_cons_succ, List.setIfInBounds_toArray, List.set_cons_zero, List.set_cons_succ]
            refine wpAnyH_ready (rs := [5]) (by kernel_rfl) (by simp) ?_
            refine AllReadyH.cons rfl (fun K hK => ?_) (AllReadyH.nil)
            go_simp
            refine hK.out _ _ trivial (fun _ => ?_)
            clear hK K
            try simp only [Act.put, List.getElem_toArray, List.getElem_cons_zero, List.getElem_cons_succ, List.setIfInBounds_toArray, List.set_cons_zero, List.set_cons_succ]
            refine wpAnyH_ready (rs := [6]) (by kernel_rfl) (by simp) ?_
            refine AllReadyH.cons rfl (fun K hK => ?_) (AllReadyH.nil)
            refine step_append_strs (T := 9) rfl (.tmp 23) (.tmp 27) 22 rfl (gN + 1) i0 Try.underlying22 hi0 hz0 hs0 hb0 (.slice Av k cv) (PP.map strOf) rfl HOa.out W3.heap.size (some ⟨W3.heap.size, 0, none⟩) 1 1 [Y] rfl rfl HMa.out (by rw [List.length_map, HPL.out]; simp; omega) hsa ?_
            intro v5 W5 ho5 hg5
            obtain ⟨A5, q5, c5, hv5, hcc5, hcm5, hm5⟩ := ho5.form
            have hl5 : (PP.map strOf ++ [Y]).length = k + 1 := by rw [List.length_append, List.length_map, HPL.out]; rfl
            rw [hl5] at hv5
            obtain ⟨k1, hk1⟩ : ∃ k1, k + 1 = k1 := ⟨_, rfl⟩
            rw [hk1] at hv5
            have HK1 := kept hk1
            subst hv5
            have hne5 : ∀ j, (Value.slice Av k cv).ownBlock = some j → gN + 1 ≤ j := fun j hj => (OwnS.lt HOa.out j hj).1
            have HB25 := kept (HB2a.out.grown hg5 (fun e => by have := hne5 _ e.symm; omega))
            have HB15 := kept (HB1a.out.grown hg5 (fun e => by have := hne5 _ e.symm; have := HLT1.out; omega))
            have HR5 := kept (HRa.out.grown2 hg5 (fun e => by have := hne5 _ e.symm; have := HLTg.out; omega) (by
              by_cases h : l4 = []
              · exact .inl h
              · exact .inr fun e => by have := hne5 _ e.symm; have := HQ4.out h; have := HLT1.out; omega))
            have HG5 := kept (gb_then HGa.out hg5 (.inr fun j hj => by have := hne5 j hj; have := HLT1.out; omega))
            have hs5 : gN + 1 ≤ W5.heap.size := Nat.le_trans hsa hg5.size
            have HO5 := kept ho5
            have hc5' : W5.cell? ⟨gN, 1, none⟩ = some (.slice Av k cv) := by rw [HB25.out.cell]; rfl
            have hf5' := HB25.out.frozen 1
            clear ho5 hg5 hcc5 hcm5 hm5 hl5 hk1
            refine hK.out _ _ trivial (fun _ => ?_)
            clear hK K
            try simp only [Act.put, List.getElem_toArray, List.getElem_cons_zero, List.getElem_cons_succ, List.setIfInBounds_toArray, List.set_cons_zero, List.set_cons_succ]
            refine wpAnyH_take (i := 7) (v := ?_) rfl (by kernel_rfl) (by kernel_rfl) (by kernel_rfl) (fun _ _ _ h => h) (Or.inl ⟨by rfl, ?_⟩) trivial ?_
            rotate_left
            · rintro w' h1
              go_simp; with_reducible rfl
            try simp only [Act.put, List.getElem_toArray, List.getElem_cons_zero, List.getElem_cons_succ, List.setIfInBounds_toArray, List.set_cons_zero, List.set_cons_succ]
            refine wpAnyH_ready (rs := [8]) (by kernel_rfl) (by simp) ?_
            refine AllReadyH.cons rfl (fun K hK => ?_) (AllReadyH.nil)
            go_simp
            have hne6 : ∀ j, (Value.slice A5 k1 c5).ownBlock = some j → gN + 1 ≤ j := fun j hj => (OwnS.lt HO5.out j hj).1
            have HB26 := kept (show Blk (W5.setCell ⟨gN, 1, none⟩ (.slice A5 k1 c5)) gN 24 #[.string RR, .slice A5 k1 c5] from HB25.out.put 1 (.slice A5 k1 c5))
            have HB16 := kept (Blk.far HB15.out (p := ⟨gN, 1, none⟩) (by show w.heap.size ≠ gN; have := HLT1.out; omega) (.slice A5 k1 c5))
            have HO6 := kept (show OwnS 9 (W5.setCell ⟨gN, 1, none⟩ (.slice A5 k1 c5)) (gN + 1) (.slice A5 k1 c5) (PP.map strOf ++ [Y]) from OwnS.keep HO5.out fun j hj => Below.heap_setCell W5 ⟨gN, 1, none⟩ _ j (by show j ≠ gN; have := hne6 j hj; omega))
            have HG6 := kept (gb_setCell HG5.out (p := ⟨gN, 1, none⟩) (.inr (by show w.heap.size ≤ gN; have := HLT1.out; omega)) (.slice A5 k1 c5))
            have HR6 := kept (HR5.out.far (p := ⟨gN, 1, none⟩) (by show g ≠ gN; have := HLTg.out; omega) (fun h => by show q ≠ gN; have := HQ4.out h; have := HLT1.out; omega) (.slice A5 k1 c5))
            have hs6 : gN + 1 ≤ (W5.setCell ⟨gN, 1, none⟩ (.slice A5 k1 c5)).heap.size := by simpa [World.setCell] using hs5
            refine hK.out _ _ trivial (fun _ => ?_)
            clear hK K
            try simp only [Act.put, List.getElem_toArray, List.getElem_cons_zero, List.getElem_cons_succ, List.setIfInBounds_toArray, List.set_cons_zero, List.set_cons_succ]
            refine wpAnyH_done (by kernel_rfl) ?_ _
            obtain ⟨W6, hW6⟩ : ∃ W6, W5.setCell ⟨gN, 1, none⟩ (.slice A5 k1 c5) = W6 := ⟨_, rfl⟩
            rw [hW6] at HB26 HB16 HO6 HG6 HR6 hs6 ⊢
            clear hW6 hc5' hf5' hca' hfa' hc3' hcv HB25 HB15 HR5 HG5 HO5 HB2a HB1a HRa HGa HOa HB23 HB13 HO3 HG3 HR3 hsa hs5 hs3 hne5 hne6
            go_wp2
            go_roundg (gk - 1)
            case rel => exact ⟨k1, A5, c5, b4, l4, PP ++ [S4], by have := HK1.out; omega, by have := HK1.out; omega, kept (by rw [← HK1.out]; exact HSN.out), kept (fun h => HQ4.out h), HLL4, HR6, HB16, HB26, kept (by rw [List.map_append, List.map_singleton, HY.out]; exact HO6.out), HG6, hs6⟩
            case measure => have := HK1.out; omega
          · go_simp
            refine hK.out _ _ trivial (fun _ => ?_)
            clear hK K
            try simp only [Act.put, List.getElem_toArray, List.getElem_cons_zero, List.getElem_cons_succ, List.setIfInBounds_toArray, List.set_cons_zero, List.set_cons_succ]
            refine wpAnyH_ready (rs := [1, 5]) (by kernel_rfl) (by simp) ?_
            refine AllReadyH.cons rfl (fun K hK => ?_) (AllReadyH.cons rfl (fun K hK => ?_) (AllReadyH.nil))
            · go_simp
              refine hK.out _ _ trivial (fun _ => ?_)
              clear hK K
              try simp only [Act.put, List.getElem_toArray, List.getElem_cons_zero, List.getElem_cons_succ, List.setIfInBounds_toArray, List.set_cons_zero, List.set_cons_succ]
              refine wpAnyH_ready (rs := [5]) (by kernel_rfl) (by simp) ?_
              refine AllReadyH.cons rfl (fun K hK => ?_) (AllReadyH.nil)
              go_simp
              refine hK.out _ _ trivial (fun _ => ?_)
              clear hK K
              try simp only [Act.put, List.getElem_toArray, List.getElem_cons_zero, List.getElem_cons_succ, List.setIfInBounds_toArray, List.set_cons_zero, List.set_cons_succ]
              refine wpAnyH_ready (rs := [6]) (by kernel_rfl) (by simp) ?_
              refine AllReadyH.cons rfl (fun K hK => ?_) (AllReadyH.nil)
              refine step_append_strs (T := 9) rfl (.tmp 23) (.tmp 27) 22 rfl (gN + 1) i0 Try.underlying22 hi0 hz0 hs0 hb0 (.slice Av k cv) (PP.map strOf) rfl HOa.out W3.heap.size (some ⟨W3.heap.size, 0, none⟩) 1 1 [Y] rfl rfl HMa.out (by rw [List.length_map, HPL.out]; simp; omega) hsa ?_
              intro v5 W5 ho5 hg5
              obtain ⟨A5, q5, c5, hv5, hcc5, hcm5, hm5⟩ := ho5.form
              have hl5 : (PP.map strOf ++ [Y]).length = k + 1 := by rw [List.length_append, List.length_map, HPL.out]; rfl
              rw [hl5] at hv5
              obtain ⟨k1, hk1⟩ : ∃ k1, k + 1 = k1 := ⟨_, rfl⟩
              rw [hk1] at hv5
              have HK1 := kept hk1
              subst hv5
              have hne5 : ∀ j, (Value.slice Av k cv).ownBlock = some j → gN + 1 ≤ j := fun j hj => (OwnS.lt HOa.out j hj).1
              have HB25 := kept (HB2a.out.grown hg5 (fun e => by have := hne5 _ e.symm; omega))
              have HB15 := kept (HB1a.out.grown hg5 (fun e => by have := hne5 _ e.symm; have := HLT1.out; omega))
              have HR5 := kept (HRa.out.grown2 hg5 (fun e => by have := hne5 _ e.symm; have := HLTg.out; omega) (by
                by_cases h : l4 = []
                · exact .inl h
                · exact .inr fun e => by have := hne5 _ e.symm; have := HQ4.out h; have := HLT1.out; omega))
              have HG5 := kept (gb_then HGa.out hg5 (.inr fun j hj => by have := hne5 j hj; have := HLT1.out; omega))
              have hs5 : gN + 1 ≤ W5.heap.size := Nat.le_trans hsa hg5.size
              have HO5 := kept ho5
              have hc5' : W5.cell? ⟨gN, 1, none⟩ = some (.slice Av k cv) := by rw [HB25.out.cell]; rfl
              have hf5' := HB25.out.frozen 1
              clear ho5 hg5 hcc5 hcm5 hm5 hl5 hk1
              refine hK.out _ _ trivial (fun _ => ?_)
              clear hK K
              try simp only [Act.put, List.getElem_toArray, List.getElem_cons_zero, List.getElem_cons_succ, List.setIfInBounds_toArray, List.set_cons_zero, List.set_cons_succ]
              refine wpAnyH_take (i := 7) (v := ?_) rfl (by kernel_rfl) (by kernel_rfl) (by kernel_rfl) (fun _ _ _ h => h) (Or.inl ⟨by rfl, ?_⟩) trivial ?_
              rotate_left
              · rintro w' h1
                go_simp; with_reducible rfl
              try simp only [Act.put, List.getElem_toArray, List.getElem_cons_zero, List.getElem_cons_succ, List.setIfInBounds_toArray, List.set_cons_zero, List.set_cons_succ]
              refine wpAnyH_ready (rs := [8]) (by kernel_rfl) (by simp) ?_
              refine AllReadyH.cons rfl (fun K hK => ?_) (AllReadyH.nil)
              go_simp
              have hne6 : ∀ j, (Value.slice A5 k1 c5).ownBlock = some j → gN + 1 ≤ j := fun j hj => (OwnS.lt HO5.out j hj).1
              have HB26 := kept (show Blk (W5.setCell ⟨gN, 1, none⟩ (.slice A5 k1 c5)) gN 24 #[.string RR, .slice A5 k1 c5] from HB25.out.put 1 (.slice A5 k1 c5))
              have HB16 := kept (Blk.far HB15.out (p := ⟨gN, 1, none⟩) (by show w.heap.size ≠ gN; have := HLT1.out; omega) (.slice A5 k1 c5))
              have HO6 := kept (show OwnS 9 (W5.setCell ⟨gN, 1, none⟩ (.slice A5 k1 c5)) (gN + 1) (.slice A5 k1 c5) (PP.map strOf ++ [Y]) from OwnS.keep HO5.out fun j hj => Below.heap_setCell W5 ⟨gN, 1, none⟩ _ j (by show j ≠ gN; have := hne6 j hj; omega))
              have HG6 := kept (gb_setCell HG5.out (p := ⟨gN, 1, none⟩) (.inr (by show w.heap.size ≤ gN; have := HLT1.out; omega)) (.slice A5 k1 c5))
              have HR6 := kept (HR5.out.far (p := ⟨gN, 1, none⟩) (by show g ≠ gN; have := HLTg.out; omega) (fun h => by show q ≠ gN; have := HQ4.out h; have := HLT1.out; omega) (.slice A5 k1 c5))
              have hs6 : gN + 1 ≤ (W5.setCell ⟨gN, 1, none⟩ (.slice A5 k1 c5)).heap.size := by simpa [World.setCell] using hs5
              refine hK.out _ _ trivial (fun _ => ?_)
              clear hK K
              try simp only [Act.put, List.getElem_toArray, List.getElem_cons_zero, List.getElem_cons_succ, List.setIfInBounds_toArray, List.set_cons_zero, List.set_cons_succ]
              refine wpAnyH_done (by kernel_rfl) ?_ _
              obtain ⟨W6, hW6⟩ : ∃ W6, W5.setCell ⟨gN, 1, none⟩ (.slice A5 k1 c5) = W6 := ⟨_, rfl⟩
              rw [hW6] at HB26 HB16 HO6 HG6 HR6 hs6 ⊢
              clear hW6 hc5' hf5' hca' hfa' hc3' hcv HB25 HB15 HR5 HG5 HO5 HB2a HB1a HRa HGa HOa HB23 HB13 HO3 HG3 HR3 hsa hs5 hs3 hne5 hne6
              go_wp2
              go_roundg (gk - 1)
              case rel => exact ⟨k1, A5, c5, b4, l4, PP ++ [S4], by have := HK1.out; omega, by have := HK1.out; omega, kept (by rw [← HK1.out]; exact HSN.out), kept (fun h => HQ4.out h), HLL4, HR6, HB16, HB26, kept (by rw [List.map_append, List.map_singleton, HY.out]; exact HO6.out), HG6, hs6⟩
              case measure => have := HK1.out; omega
            · go_simp
              refine hK.out _ _ trivial (fun _ => ?_)
              clear hK K
              try simp only [Act.put, List.getElem_toArray, List.getElem_cons_zero, List.getElem_cons_succ, List.setIfInBounds_toArray, List.set_cons_zero, List.set_cons_succ]
              refine wpAnyH_ready (rs := [1]) (by kernel_rfl) (by simp) ?_
              refine AllReadyH.cons rfl (fun K hK => ?_) (AllReadyH.nil)
              go_simp
              refine hK.out _ _ trivial (fun _ => ?_)
              clear hK K
              try simp only [Act.put, List.getElem_toArray, List.getElem_cons_zero, List.getElem_cons_succ, List.setIfInBounds_toArray, List.set_cons_zero, List.set_cons_succ]
              refine wpAnyH_ready (rs := [6]) (by kernel_rfl) (by simp) ?_
              refine AllReadyH.cons rfl (fun K hK => ?_) (AllReadyH.nil)
              refine step_append_strs (T := 9) rfl (.tmp 23) (.tmp 27) 22 rfl (gN + 1) i0 Try.underlying22 hi0 hz0 hs0 hb0 (.slice Av k cv) (PP.map strOf) rfl HOa.out W3.heap.size (some ⟨W3.heap.size, 0, none⟩) 1 1 [Y] rfl rfl HMa.out (by rw [List.length_map, HPL.out]; simp; omega) hsa ?_
              intro v5 W5 ho5 hg5
              obtain ⟨A5, q5, c5, hv5, hcc5, hcm5, hm5⟩ := ho5.form
              have hl5 : (PP.map strOf ++ [Y]).length = k + 1 := by rw [List.length_append, List.length_map, HPL.out]; rfl
              rw [hl5] at hv5
              obtain ⟨k1, hk1⟩ : ∃ k1, k + 1 = k1 := ⟨_, rfl⟩
              rw [hk1] at hv5
              have HK1 := kept hk1
              subst hv5
              have hne5 : ∀ j, (Value.slice Av k cv).ownBlock = some j → gN + 1 ≤ j := fun j hj => (OwnS.lt HOa.out j hj).1
              have HB25 := kept (HB2a.out.grown hg5 (fun e => by have := hne5 _ e.symm; omega))
              have HB15 := kept (HB1a.out.grown hg5 (fun e => by have := hne5 _ e.symm; have := HLT1.out; omega))
              have HR5 := kept (HRa.out.grown2 hg5 (fun e => by have := hne5 _ e.symm; have := HLTg.out; omega) (by
                by_cases h : l4 = []
                · exact .inl h
                · exact .inr fun e => by have := hne5 _ e.symm; have := HQ4.out h; have := HLT1.out; omega))
              have HG5 := kept (gb_then HGa.out hg5 (.inr fun j hj => by have := hne5 j hj; have := HLT1.out; omega))
              have hs5 : gN + 1 ≤ W5.heap.size := Nat.le_trans hsa hg5.size
              have HO5 := kept ho5
              have hc5' : W5.cell? ⟨gN, 1, none⟩ = some (.slice Av k cv) := by rw [HB25.out.cell]; rfl
              have hf5' := HB25.out.frozen 1
              clear ho5 hg5 hcc5 hcm5 hm5 hl5 hk1
              refine hK.out _ _ trivial (fun _ => ?_)
              clear hK K
              try simp only [Act.put, List.getElem_toArray, List.getElem_cons_zero, List.getElem_cons_succ, List.setIfInBounds_toArray, List.set_cons_zero, List.set_cons_succ]
              refine wpAnyH_take (i := 7) (v := ?_) rfl (by kernel_rfl) (by kernel_rfl) (by kernel_rfl) (fun _ _ _ h => h) (Or.inl ⟨by rfl, ?_⟩) trivial ?_
              rotate_left
              · rintro w' h1
                go_simp; with_reducible rfl
              try simp only [Act.put, List.getElem_toArray, List.getElem_cons_zero, List.getElem_cons_succ, List.setIfInBounds_toArray, List.set_cons_zero, List.set_cons_succ]
              refine wpAnyH_ready (rs := [8]) (by kernel_rfl) (by simp) ?_
              refine AllReadyH.cons rfl (fun K hK => ?_) (AllReadyH.nil)
              go_simp
              have hne6 : ∀ j, (Value.slice A5 k1 c5).ownBlock = some j → gN + 1 ≤ j := fun j hj => (OwnS.lt HO5.out j hj).1
              have HB26 := kept (show Blk (W5.setCell ⟨gN, 1, none⟩ (.slice A5 k1 c5)) gN 24 #[.string RR, .slice A5 k1 c5] from HB25.out.put 1 (.slice A5 k1 c5))
              have HB16 := kept (Blk.far HB15.out (p := ⟨gN, 1, none⟩) (by show w.heap.size ≠ gN; have := HLT1.out; omega) (.slice A5 k1 c5))
              have HO6 := kept (show OwnS 9 (W5.setCell ⟨gN, 1, none⟩ (.slice A5 k1 c5)) (gN + 1) (.slice A5 k1 c5) (PP.map strOf ++ [Y]) from OwnS.keep HO5.out fun j hj => Below.heap_setCell W5 ⟨gN, 1, none⟩ _ j (by show j ≠ gN; have := hne6 j hj; omega))
              have HG6 := kept (gb_setCell HG5.out (p := ⟨gN, 1, none⟩) (.inr (by show w.heap.size ≤ gN; have := HLT1.out; omega)) (.slice A5 k1 c5))
              have HR6 := kept (HR5.out.far (p := ⟨gN, 1, none⟩) (by show g ≠ gN; have := HLTg.out; omega) (fun h => by show q ≠ gN; have := HQ4.out h; have := HLT1.out; omega) (.slice A5 k1 c5))
              have hs6 : gN + 1 ≤ (W5.setCell ⟨gN, 1, none⟩ (.slice A5 k1 c5)).heap.size := by simpa [World.setCell] using hs5
              refine hK.out _ _ trivial (fun _ => ?_)
              clear hK K
              try simp only [Act.put, List.getElem_toArray, List.getElem_cons_zero, List.getElem_cons_succ, List.setIfInBounds_toArray, List.set_cons_zero, List.set_cons_succ]
              refine wpAnyH_done (by kernel_rfl) ?_ _
              obtain ⟨W6, hW6⟩ : ∃ W6, W5.setCell ⟨gN, 1, none⟩ (.slice A5 k1 c5) = W6 := ⟨_, rfl⟩
              rw [hW6] at HB26 HB16 HO6 HG6 HR6 hs6 ⊢
              clear hW6 hc5' hf5' hca' hfa' hc3' hcv HB25 HB15 HR5 HG5 HO5 HB2a HB1a HRa HGa HOa HB23 HB13 HO3 HG3 HR3 hsa hs5 hs3 hne5 hne6
              go_wp2
              go_roundg (gk - 1)
              case rel => exact ⟨k1, A5, c5, b4, l4, PP ++ [S4], by have := HK1.out; omega, by have := HK1.out; omega, kept (by rw [← HK1.out]; exact HSN.out), kept (fun h => HQ4.out h), HLL4, HR6, HB16, HB26, kept (by rw [List.map_append, List.map_singleton, HY.out]; exact HO6.out), HG6, hs6⟩
              case measure => have := HK1.out; omega
end Go.Proofs.Ytnejidaplbonoaa
