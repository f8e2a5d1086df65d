/-
  Key of package mac, by a contract.
-/
import Derived.Test.YtcjbplgjjhenkaaDoorSm28
import Derived.Test.YtcjbplgjjhenkaaDoorSm10
import Derived.Deep.Cut
import Derived.OrdersHeld
import Derived.Deep.RegionHeld
/-
  Derive of package mac, by a contract.
-/
namespace Go.Proofs.YtcjbplgjjhenkaaDoor
open Go.RowKit
set_option linter.unusedVariables false
set_option linter.unusedSimpArgs false

theorem derive_no (w : World) (v1 v2 : Value) (n : Int) (h : n < 0 ∨ 8160 < n) :
    Calls Tryd.prog 24 #[v1, v2, .int .i64 n] w fun e w' => e = .returned (.slice none 0 0) ∧ w = w' := by
  by_cases h0 : n < 0
  · have hd : decide (n < 0) = true := by simpa using h0
    clear h h0
    go_enter Tryd.func24, Tryd.ntmps24
    go_wp2
    go_ret
    exact ⟨rfl, rfl⟩
  · have hd : decide (n < 0) = false := by simpa using h0
    have hd2 : decide (8160 < n) = true := by rw [decide_eq_true_eq]; omega
    clear h h0
    go_enter Tryd.func24, Tryd.ntmps24
    go_wp2
    go_ret
    exact ⟨rfl, rfl⟩
theorem u8_next (j : Nat) : Value.int .u8 ((((UInt8.ofNat (j + 1)).toNat : Int) + 1) % 256) = .int .u8 ((UInt8.ofNat (j + 1 + 1)).toNat : Int) := by
  congr 1
  rw [UInt8.toNat_ofNat', UInt8.toNat_ofNat']
  omega
set_option maxHeartbeats 16000000 in
set_option maxRecDepth 100000 in
theorem derive_yes (w : World) (q : Nat) (A : Option Addr) (n1 c : Nat) (k : List UInt8) (s : ByteArray) (n : Nat) (hK : KAt w) (hn1 : n1 = k.length) (hm : Mem w q A k) (hc : k.length ≤ c) (hkl : k.length ≤ 140737488355328) (hsl : s.data.toList.length ≤ 140737488355000) (hn : n ≤ 8160) :
    Calls Tryd.prog 24 #[.slice A n1 c, .string s, .int .i64 (n : Int)] w fun e w' => ∃ v, e = .returned v ∧ Own w' w.heap.size v (derive k s.data.toList n) ∧ Below w.heap.size w w' := by
  subst hn1
  obtain ⟨i0, hi0, hz0, hs0, hbb0⟩ := info_parts u8_info
  have HCO := kept (coder_any w q A k.length c k hK rfl hm hc hkl)
  have HK := kept hK
  have hd : decide ((n : Int) < 0) = false := by rw [decide_eq_false_iff_not]; omega
  have hd2 : decide (8160 < (n : Int)) = false := by rw [decide_eq_false_iff_not]; omega
  obtain ⟨lab, hlab⟩ : ∃ l, s.data.toList = l := ⟨_, rfl⟩
  have HLAB := kept hlab
  rw [hlab] at hsl
  rw [hlab]
  clear hK hm hc hkl hlab
  go_enter Tryd.func24, Tryd.ntmps24
  go_wp2_with fail
  refine HCO.out.mono ?_
  rintro e W1 ⟨⟨gi, go, rfl, hgi, hgo, hI, hO⟩, hb1⟩
  have HI1 := kept hI
  have HO1 := kept hO
  have HB1 := kept hb1
  clear hgi hgo hI hO hb1 HCO
  have HS1 := kept HB1.out.size
  go_wp2_with (first | (refine wpList_conv_bytes rfl 9 24 (.tmp 20) rfl s rfl Tryd.underlying9 Tryd.underlying24 Tryd.underlying5 ?_; intro A2 q2 c2 W2; rw [HLAB.out]; intro hc2 hm2 hb2; have HM2 := kept hm2; have HC2 := kept hc2; have HB2 := kept hb2; clear hm2 hc2 hb2; have HS2 := kept (show w.heap.size ≤ W2.heap.size from Nat.le_trans HS1.out HB2.out.size)) | (refine wpList_make_own _ rfl _ (.tmp 22) 24 rfl W2.heap.size 5 i0 (.int .u8 0) 1 Tryd.underlying24 hi0 hz0 hs0 .i64 .i64 (n : Int) n rfl rfl rfl (by rw [hbb0]; omega) (by unfold maxLen; omega) (Nat.le_refl _) ?_; intro W3 ho3 hg3))
  have hb13 : Below W1.heap.size W1 W3 := HB2.out.grown hg3 HB2.out.size (fun k h => by cases h)
  have HD3 := kept (show Own W3 W2.heap.size (.slice (some ⟨W2.heap.size, 0, none⟩) 0 n) [] from ho3)
  have hb12 := HB2.out
  have HI3 := kept (HI1.out.below hb13 HI1.out.lt)
  have HO3 := kept (HO1.out.below hb13 HO1.out.lt)
  have HLT := kept (show gi < W2.heap.size ∧ go < W2.heap.size from ⟨Nat.lt_of_lt_of_le HI1.out.lt hb12.size, Nat.lt_of_lt_of_le HO1.out.lt hb12.size⟩)
  have HQ := kept (show lab = [] ∨ q2 < W2.heap.size by
    by_cases e : lab = []
    · exact .inl e
    · exact .inr (HM2.out.lt e))
  have HM3 := kept (HM2.out.grown hg3 (by simp))
  have HB3 := kept (HB1.out.trans (hb13.mono HB1.out.size))
  have HB := kept (show w.heap.size ≤ W2.heap.size ∧ W2.heap.size ≤ W3.heap.size from ⟨Nat.le_trans HS1.out hb12.size, hg3.size⟩)
  clear hb13 hb12 ho3 hg3 HI1 HO1 HM2 HB2 HB1 hd hd2 HS1 HS2
  obtain ⟨B, hB⟩ : ∃ B, W2.heap.size = B := ⟨_, rfl⟩
  rw [hB] at HD3 HLT HQ HB
  rw [hB]
  clear hB
  have HCL := kept (fun (w' : World) (q' : Nat) (A' : Option Addr) (n' c' : Nat) (L : List (List UInt8)) (hn' : n' = L.length) (hk : KAt w') (hi : Blk w' gi 67 ((xorB 54 (padK k)).map bv).toArray) (ho : Blk w' go 67 ((xorB 92 (padK k)).map bv).toArray) (hm : MemM w' q' A' L) (hL : L.length ≤ 1000000) (hs : (L.map List.length).sum ≤ 140737488355200) =>
    clo_any w' gi go _ _ q' A' n' c' L hk hi ho (by rw [xorB_len, padK_len]) (by rw [xorB_len, padK_len]) hn' hm hL hs)
  go_loopw [9, 10] (fun d i wr => ∃ j : Nat, i = .int .u8 ((UInt8.ofNat (j + 1)).toNat : Int) ∧ j ≤ (n + 31) / 32 ∧ Kept (Own wr B d ((codes k lab j).take n)) ∧ Kept (Below B W3 wr)) (fun d _ _ => n - lenV d)
  case atStart => exact ⟨0, rfl, Nat.zero_le _, kept (by rw [show (codes k lab 0).take n = [] from List.take_nil]; exact HD3.out), kept (Below.refl _ _)⟩
  case round =>
    obtain ⟨j, rfl, hj, HD, HBL⟩ := hrel
    rename World => W4
    clear HD3
    obtain ⟨ib, hib⟩ : ∃ b, UInt8.ofNat (j + 1) = b := ⟨_, rfl⟩
    rw [hib]
    have hlen := derive_len_j k lab n j
    obtain ⟨T, hT⟩ : ∃ T, (codes k lab j).take n = T := ⟨_, rfl⟩
    rw [hT] at HD hlen
    obtain ⟨Ad, qd, cd, rfl, hcd, hcm, hmd, _⟩ := HD.out.form
    have hB34 : w.heap.size ≤ W4.heap.size := by have := HB.out; have := HBL.out.size; omega
    by_cases hlt : 32 * j < n
    · have hTl : T.length = 32 * j := by omega
      have hltn : T.length < n := by omega
      have hI4 := HI3.out.below HBL.out HLT.out.1
      have hO4 := HO3.out.below HBL.out HLT.out.2
      have hM4 : Mem W4 q2 A2 lab := by
        rcases HQ.out with h | h
        · exact .inl h
        · exact HM3.out.below HBL.out h
      have hKw : Below w.heap.size w W4 := HB3.out.trans (HBL.out.mono HB.out.1)
      have hK4 := HK.out.below0 hKw
      -- the two blocks that the round's call is given
      have hx1 : Mem (W4.alloc (.cells #[.int .u8 (ib.toNat : Int)] 5)) W4.heap.size (some ⟨W4.heap.size, 0, none⟩) [ib] := mem_lit rfl
      have hx2 := hM4.alloc (.cells #[.int .u8 (ib.toNat : Int)] 5)
      have hmm := memM_two (w := W4.alloc (.cells #[.int .u8 (ib.toNat : Int)] 5)) (g := W4.heap.size + 1) (c1 := 1) (c2 := c2) (by simp) hx1 hx2 (by simp) HC2.out
      have hb46 : Below W4.heap.size W4 ((W4.alloc (.cells #[.int .u8 (ib.toNat : Int)] 5)).alloc (.cells #[.slice (some ⟨W4.heap.size, 0, none⟩) 1 1, .slice A2 lab.length c2] 24)) := ((Below.refl _ W4).alloc (Nat.le_refl _) _).alloc (by simp) _
      have HCALL := kept (HCL.out _ _ _ 2 2 [[ib], lab] rfl (hK4.below0 hb46) (hI4.below hb46 hI4.lt) (hO4.below hb46 hO4.lt) hmm (by simp) (by simp; omega))
      have he : digest (xorB 92 (padK k) ++ digest (xorB 54 (padK k) ++ [[ib], lab].flatten)) = hmac k (ib :: lab) := by
        have e : [[ib], lab].flatten = ib :: lab := by simp
        rw [e]
        rfl
      rw [he] at HCALL
      obtain ⟨D, hD⟩ : ∃ D, hmac k (ib :: lab) = D := ⟨_, rfl⟩
      have hDl : D.length = 32 := by rw [← hD, hmac_len]
      rw [hD] at HCALL
      have HDL := kept hDl
      have HB46 := kept hb46
      have hrnd := derive_round k lab n j hlt
      rw [hib, hD, hT] at hrnd
      obtain ⟨x, hx⟩ : ∃ x, min 32 (n - 32 * j) = x := ⟨_, rfl⟩
      rw [hx] at hrnd
      have hxb : x ≤ 32 ∧ 0 < x ∧ (x : Int) = min 32 ((n : Int) - (T.length : Int)) := by omega
      have HRND := kept hrnd
      have HXX := kept hxb
      have HTL := kept hTl
      have HIB := kept hib
      clear hx1 hx2 hmm hb46 he hI4 hO4 hM4 hK4 hDl hrnd hx hT hD hTl hxb hlen hmd hib
      go_wp2_with fail
      refine HCALL.out.mono ?_
      rintro e W5 ⟨rfl, hb5⟩
      go_upto_region 10 with (refine wpList_store_row rfl 36 _ _ rfl W5.heap.size (D.map bv).toArray rfl rfl 36 (Array.replicate 32 (.int .u8 0)) (Blk.new W5 _ _) (by rw [b32_size]; simp [HDL.out]) (by simp [HDL.out]) (padded_one D) ?_)
      go_name_world W6 hW6
      have hb45 : Below W4.heap.size W4 W5 := HB46.out.trans (hb5.mono HB46.out.size)
      have hb46 : Below W4.heap.size W4 W6 := by rw [← hW6]; exact below_setRow (hb45.alloc hb45.size _) hb45.size _
      have HD6 := kept (show Blk W6 W5.heap.size 36 (D.map bv).toArray by rw [← hW6]; exact setRow_heap _ _ _ _ _ _ (Blk.new W5 _ _))
      have HOW := kept (HD.out.below hb46)
      have HBL6 := kept (HBL.out.trans (hb46.mono (by have := HB.out; have := HBL.out.size; omega)))
      clear hW6 hb5 hb45 hb46 HB46 HCALL HD HBL
      obtain ⟨gD, hgD⟩ : ∃ g, W5.heap.size = g := ⟨_, rfl⟩
      rw [hgD] at HD6
      rw [hgD]
      clear hgD
      have HBS := kept (show B ≤ W6.heap.size by have := HB.out; have := HBL6.out.size; omega)
      by_cases h32 : (32 : Int) ≤ (n : Int) - (T.length : Int)
      · have hx32 : x = 32 := by have := HXX.out; omega
        have HX32 := kept hx32
        clear hx32
        go_wp2_with (at_builtin; refine wpList_append_bytes rfl (.tmp 36) (.tmp 42) 24 rfl B i0 Tryd.underlying24 hi0 hz0 hs0 hbb0 (.slice Ad T.length cd) T rfl HOW.out gD (some ⟨gD, 0, none⟩) _ 32 (D.take x) rfl (by rw [List.length_take, HDL.out]; have := HXX.out; omega) ((mem_blk HD6.out).take x) (by rw [List.length_take, HDL.out]; omega) HBS.out ?_; intro v7 W7 ho7 hg7)
        have hb7 : Below B W3 W7 := HBL6.out.grown hg7 (by have := HB.out; have := HBL6.out.size; omega) (fun kk hk => (World.ownsRow.lt HOW.out kk hk).1)
        have HO7 := kept ho7
        have HB7 := kept hb7
        have hnv : lenV v7 = T.length + x := by
          obtain ⟨A7, q7, c7, e7, _⟩ := ho7.form
          rw [e7]
          show (T ++ D.take x).length = _
          rw [List.length_append, List.length_take, HDL.out]
          have := HXX.out
          omega
        have HNV := kept hnv
        clear ho7 hg7 hb7 hnv
        go_wp2
        go_roundw
        case rel => exact ⟨j + 1, by rw [← HIB.out]; exact u8_next j, by omega, kept (by rw [HRND.out]; exact HO7.out), HB7⟩
        case measure => have := HXX.out; have e := HNV.out; show n - lenV v7 < n - lenV (.slice Ad T.length cd); rw [e]; show n - (T.length + x) < n - T.length; omega
      · have hxe : (n : Int) - (T.length : Int) = (x : Int) := by have := HXX.out; omega
        have h0 : (0 : Int) ≤ (x : Int) := by omega
        have h1 : (x : Int) ≤ 32 := by omega
        have h2 : ¬ ((32 : Int) ≤ (x : Int)) := by omega
        clear h32
        go_wp2_with (at_builtin; refine wpList_append_bytes rfl (.tmp 36) (.tmp 42) 24 rfl B i0 Tryd.underlying24 hi0 hz0 hs0 hbb0 (.slice Ad T.length cd) T rfl HOW.out gD (some ⟨gD, 0, none⟩) _ 32 (D.take x) rfl (by rw [List.length_take, HDL.out]; have := HXX.out; omega) ((mem_blk HD6.out).take x) (by rw [List.length_take, HDL.out]; omega) HBS.out ?_; intro v7 W7 ho7 hg7)
        have hb7 : Below B W3 W7 := HBL6.out.grown hg7 (by have := HB.out; have := HBL6.out.size; omega) (fun kk hk => (World.ownsRow.lt HOW.out kk hk).1)
        have HO7 := kept ho7
        have HB7 := kept hb7
        have hnv : lenV v7 = T.length + x := by
          obtain ⟨A7, q7, c7, e7, _⟩ := ho7.form
          rw [e7]
          show (T ++ D.take x).length = _
          rw [List.length_append, List.length_take, HDL.out]
          have := HXX.out
          omega
        have HNV := kept hnv
        clear ho7 hg7 hb7 hnv
        go_wp2
        go_roundw
        case rel => exact ⟨j + 1, by rw [← HIB.out]; exact u8_next j, by omega, kept (by rw [HRND.out]; exact HO7.out), HB7⟩
        case measure => have := HXX.out; have e := HNV.out; show n - lenV v7 < n - lenV (.slice Ad T.length cd); rw [e]; show n - (T.length + x) < n - T.length; omega
    · have hle : (codes k lab j).take n = derive k lab n := derive_of k lab n j (by omega)
      have hTn : T.length = n := by omega
      rw [← hT, hle] at HD
      rw [← hT, hle]
      have hdl := derive_len k lab n
      have hnl : ¬ (((derive k lab n).length : Int) < (n : Int)) := by omega
      have HDF := kept HD.out
      rw [hle] at hT
      rw [hT] at HDF hnl
      rw [hT]
      have HTT := kept hT
      have HB7 := kept (HB3.out.trans (HBL.out.mono HB.out.1))
      clear hle hTn hdl hT HD hlen hmd hib hcd hcm hlt
      go_wp2_with fail
      go_ret
      exact ⟨_, rfl, by rw [HTT.out]; exact HDF.out.mono HB.out.1, HB7.out⟩
end Go.Proofs.YtcjbplgjjhenkaaDoor
namespace Go.Proofs.YtcjbplgjjhenkaaDoor
open Go.RowKit
set_option linter.unusedVariables false
set_option linter.unusedSimpArgs false

theorem k16_size : (Tryd.prog.info? 22).map (·.size) = some 16 := by kernel_rfl
set_option maxHeartbeats 4000000 in
set_option maxRecDepth 100000 in
theorem key_any (w : World) (q : Nat) (A : Option Addr) (n1 c : Nat) (k : List UInt8) (s : ByteArray) (hK : KAt w) (hn1 : n1 = k.length) (hm : Mem w q A k) (hc : k.length ≤ c) (hkl : k.length ≤ 140737488355328) (hsl : s.data.toList.length ≤ 140737488355000) :
    Calls Tryd.prog 25 #[.slice A n1 c, .string s] w fun e w' => e = .returned (.agg ((derive k s.data.toList 16).map bv).toArray) ∧ Below w.heap.size w w' := by
  have HD := kept (fun (w' : World) (hk : KAt w') (hm' : Mem w' q A k) => derive_yes w' q A n1 c k s 16 hk hn1 hm' hc hkl hsl (by omega))
  have hdl := derive_len k s.data.toList 16
  obtain ⟨D, hDe⟩ : ∃ D, derive k s.data.toList 16 = D := ⟨_, rfl⟩
  rw [hDe] at HD hdl
  rw [hDe]
  have HK := kept hK
  have HM := kept hm
  have HDL := kept hdl
  clear hK hn1 hm hc hkl hsl hDe hdl
  go_enter Tryd.func25, Tryd.ntmps25
  go_upto_region 2 with fail
  go_name_world W0 hW0
  have HR0 := kept (show Blk W0 w.heap.size 22 (gA 16 (fun _ => bv 0)) by
    rw [← hW0, ← zeros_g]
    exact (Blk.new w _ _).alloc _)
  have HP0 := kept (show Blk W0 (w.heap.size + 1) 22 (gA 16 (fun _ => bv 0)) by
    rw [← hW0, ← zeros_g]
    have n2 := Blk.new (w.alloc (.cells (Array.replicate 16 (.int .u8 0)) 22)) 22 (Array.replicate 16 (.int .u8 0))
    simp only [World.size_alloc] at n2
    exact n2)
  have HW0 := kept (show Below w.heap.size w W0 by
    rw [← hW0]
    exact ((Below.refl _ _).alloc (Nat.le_refl _) _).alloc (by simp) _)
  clear hW0
  have HD0 := kept (HD.out W0.drew ((HK.out.below0 HW0.out).drew) ((HM.out.below0 HW0.out).drew))
  have HSD := kept (show (fun w' : World => Below w.heap.size w w') W0.drew from HW0.out.drew)
  refine wp_region_held_drew (S := fun w' : World => Below w.heap.size w w') (by kernel_rfl) HSD.out (fun _ => ?_)
  refine wpAnyH_take (i := 0) (v := ?_) rfl (by kernel_rfl) (by kernel_rfl) (by kernel_rfl) (fun _ _ _ h => h) (Or.inl ⟨by rfl, ?_⟩) HSD.out ?_
  rotate_left
  · intro w _; go_simp; with_reducible rfl
  try simp only [Act.put, List.getElem_toArray, List.getElem_cons_zero, List.getElem_cons_succ, List.setIfInBounds_toArray, List.set_cons_zero, List.set_cons_succ]
  refine wpAnyH_take (i := 1) (v := ?_) rfl (by kernel_rfl) (by kernel_rfl) (by kernel_rfl) (fun _ _ _ h => h) (Or.inl ⟨by rfl, ?_⟩) HSD.out ?_
  rotate_left
  · intro w _; go_simp; with_reducible rfl
  try simp only [Act.put, List.getElem_toArray, List.getElem_cons_zero, List.getElem_cons_succ, List.setIfInBounds_toArray, List.set_cons_zero, List.set_cons_succ]
  refine wpAnyH_take (i := 2) (v := ?_) rfl (by kernel_rfl) (by kernel_rfl) (by kernel_rfl) (fun _ _ _ h => h) (Or.inl ⟨by rfl, ?_⟩) HSD.out ?_
  rotate_left
  · intro w _; go_simp; with_reducible rfl
  try simp only [Act.put, List.getElem_toArray, List.getElem_cons_zero, List.getElem_cons_succ, List.setIfInBounds_toArray, List.set_cons_zero, List.set_cons_succ]
  refine wpAnyH_ready (rs := [3]) (by kernel_rfl) (by simp) ?_
  refine AllReadyH.cons rfl (fun K hK => ?_) AllReadyH.nil
  go_simp
  refine HD0.out.mono ?_
  rintro e W1 ⟨v1, rfl, hown1, hb1⟩
  obtain ⟨A1, q1, c1, rfl, _, _, hm1, _⟩ := hown1.form
  have hb01 : Below W0.heap.size W0 W1 := ⟨hb1.os, hb1.tape, hb1.output, hb1.size, hb1.block⟩
  have HR1 := kept (HR0.out.below hb01 HR0.out.lt)
  have HP1 := kept (HP0.out.below hb01 HP0.out.lt)
  have HW1 := kept (HW0.out.trans (hb01.mono HW0.out.size))
  have hsrc : 0 < (D.map bv).length → ∃ ad, A1 = some ad ∧ ∀ j v, (D.map bv)[j]? = some v → W1.cell? (ad.add j) = some v := by
    intro hp
    rcases hm1 with h | ⟨o, ho, hc⟩
    · rw [h] at hp; simp at hp
    · exact ⟨_, ho, mem_src (q := q1) (.inr ⟨o, ho, hc⟩) _ ho⟩
  have HSRC := kept hsrc
  have hDl : D.length = 16 := HDL.out
  have hspl : (splice (gA 16 (fun _ => bv 0)).toList 0 (D.map bv)).toArray = (D.map bv).toArray := by
    rw [copy_splice D 16 (by omega), hDl]
    simp
  have HSPL := kept hspl
  clear hown1 hm1 hb1 hb01 hsrc HR0 HP0 HD0 hspl
  have HSD1 := kept (show (fun w' : World => Below w.heap.size w w') W1 from HW1.out)
  refine hK.out _ _ HSD1.out (fun _ => ?_)
  clear hK K
  rw [hDl]
  clear hDl
  try simp only [Act.put, List.getElem_toArray, List.getElem_cons_zero, List.getElem_cons_succ, List.setIfInBounds_toArray, List.set_cons_zero, List.set_cons_succ]
  refine wpAnyH_ready (rs := [4]) (by kernel_rfl) (by simp) ?_
  refine AllReadyH.cons rfl (fun K hK => ?_) AllReadyH.nil
  refine step_copy_splice rfl (.tmp 6) (.tmp 9) 24 24 rfl 5 Tryd.underlying24 u8_size (some ⟨w.heap.size + 1, 0, none⟩) A1 16 16 16 c1 rfl rfl (w.heap.size + 1) 0 (gA 16 (fun _ => bv 0)).toList 22 HP1.out (D.map bv) (by rw [List.length_map, HDL.out]; rfl) (fun hp => ⟨rfl, HSRC.out hp⟩) (by rw [gA_len, List.length_map, HDL.out]; omega) (oneCell_bv D) (w.heap.size + 1) W1 (Below.refl _ _) (Nat.le_refl _) ?_
  intro W2 hg2 hb2
  have HP2 := kept (show Blk W2 (w.heap.size + 1) 22 (D.map bv).toArray by (rw [← HSPL.out]; exact hg2.out))
  have HR2 := kept (HR1.out.below hb2 (by omega))
  have HW2 := kept (HW1.out.trans (hb2.mono (by omega)))
  clear hg2 hb2
  refine hK.out _ _ HW2.out (fun _ => ?_)
  clear hK K
  refine wpAnyH_done (by kernel_rfl) ?_ _
  go_wp2_with (first | (refine wpList_load_row rfl 22 _ rfl (w.heap.size + 1) rfl 22 (D.map bv).toArray (0,0) _ HP2.out Tryd.underlying22 rfl (by rw [k16_size]; simp [HDL.out]) ?_) | (refine wpList_store_row rfl 22 _ _ rfl w.heap.size (D.map bv).toArray rfl rfl 22 (gA 16 (fun _ => bv 0)) HR2.out (by rw [k16_size]; simp [HDL.out]) (by rw [gA_size]; simp [HDL.out]) (padded_one D) ?_))
  exact bodyPost_ret (v := .agg (D.map bv).toArray) (results_cell_row Tryd.results25 _ _ w.heap.size 22 (D.map bv).toArray (0, 0) _ rfl (setRow_heap _ _ _ _ _ _ HR2.out) Tryd.underlying22 rfl (by rw [k16_size]; simp [HDL.out])) rfl ⟨rfl, below_setRow HW2.out (Nat.le_refl _) _⟩
end Go.Proofs.YtcjbplgjjhenkaaDoor
