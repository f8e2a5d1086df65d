/-
  The walk of the law CtrParts.
-/
import Derived.Test.YtnfgmgkdkfeekaaPm36
import Derived.Test.YtnfgmgkdkfeekaaPm37
import Derived.Test.YtnfgmgkdkfeekaaPm24
namespace Go.Proofs.Ytnfgmgkdkfeekaa.ctrParts
open Go.ChangeShapes Go.WideShapes Go.ChangeAt Go.RowKit
set_option linter.unusedVariables false
set_option linter.unusedSimpArgs false

set_option maxHeartbeats 4000000 in
set_option maxRecDepth 100000 in
theorem walk_in (w : World) (key nonce : Nat → UInt8) (q c : Nat) (A : Option Addr) (L : List (List UInt8)) (hm : MemM w q A L) (h20 : L.length ≤ 20) (hs : (L.map List.length).sum ≤ 1000) :
    Calls Try.prog 5 #[.agg (bA 16 key), .agg (bA 8 nonce), .slice A L.length c] w fun e w' => e = .returned (.bool true) ∧ Below w.heap.size w w' := by
  obtain ⟨i0, hi0, hz0, hs0, hbb0⟩ := info_parts u8_info
  have hd : decide ((20 : Int) < (L.length : Int)) = false := by rw [decide_eq_false_iff_not]; omega
  have hfl : L.flatten.length ≤ 1000 := by rw [flatten_len]; exact hs
  have MM0 := kept hm
  clear hm
  go_enter Try.func5, Try.ntmps5
  go_upto_region 1 with (fail)
  go_name_world W0 hW0
  have n0 := Blk.new w 22 (bA 16 key)
  have n1 := Blk.new (w.alloc (.cells (bA 16 key) 22)) 23 (bA 8 nonce)
  simp only [World.size_alloc] at n1
  have H0 := kept (show Blk W0 w.heap.size 22 (bA 16 key) by rw [← hW0]; exact (n0.alloc _))
  have H1 := kept (show Blk W0 (w.heap.size + 1) 23 (bA 8 nonce) by rw [← hW0]; exact n1)
  have HW := kept (show Below w.heap.size w W0 by rw [← hW0]; exact ((Below.refl w.heap.size w).alloc (Nat.le_refl _) (.cells (bA 16 key) 22)).alloc (by simp) (.cells (bA 8 nonce) 23))
  clear hW0 n0 n1
  go_wp2_with fail
  refine (cawake_any W0).mono ?_
  rintro e W1 ⟨rfl, k⟩
  replace H0 := kept (H0.out.below k H0.out.lt)
  replace H1 := kept (H1.out.below k H1.out.lt)
  replace HW := kept (below_next HW.out k)
  clear k
  go_wp2_with fail
  refine (rejoin_any W1 q A L.length c L rfl (MM0.out.below0 HW.out) (by omega) (by omega)).mono ?_
  rintro e W2 ⟨v2, rfl, o2, k⟩
  replace H0 := kept (H0.out.below k H0.out.lt)
  replace H1 := kept (H1.out.below k H1.out.lt)
  replace HW := kept (below_next HW.out k)
  clear k
  obtain ⟨A2, q2, c2, hv2, hc2, hcm2, mo2, x2, y2⟩ := o2.form
  subst hv2
  have MA2 := kept mo2
  obtain ⟨N, hN⟩ : ∃ N, L.flatten.length = N := ⟨_, rfl⟩
  have hN1 : N ≤ 1000 := by omega
  have HNN := kept hN
  rw [hN] at hc2
  rw [hN]
  clear hN
  have HY2 := kept y2
  have hd2 : decide ((1000 : Int) < (N : Int)) = false := by rw [decide_eq_false_iff_not]; omega
  clear o2 mo2 x2 y2 hc2 hcm2
  go_wp2_with (first | (refine wpList_load_row rfl 22 (.tmp 3) rfl w.heap.size rfl 22 (bA 16 key) (0, 0) _ H0.out Try.underlying22 rfl (by rw [b16_size, bA_size]) ?_) | (refine wpList_load_row rfl 23 (.tmp 4) rfl (w.heap.size + 1) rfl 23 (bA 8 nonce) (0, 0) _ H1.out Try.underlying23 rfl (by rw [b8_size, bA_size]) ?_))
  have hw0 : w.heap.size + 1 < W2.heap.size := H1.out.lt
  refine (cnew_any W2 key nonce).mono ?_
  rintro e W3 ⟨g, rfl, hg, hcat, k⟩
  replace H0 := kept (H0.out.below k H0.out.lt)
  replace H1 := kept (H1.out.below k H1.out.lt)
  replace HW := kept (below_next HW.out k)
  have MA3 := kept (MA2.out.below0 k)
  have HC := kept hcat
  have hgl : g < W3.heap.size := hcat.lt
  have hw1 : w.heap.size + 1 < g := by omega
  have HQ := kept (show q2 < g ∨ L.flatten = [] from HY2.out.elim (fun h => .inl (by omega)) .inr)
  clear k MA2 hcat
  clear HY2 hw0
  obtain ⟨B, hB⟩ : ∃ B, W3.heap.size = B := ⟨_, rfl⟩
  have hgB : g < B := by omega
  have hB3 : B ≤ W3.heap.size := by omega
  have hBw : w.heap.size ≤ B := by omega
  obtain ⟨f, hf⟩ : ∃ f, cStr key nonce = f := ⟨_, rfl⟩
  have HF := kept hf
  have HNX := kept (fun (w' : World) (used : Nat) (hc : CAt key nonce used g w') (q' n' c' : Nat) (A' : Option Addr) (b : List UInt8) (hn : n' = b.length) (hm : Mem w' q' A' b) (hl : b.length ≤ 1000) (hu : used + b.length ≤ 1000) => cnext_any w' key nonce used g hc q' n' c' A' b hn hm (by omega) (by omega))
  rw [hf] at HNX
  clear hf hB hgl
  go_wp2_with fail
  go_loopw [9, 10, 11] (fun v n i wr => ∃ (k u : Nat) (l : List UInt8), k ≤ L.length ∧ i = .int .i64 (k : Int) ∧ n = .int .i64 (u : Int) ∧ Kept (u = (L.take k).flatten.length) ∧ Kept (l = sMix f 0 (L.take k).flatten) ∧ Kept (Own wr B v l) ∧ Kept (CAt key nonce u g wr) ∧ Kept (Blk wr w.heap.size 22 (bA 16 key)) ∧ Kept (Blk wr (w.heap.size + 1) 23 (bA 8 nonce)) ∧ Kept (Below w.heap.size w wr) ∧ Kept (Mem wr q2 A2 L.flatten) ∧ B ≤ wr.heap.size) (fun _ _ i _ => L.length - (intOf i).toNat)
  case atStart => exact ⟨0, 0, [], Nat.zero_le _, rfl, rfl, kept (by simp), kept (by simp [sMix]), kept (Own.nil_ _ _), HC, H0, H1, HW, MA3, hB3⟩
  case round =>
    obtain ⟨k, u, l, hk, rfl, rfl, HU, HLL, HO, HCA, HA0, HA1, HAW, HMA, hBs⟩ := hrel
    rename World => W4
    clear H0 H1 HW MA3 HC hB3
    obtain ⟨Ao, qo, co, hvo, hco, hcmo, mo, xo, yo⟩ := HO.out.form
    subst hvo
    have hul : l.length = u := by rw [HLL.out, sMix_len, HU.out]
    have HUL := kept hul
    rw [hul] at HO hco
    rw [hul]
    have hu1 : u ≤ 1000 := by
      have h1 := sum_take_le L k
      have h2 := HU.out
      rw [flatten_len] at h2
      omega
    have HOB := kept (fun j hj => World.ownsRow.lt HO.out j hj)
    clear mo xo yo hco hcmo hul
    by_cases hlt : k < L.length
    · obtain ⟨o, A', q', c', rfl, hcell, hmj, hcj⟩ := (MM0.out.below0 HAW.out).at_ hlt
      have hfl2 := flatten_take_succ L k hlt
      have hs2 := sum_take_le L (k + 1)
      have hln := congrArg List.length hfl2
      rw [List.length_append, flatten_len, ← HU.out] at hln
      generalize hp : (L[k]'hlt) = p at *
      have HFL := kept hfl2
      have HLN := kept hln
      have hup : u + p.length ≤ 1000 := by omega
      have HMJ := kept hmj
      have HPL := kept (congrArg List.length hp)
      clear hfl2 hmj hp hcj
      go_upto_region 14 with (fail)
      go_wp2_with fail
      refine (HNX.out W4 u HCA.out q' p.length c' A' p rfl HMJ.out (by omega) hup).mono ?_
      rintro e W5 ⟨v5, rfl, o5, hc5, hg5⟩
      have HO5 := kept (HO.out.grown hg5 (fun j hj => by injection hj with hj; omega))
      have HA05 := kept (HA0.out.grown hg5 (fun e => by injection e with e; omega))
      have HA15 := kept (HA1.out.grown hg5 (fun e => by injection e with e; omega))
      have HAW5 := kept (HAW.out.grown hg5 HAW.out.size (fun j hj => by injection hj with hj; omega))
      have HMA5 := kept (show Mem W5 q2 A2 L.flatten from HQ.out.elim (fun h => HMA.out.grown hg5 (fun e => by injection e with e; omega)) (fun h => .inl h))
      have hBs5 : B ≤ W5.heap.size := Nat.le_trans hBs hg5.size
      have HC5 := kept hc5
      obtain ⟨A5, q5, c5, hv5, hcc5, hcm5, m5, x5, y5⟩ := o5.form
      subst hv5
      have M5 := kept m5
      rw [sMix_len] at hcc5
      rw [sMix_len]
      have HML := kept (sMix_len f u p)
      clear hc5 hg5 o5 m5 x5 y5 hcm5 HO HA0 HA1 HAW HMA HCA hBs HMJ hcell
      have HOB5 := kept (fun j hj => (World.ownsRow.lt HO5.out j hj).1)
      clear HOB
      go_upto_region 15 with (at_builtin; refine wpList_append_bytes rfl _ _ 27 rfl B i0 Try.underlying27 hi0 hz0 hs0 hbb0 (.slice Ao u co) l rfl HO5.out q5 A5 p.length c5 (sMix f u p) rfl HML.out.symm M5.out (by rw [HUL.out, HML.out]; omega) hBs5 ?_; intro v6 W6 ho6 hg6; have HO6 := kept ho6; have HG6 := kept hg6; clear ho6 hg6)
      have HA06 := kept (HA05.out.grown HG6.out (fun e => by have := HOB5.out _ e.symm; omega))
      have HA16 := kept (HA15.out.grown HG6.out (fun e => by have := HOB5.out _ e.symm; omega))
      have HAW6 := kept (HAW5.out.grown HG6.out HAW5.out.size (fun j hj => by have := HOB5.out j hj; omega))
      have HMA6 := kept (show Mem W6 q2 A2 L.flatten from HQ.out.elim (fun h => HMA5.out.grown HG6.out (fun e => by have := HOB5.out _ e.symm; omega)) (fun h => .inl h))
      have hBs6 : B ≤ W6.heap.size := Nat.le_trans hBs5 HG6.out.size
      have HC6 := kept (HC5.out.keep (HG6.out.block g HC5.out.lt (fun e => by have := HOB5.out _ e.symm; omega)))
      clear HO5 HA05 HA15 HAW5 HMA5 hBs5 HC5 M5 HG6 HOB5
      obtain ⟨o6, A6, q6, c6, ho6, hcell6, _, _⟩ := (MM0.out.below0 HAW6.out).at_ hlt
      injection ho6 with ho6
      injection ho6 with _ ho6 _
      subst ho6
      rw [HPL.out] at hcell6
      clear hln hs2
      have hu6 : (u : Int) + (p.length : Int) = ((u + p.length : Nat) : Int) := by omega
      have hu7 : ((u + p.length : Nat) : Int) ≤ 1000 := by omega
      generalize hun : u + p.length = u2 at *
      have HUN := kept hun
      clear hun
      go_wp2_with fail
      refine (cused_any W6 key nonce u2 g HC6.out (by omega)).mono ?_
      rintro e W7 ⟨rfl, k7⟩
      have hlt7 := HC6.out.lt
      have HO7 := kept (HO6.out.below k7)
      have HA07 := kept (HA06.out.below k7 HA06.out.lt)
      have HA17 := kept (HA16.out.below k7 HA16.out.lt)
      have HAW7 := kept (below_next HAW6.out k7)
      have HMA7 := kept (HMA6.out.below0 k7)
      have HC7 := kept (HC6.out.keep (k7.block g hlt7))
      have hBs7 : B ≤ W7.heap.size := Nat.le_trans hBs6 k7.size
      clear k7 hlt7 HO6 HA06 HA16 HAW6 HMA6 HC6 hBs6 hcell6
      go_wp2_with fail
      go_roundw
      case rel => exact ⟨k + 1, u2, l ++ sMix f u p, by omega, by go_num, rfl, kept (by rw [flatten_len, HLN.out]), kept (by rw [HFL.out, sMix_append, ← HLL.out, Nat.zero_add, ← HU.out]), HO7, HC7, HA07, HA17, HAW7, HMA7, hBs7⟩
      case measure => simp [intOf]; omega
    · obtain rfl : k = L.length := by omega
      have hall : L.take L.length = L := List.take_length
      rw [hall] at HU HLL
      clear hall
      have HLC := kept (show (sMix f 0 L.flatten).length = N by rw [sMix_len]; exact HNN.out)
      have HUN := kept (show u = N by rw [HU.out]; exact HNN.out)
      have huN : u = N := HUN.out
      go_wp2_with (first | (refine wpList_load_row rfl 22 (.tmp 3) rfl w.heap.size rfl 22 (bA 16 key) (0, 0) _ HA0.out Try.underlying22 rfl (by rw [b16_size, bA_size]) ?_) | (refine wpList_load_row rfl 23 (.tmp 4) rfl (w.heap.size + 1) rfl 23 (bA 8 nonce) (0, 0) _ HA1.out Try.underlying23 rfl (by rw [b8_size, bA_size]) ?_))
      refine (rccrypt_any W4 key nonce q2 N c2 A2 L.flatten HNN.out.symm HMA.out (by have := HNN.out; omega)).mono ?_
      rintro e W5 ⟨v5, rfl, o5, k5⟩
      rw [HF.out] at o5
      have HO5 := kept (HO.out.below k5)
      have HAW5 := kept (below_next HAW.out k5)
      obtain ⟨A5, q5, c5, hv5, hcc5, hcm5, m5, x5, y5⟩ := o5.form
      subst hv5
      have M5 := kept m5
      obtain ⟨Ag, qg, cg, hvg, hcg, hcmg, mg, xg, yg⟩ := HO5.out.form
      injection hvg with e1 e2 e3
      subst e1 e3
      rw [HLL.out] at mg
      have MG := kept mg
      rw [HLC.out]
      clear k5 o5 m5 x5 y5 hcc5 hcm5 mg xg yg hcg hcmg
      go_wp2_with fail
      refine (same_b W5 qg q5 Ao A5 _ _ co c5 (sMix f 0 L.flatten) (by have := HLC.out; omega) HLC.out.symm (by rw [HLC.out]; omega) MG.out M5.out).mono ?_
      rintro e W6 ⟨rfl, k6⟩
      have HAW6 := kept (below_next HAW5.out k6)
      clear k6
      go_wp2_with fail
      go_ret
      exact ⟨rfl, HAW6.out⟩
end Go.Proofs.Ytnfgmgkdkfeekaa.ctrParts
