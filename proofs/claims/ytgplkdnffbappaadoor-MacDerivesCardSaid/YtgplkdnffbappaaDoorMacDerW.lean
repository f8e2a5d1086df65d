/-
  The walk of the law MacDerives, where the arguments are within its bounds.
-/
import Derived.Test.YtgplkdnffbappaaDoorMacMore
import Derived.Test.YtgplkdnffbappaaDoorMacAwk
import Derived.Test.YtgplkdnffbappaaDoorMacKey
import Derived.Test.YtgplkdnffbappaaDoorHOpen
import Derived.OrdersHeld
import Derived.Deep.RegionHeld
import Derived.Deep.Cut
namespace Go.Proofs.YtgplkdnffbappaaDoor.macDerives
open Go.ChangeShapes Go.WideShapes Go.ChangeAt Go.RowKit
set_option linter.unusedVariables false
set_option linter.unusedSimpArgs false

theorem same_d (w : World) (q1 q2 : Nat) (A1 A2 : Option Addr) (n1 n2 c1 c2 : Nat) (l1 l2 : List UInt8) (hn1 : n1 = l1.length) (hn2 : n2 = l2.length) (hl : l1.length ≤ 140737488355328) (h1 : Mem w q1 A1 l1) (h2 : Mem w q2 A2 l2) (he : l1 = l2) :
    Calls Tryd.prog 13 #[.slice A1 n1 c1, .slice A2 n2 c2] w fun e w' => e = .returned (.bool true) ∧ Below w.heap.size w w' :=
  (same_any w q1 q2 A1 A2 n1 n2 c1 c2 l1 l2 hn1 hn2 hl h1 h2).mono fun e w' ⟨h, n, hw⟩ => ⟨by rw [← sameB_true he]; exact h, by rw [hw]; exact below_drewN (Below.refl _ _) n⟩
set_option maxHeartbeats 16000000 in
set_option maxRecDepth 100000 in
theorem walk_neg (w : World) (q : Nat) (A : Option Addr) (c : Nat) (k : List UInt8) (s : ByteArray) (z : Int) (m : Nat) (hK : KAt w) (hm : Mem w q A k) (hc : k.length ≤ c) (hk : k.length ≤ 200) (hs : s.size ≤ 100) (hz : z ≤ 500) (hzm : -9223372036854775808 ≤ z) (hm8 : m < 256) (hway : (derZ k s.data.toList z).length < m) :
    Calls Tryd.prog 4 #[.slice A k.length c, .string s, .int .i64 z, .int .u8 (m : Int)] w fun e w' => e = .returned (.bool true) ∧ Below w.heap.size w w' := by
  have HK := kept hK
  have HM := kept hm
  have hd1 : decide ((200 : Int) < (k.length : Int)) = false := by rw [decide_eq_false_iff_not]; omega
  have hd2 : decide ((100 : Int) < (s.size : Int)) = false := by rw [decide_eq_false_iff_not]; omega
  have hd3 : decide ((500 : Int) < z) = false := by rw [decide_eq_false_iff_not]; omega
  have hsl : s.data.toList.length ≤ 100 := by rw [Array.length_toList]; exact hs
  have HDZ := kept (fun (w' : World) (z' : Int) (hk' : KAt w') (a : Mem w' q A k) (hz' : z' ≤ 8160) => derive_z w' q A k.length c k s z' hk' rfl a hc (by omega) (by omega) hz')
  have HRZ := kept (fun (w' : World) (z' : Int) (a : Mem w' q A k) (hz' : z' ≤ 8160) => rder_z w' q A k.length c k s z' rfl a (by omega) (by omega) hz')
  have HKY := kept (fun (w' : World) (hk' : KAt w') (a : Mem w' q A k) => key_any w' q A k.length c k s hk' rfl a hc (by omega) (by omega))
  have HZ := kept hz
  have HDN := kept (fun (w' : World) (n : Nat) (hk' : KAt w') (a : Mem w' q A k) (hn : n ≤ 8160) => derive_yes w' q A k.length c k s n hk' rfl a hc (by omega) (by omega) hn)
  obtain ⟨lab, hlab⟩ : ∃ l, s.data.toList = l := ⟨_, rfl⟩
  rw [hlab] at HDZ HRZ HKY HDN
  have hal := derZ_len k lab z
  have hdt := fun n h => derZ_take k lab z n h
  obtain ⟨la, hla⟩ : ∃ l, derZ k lab z = l := ⟨_, rfl⟩
  rw [hlab, hla] at hway
  rw [hla] at hal hdt
  have hla500 : la.length ≤ 500 := by omega
  have HLA := kept hla
  have HDT := kept hdt
  clear hK hm hc hs hk hz hsl hlab hla hal hdt
  go_enter Tryd.func4, Tryd.ntmps4
  go_wp2_with fail
  refine (mawake_any _ HK.out).mono ?_
  rintro e w1 ⟨rfl, b1⟩
  have HB1 := kept b1
  clear b1
  go_wp2_with fail
  refine (HDZ.out w1 z (HK.out.below0 HB1.out) (HM.out.below0 HB1.out) (by have := HZ.out; omega)).mono ?_
  rw [HLA.out]
  rintro e w2 ⟨va, rfl, ho2, b2⟩
  obtain ⟨Aa, qa, ca, rfl, hca, hcma, hma, _⟩ := ho2.form
  have HB2 := kept (HB1.out.trans (b2.mono HB1.out.size))
  have HA2 := kept hma
  have HOA2 := kept ho2
  clear ho2 b2 hma
  go_wp2_with fail
  refine (HRZ.out w2 z (HM.out.below0 HB2.out) (by have := HZ.out; omega)).mono ?_
  rw [HLA.out]
  rintro e w3 ⟨vr, rfl, ho3, b3⟩
  obtain ⟨Ar, qr, cr, rfl, _, _, hmr, _⟩ := ho3.form
  have HA3 := kept (HA2.out.below0 b3)
  have HOA3 := kept (HOA2.out.below b3)
  have HB3 := kept (HB2.out.trans (b3.mono HB2.out.size))
  have HR3 := kept hmr
  clear ho3 b3 hmr
  go_wp2_with fail
  refine (same_d w3 qa qr Aa Ar la.length la.length ca cr la la rfl rfl (by omega) HA3.out HR3.out rfl).mono ?_
  rintro e w4 ⟨rfl, b4⟩
  have HA4 := kept (HA3.out.below0 b4)
  have HOA4 := kept (HOA3.out.below b4)
  have HB4 := kept (HB3.out.trans (b4.mono HB3.out.size))
  clear b4 HA2 HA3 HR3 HOA2 HOA3
  have HQA := kept (show la = [] ∨ qa < w4.heap.size by
    by_cases e : la = []
    · exact .inl e
    · exact .inr (HA4.out.lt e))
  have hx : (la.length : Int) - (m : Int) < 0 := by omega
  have hx2 : (la.length : Int) < (m : Int) := by omega
  have hx3 : ¬ ((m : Int) ≤ (la.length : Int)) := by omega
  have hx4 : ¬ (0 ≤ (la.length : Int) - (m : Int)) := by omega
  have hca0 : (0 : Int) ≤ (ca : Int) := by omega
  have HTK := kept (show la.take 0 = derive k lab 0 from HDT.out 0 (Nat.zero_le _))
  have hdb := derive_len k lab 0
  obtain ⟨DB, hDB⟩ : ∃ D, derive k lab 0 = D := ⟨_, rfl⟩
  have HDB := kept hDB
  rw [hDB] at HTK hdb
  have HDBL := kept hdb
  clear hDB hdb hway
  go_wp2_with fail
  refine (HDN.out w4 0 (HK.out.below0 HB4.out) (HM.out.below0 HB4.out) (by omega)).mono ?_
  rw [HDB.out]
  rintro e w5 ⟨vb, rfl, ho5, b5⟩
  obtain ⟨Ab, qb, cb, rfl, _, _, hmb, hfb, _⟩ := ho5.form
  rw [HDBL.out] at ho5
  rw [HDBL.out]
  have HO5 := kept ho5
  have HMB := kept hmb
  have HA5 := kept (HA4.out.below0 b5)
  have HB5 := kept (HB4.out.trans (b5.mono HB4.out.size))
  have HS5 := kept (show w.heap.size ≤ w4.heap.size ∧ w4.heap.size ≤ w5.heap.size from ⟨HB4.out.size, b5.size⟩)
  clear ho5 b5 hmb hfb hx
  go_wp2_with fail
  refine (same_d w5 qb qa _ Aa 0 0 cb ca DB (la.take 0) HDBL.out.symm (by rw [HTK.out, HDBL.out]) (by rw [HDBL.out]; omega) HMB.out (HA5.out.take 0) HTK.out.symm).mono ?_
  rintro e w6 ⟨rfl, b6⟩
  have HA6 := kept (HA5.out.below0 b6)
  have HB6 := kept (HB5.out.trans (b6.mono HB5.out.size))
  have HO6 := kept (HO5.out.below b6)
  have HS6 := kept (show w4.heap.size ≤ w6.heap.size by have := HS5.out; have := b6.size; omega)
  clear b6 HA4 HA5 HB5 HO5 HMB HOA4
  go_wp2_with fail
  go_loopw [12] (fun i wr => i = .int .i64 0 ∧ Kept (Mem wr qa Aa la) ∧ Kept (Below w.heap.size w wr)) (fun _ _ => 0)
  case atStart => exact ⟨rfl, HA6, HB6⟩
  case round =>
    obtain ⟨rfl, HA7, HB7⟩ := hrel
    rename World => w7
    clear HA6 HB6
    have hdx := derive_len k lab 16
    obtain ⟨DX, hDX⟩ : ∃ D, derive k lab 16 = D := ⟨_, rfl⟩
    rw [hDX] at HKY hdx
    have HDX := kept (show derZ k lab 16 = DX by rw [← hDX]; rfl)
    have HDXL := kept hdx
    clear hdx hDX
    go_wp2_with fail
    refine (HKY.out w7 (HK.out.below0 HB7.out) (HM.out.below0 HB7.out)).mono ?_
    rintro e w8 ⟨rfl, b8⟩
    go_upto_region 15 with (refine wpList_store_row rfl 32 _ _ rfl w8.heap.size (DX.map bv).toArray rfl rfl 32 (Array.replicate 16 (.int .u8 0)) (Blk.new w8 _ _) (by rw [b16_size]; simp [HDXL.out]) (by simp [HDXL.out]) (padded_one DX) ?_)
    go_name_world w9 hW9
    have hb79 : Below w7.heap.size w7 w9 := by rw [← hW9]; exact below_setRow (b8.alloc b8.size _) b8.size _
    have hX9 : Blk w9 w8.heap.size 32 (DX.map bv).toArray := by rw [← hW9]; exact setRow_heap _ _ _ _ _ _ (Blk.new w8 _ _)
    have hS9 : (fun w' : World => Below w.heap.size w w' ∧ Mem w' qa Aa la ∧ Blk w' w8.heap.size 32 (DX.map bv).toArray) w9.drew := ⟨(HB7.out.trans (hb79.mono HB7.out.size)).drew, (HA7.out.below0 hb79).drew, hX9.drew⟩
    clear hW9 b8 hb79 hX9
    obtain ⟨gX, hgX⟩ : ∃ g, w8.heap.size = g := ⟨_, rfl⟩
    rw [hgX] at hS9
    rw [hgX]
    clear hgX
    have S0 := kept hS9
    have HKEEP := kept (fun (w' w'' : World) (h : Below w.heap.size w w' ∧ Mem w' qa Aa la ∧ Blk w' gX 32 (DX.map bv).toArray) (hb : Below w'.heap.size w' w'') => (show Below w.heap.size w w'' ∧ Mem w'' qa Aa la ∧ Blk w'' gX 32 (DX.map bv).toArray from ⟨h.1.trans (hb.mono h.1.size), h.2.1.below0 hb, h.2.2.below hb h.2.2.lt⟩))
    have hz5 := HZ.out
    have HZ8 := kept (show z ≤ 8160 by omega)
    clear hS9 hz5
    refine wp_region_held_drew (S := fun w' : World => Below w.heap.size w w' ∧ Mem w' qa Aa la ∧ Blk w' gX 32 (DX.map bv).toArray) (by kernel_rfl) S0.out (fun _ => ?_)
    generalize w9.drew = w10 at S0 ⊢
    refine wpAnyH_take (i := 0) (v := ?_) rfl (by kernel_rfl) (by kernel_rfl) (by kernel_rfl) (fun _ _ _ h => h) (Or.inl ⟨by rfl, ?_⟩) S0.out ?_
    rotate_left
    · intro w _; go_simp; with_reducible rfl
    try simp only [Act.put, List.getElem_toArray, List.getElem_cons_zero, List.getElem_cons_succ, List.setIfInBounds_toArray, List.set_cons_zero, List.set_cons_succ]
    refine wpAnyH_take (i := 1) (v := ?_) rfl (by kernel_rfl) (by kernel_rfl) (by kernel_rfl) (fun _ _ _ h => h) (Or.inl ⟨by rfl, ?_⟩) S0.out ?_
    rotate_left
    · intro w _; go_simp; with_reducible rfl
    try simp only [Act.put, List.getElem_toArray, List.getElem_cons_zero, List.getElem_cons_succ, List.setIfInBounds_toArray, List.set_cons_zero, List.set_cons_succ]
    refine wpAnyH_take (i := 2) (v := ?_) rfl (by kernel_rfl) (by kernel_rfl) (by kernel_rfl) (fun _ _ _ h => h) (Or.inl ⟨by rfl, ?_⟩) S0.out ?_
    rotate_left
    · intro w _; go_simp; with_reducible rfl
    try simp only [Act.put, List.getElem_toArray, List.getElem_cons_zero, List.getElem_cons_succ, List.setIfInBounds_toArray, List.set_cons_zero, List.set_cons_succ]
    refine wpAnyH_take (i := 4) (v := ?_) rfl (by kernel_rfl) (by kernel_rfl) (by kernel_rfl) (fun _ _ _ h => h) (Or.inl ⟨by rfl, ?_⟩) S0.out ?_
    rotate_left
    · intro w _; go_simp; with_reducible rfl
    try simp only [Act.put, List.getElem_toArray, List.getElem_cons_zero, List.getElem_cons_succ, List.setIfInBounds_toArray, List.set_cons_zero, List.set_cons_succ]
    refine wpAnyH_ready (rs := [3]) (by kernel_rfl) (by simp) ?_
    refine AllReadyH.cons rfl (fun K hK => ?_) AllReadyH.nil
    go_simp
    refine (HDZ.out w10 z (HK.out.below0 S0.out.1) (HM.out.below0 S0.out.1) HZ8.out).mono ?_
    rw [HLA.out]
    rintro e Y1 ⟨v1, rfl, hv1, hb1⟩
    obtain ⟨Av1, qv1, cv1, rfl, _, _, hmv1, _⟩ := hv1.form
    have S_2 := kept (HKEEP.out _ _ S0.out hb1)
    clear S0
    have V_1 := kept hmv1
    clear hv1 hb1 hmv1
    refine hK.out _ _ S_2.out (fun _ => ?_)
    clear hK K
    try simp only [Act.put, List.getElem_toArray, List.getElem_cons_zero, List.getElem_cons_succ, List.setIfInBounds_toArray, List.set_cons_zero, List.set_cons_succ]
    refine wpAnyH_ready (rs := [5]) (by kernel_rfl) (by simp) ?_
    refine AllReadyH.cons rfl (fun K hK => ?_) AllReadyH.nil
    go_simp
    refine (same_d Y1 qv1 qa Av1 Aa la.length la.length cv1 ca la la rfl rfl (by omega) V_1.out S_2.out.2.1 rfl).mono ?_
    rintro e Y3 ⟨rfl, hb3⟩
    have S_4 := kept (HKEEP.out _ _ S_2.out hb3)
    clear S_2
    refine hK.out _ _ S_4.out (fun _ => ?_)
    clear hK K
    try simp only [Act.put, List.getElem_toArray, List.getElem_cons_zero, List.getElem_cons_succ, List.setIfInBounds_toArray, List.set_cons_zero, List.set_cons_succ]
    refine wpAnyH_take (i := 6) (v := ?_) rfl (by kernel_rfl) (by kernel_rfl) (by kernel_rfl) (fun _ _ _ h => h) (Or.inl ⟨by rfl, ?_⟩) S_4.out ?_
    rotate_left
    · intro w _; go_simp; with_reducible rfl
    try simp only [Act.put, List.getElem_toArray, List.getElem_cons_zero, List.getElem_cons_succ, List.setIfInBounds_toArray, List.set_cons_zero, List.set_cons_succ]
    refine wpAnyH_take (i := 7) (v := ?_) rfl (by kernel_rfl) (by kernel_rfl) (by kernel_rfl) (fun _ _ _ h => h) (Or.inl ⟨by rfl, ?_⟩) S_4.out ?_
    rotate_left
    · intro w _; go_simp; with_reducible rfl
    try simp only [Act.put, List.getElem_toArray, List.getElem_cons_zero, List.getElem_cons_succ, List.setIfInBounds_toArray, List.set_cons_zero, List.set_cons_succ]
    refine wpAnyH_take (i := 8) (v := ?_) rfl (by kernel_rfl) (by kernel_rfl) (by kernel_rfl) (fun _ _ _ h => h) (Or.inl ⟨by rfl, ?_⟩) S_4.out ?_
    rotate_left
    · intro w _; go_simp; with_reducible rfl
    try simp only [Act.put, List.getElem_toArray, List.getElem_cons_zero, List.getElem_cons_succ, List.setIfInBounds_toArray, List.set_cons_zero, List.set_cons_succ]
    refine wpAnyH_take (i := 9) (v := ?_) rfl (by kernel_rfl) (by kernel_rfl) (by kernel_rfl) (fun _ _ _ h => h) (Or.inl ⟨by rfl, ?_⟩) S_4.out ?_
    rotate_left
    · intro w _; go_simp; with_reducible rfl
    try simp only [Act.put, List.getElem_toArray, List.getElem_cons_zero, List.getElem_cons_succ, List.setIfInBounds_toArray, List.set_cons_zero, List.set_cons_succ]
    refine wpAnyH_ready (rs := [10]) (by kernel_rfl) (by simp) ?_
    refine AllReadyH.cons rfl (fun K hK => ?_) AllReadyH.nil
    go_simp
    refine (HRZ.out Y3 16 (HM.out.below0 S_4.out.1) (by omega)).mono ?_
    rw [HDX.out]
    rintro e Y5 ⟨v5, rfl, hv5, hb5⟩
    obtain ⟨Av5, qv5, cv5, rfl, _, _, hmv5, _⟩ := hv5.form
    rw [HDXL.out]
    have S_6 := kept (HKEEP.out _ _ S_4.out hb5)
    clear S_4
    have V_5 := kept hmv5
    clear hv5 hb5 hmv5
    refine hK.out _ _ S_6.out (fun _ => ?_)
    clear hK K
    try simp only [Act.put, List.getElem_toArray, List.getElem_cons_zero, List.getElem_cons_succ, List.setIfInBounds_toArray, List.set_cons_zero, List.set_cons_succ]
    refine wpAnyH_ready (rs := [11]) (by kernel_rfl) (by simp) ?_
    refine AllReadyH.cons rfl (fun K hK => ?_) AllReadyH.nil
    go_simp
    refine (same_d Y5 gX qv5 (some ⟨gX, 0, none⟩) Av5 16 16 16 cv5 DX DX HDXL.out.symm HDXL.out.symm (by rw [HDXL.out]; omega) (mem_blk S_6.out.2.2) V_5.out rfl).mono ?_
    rintro e Y7 ⟨rfl, hb7⟩
    have S_8 := kept (HKEEP.out _ _ S_6.out hb7)
    clear S_6
    refine hK.out _ _ S_8.out (fun _ => ?_)
    clear hK K
    try simp only [Act.put, List.getElem_toArray, List.getElem_cons_zero, List.getElem_cons_succ, List.setIfInBounds_toArray, List.set_cons_zero, List.set_cons_succ]
    refine wpAnyH_take (i := 12) (v := ?_) rfl (by kernel_rfl) (by kernel_rfl) (by kernel_rfl) (fun _ _ _ h => h) (Or.inl ⟨by rfl, ?_⟩) S_8.out ?_
    rotate_left
    · intro w _; go_simp; with_reducible rfl
    try simp only [Act.put, List.getElem_toArray, List.getElem_cons_zero, List.getElem_cons_succ, List.setIfInBounds_toArray, List.set_cons_zero, List.set_cons_succ]
    refine wpAnyH_take (i := 13) (v := ?_) rfl (by kernel_rfl) (by kernel_rfl) (by kernel_rfl) (fun _ _ _ h => h) (Or.inl ⟨by rfl, ?_⟩) S_8.out ?_
    rotate_left
    · intro w _; go_simp; with_reducible rfl
    try simp only [Act.put, List.getElem_toArray, List.getElem_cons_zero, List.getElem_cons_succ, List.setIfInBounds_toArray, List.set_cons_zero, List.set_cons_succ]
    refine wpAnyH_done (by kernel_rfl) ?_ _
    go_wp2
    go_ret
    exact ⟨rfl, S_8.out.1⟩
set_option maxHeartbeats 16000000 in
set_option maxRecDepth 100000 in
theorem walk_zero (w : World) (q : Nat) (A : Option Addr) (c : Nat) (k : List UInt8) (s : ByteArray) (z : Int) (m : Nat) (hK : KAt w) (hm : Mem w q A k) (hc : k.length ≤ c) (hk : k.length ≤ 200) (hs : s.size ≤ 100) (hz : z ≤ 500) (hzm : -9223372036854775808 ≤ z) (hm8 : m < 256) (hway : (derZ k s.data.toList z).length = m) :
    Calls Tryd.prog 4 #[.slice A k.length c, .string s, .int .i64 z, .int .u8 (m : Int)] w fun e w' => e = .returned (.bool true) ∧ Below w.heap.size w w' := by
  have HK := kept hK
  have HM := kept hm
  have hd1 : decide ((200 : Int) < (k.length : Int)) = false := by rw [decide_eq_false_iff_not]; omega
  have hd2 : decide ((100 : Int) < (s.size : Int)) = false := by rw [decide_eq_false_iff_not]; omega
  have hd3 : decide ((500 : Int) < z) = false := by rw [decide_eq_false_iff_not]; omega
  have hsl : s.data.toList.length ≤ 100 := by rw [Array.length_toList]; exact hs
  have HDZ := kept (fun (w' : World) (z' : Int) (hk' : KAt w') (a : Mem w' q A k) (hz' : z' ≤ 8160) => derive_z w' q A k.length c k s z' hk' rfl a hc (by omega) (by omega) hz')
  have HRZ := kept (fun (w' : World) (z' : Int) (a : Mem w' q A k) (hz' : z' ≤ 8160) => rder_z w' q A k.length c k s z' rfl a (by omega) (by omega) hz')
  have HKY := kept (fun (w' : World) (hk' : KAt w') (a : Mem w' q A k) => key_any w' q A k.length c k s hk' rfl a hc (by omega) (by omega))
  have HZ := kept hz
  have HDN := kept (fun (w' : World) (n : Nat) (hk' : KAt w') (a : Mem w' q A k) (hn : n ≤ 8160) => derive_yes w' q A k.length c k s n hk' rfl a hc (by omega) (by omega) hn)
  obtain ⟨lab, hlab⟩ : ∃ l, s.data.toList = l := ⟨_, rfl⟩
  rw [hlab] at HDZ HRZ HKY HDN
  have hal := derZ_len k lab z
  have hdt := fun n h => derZ_take k lab z n h
  obtain ⟨la, hla⟩ : ∃ l, derZ k lab z = l := ⟨_, rfl⟩
  rw [hlab, hla] at hway
  rw [hla] at hal hdt
  have hla500 : la.length ≤ 500 := by omega
  have HLA := kept hla
  have HDT := kept hdt
  clear hK hm hc hs hk hz hsl hlab hla hal hdt
  subst hway
  go_enter Tryd.func4, Tryd.ntmps4
  go_wp2_with fail
  refine (mawake_any _ HK.out).mono ?_
  rintro e w1 ⟨rfl, b1⟩
  have HB1 := kept b1
  clear b1
  go_wp2_with fail
  refine (HDZ.out w1 z (HK.out.below0 HB1.out) (HM.out.below0 HB1.out) (by have := HZ.out; omega)).mono ?_
  rw [HLA.out]
  rintro e w2 ⟨va, rfl, ho2, b2⟩
  obtain ⟨Aa, qa, ca, rfl, hca, hcma, hma, _⟩ := ho2.form
  have HB2 := kept (HB1.out.trans (b2.mono HB1.out.size))
  have HA2 := kept hma
  have HOA2 := kept ho2
  clear ho2 b2 hma
  go_wp2_with fail
  refine (HRZ.out w2 z (HM.out.below0 HB2.out) (by have := HZ.out; omega)).mono ?_
  rw [HLA.out]
  rintro e w3 ⟨vr, rfl, ho3, b3⟩
  obtain ⟨Ar, qr, cr, rfl, _, _, hmr, _⟩ := ho3.form
  have HA3 := kept (HA2.out.below0 b3)
  have HOA3 := kept (HOA2.out.below b3)
  have HB3 := kept (HB2.out.trans (b3.mono HB2.out.size))
  have HR3 := kept hmr
  clear ho3 b3 hmr
  go_wp2_with fail
  refine (same_d w3 qa qr Aa Ar la.length la.length ca cr la la rfl rfl (by omega) HA3.out HR3.out rfl).mono ?_
  rintro e w4 ⟨rfl, b4⟩
  have HA4 := kept (HA3.out.below0 b4)
  have HOA4 := kept (HOA3.out.below b4)
  have HB4 := kept (HB3.out.trans (b4.mono HB3.out.size))
  clear b4 HA2 HA3 HR3 HOA2 HOA3
  have HQA := kept (show la = [] ∨ qa < w4.heap.size by
    by_cases e : la = []
    · exact .inl e
    · exact .inr (HA4.out.lt e))
  have hx : True := trivial
  have hca0 : (0 : Int) ≤ (ca : Int) := by omega
  have HTK := kept (show la.take 0 = derive k lab 0 from HDT.out 0 (Nat.zero_le _))
  have hdb := derive_len k lab 0
  obtain ⟨DB, hDB⟩ : ∃ D, derive k lab 0 = D := ⟨_, rfl⟩
  have HDB := kept hDB
  rw [hDB] at HTK hdb
  have HDBL := kept hdb
  clear hDB hdb
  go_wp2_with fail
  refine (HDN.out w4 0 (HK.out.below0 HB4.out) (HM.out.below0 HB4.out) (by omega)).mono ?_
  rw [HDB.out]
  rintro e w5 ⟨vb, rfl, ho5, b5⟩
  obtain ⟨Ab, qb, cb, rfl, _, _, hmb, hfb, _⟩ := ho5.form
  rw [HDBL.out] at ho5
  rw [HDBL.out]
  have HO5 := kept ho5
  have HMB := kept hmb
  have HA5 := kept (HA4.out.below0 b5)
  have HB5 := kept (HB4.out.trans (b5.mono HB4.out.size))
  have HS5 := kept (show w.heap.size ≤ w4.heap.size ∧ w4.heap.size ≤ w5.heap.size from ⟨HB4.out.size, b5.size⟩)
  clear ho5 b5 hmb hfb hx
  go_wp2_with fail
  refine (same_d w5 qb qa _ Aa 0 0 cb ca DB (la.take 0) HDBL.out.symm (by rw [HTK.out, HDBL.out]) (by rw [HDBL.out]; omega) HMB.out (HA5.out.take 0) HTK.out.symm).mono ?_
  rintro e w6 ⟨rfl, b6⟩
  have HA6 := kept (HA5.out.below0 b6)
  have HB6 := kept (HB5.out.trans (b6.mono HB5.out.size))
  have HO6 := kept (HO5.out.below b6)
  have HS6 := kept (show w4.heap.size ≤ w6.heap.size by have := HS5.out; have := b6.size; omega)
  clear b6 HA4 HA5 HB5 HO5 HMB HOA4
  go_wp2_with fail
  go_loopw [12] (fun i wr => i = .int .i64 0 ∧ Kept (Mem wr qa Aa la) ∧ Kept (Below w.heap.size w wr)) (fun _ _ => 0)
  case atStart => exact ⟨rfl, HA6, HB6⟩
  case round =>
    obtain ⟨rfl, HA7, HB7⟩ := hrel
    rename World => w7
    clear HA6 HB6
    have hdx := derive_len k lab 16
    obtain ⟨DX, hDX⟩ : ∃ D, derive k lab 16 = D := ⟨_, rfl⟩
    rw [hDX] at HKY hdx
    have HDX := kept (show derZ k lab 16 = DX by rw [← hDX]; rfl)
    have HDXL := kept hdx
    clear hdx hDX
    go_wp2_with fail
    refine (HKY.out w7 (HK.out.below0 HB7.out) (HM.out.below0 HB7.out)).mono ?_
    rintro e w8 ⟨rfl, b8⟩
    go_upto_region 15 with (refine wpList_store_row rfl 32 _ _ rfl w8.heap.size (DX.map bv).toArray rfl rfl 32 (Array.replicate 16 (.int .u8 0)) (Blk.new w8 _ _) (by rw [b16_size]; simp [HDXL.out]) (by simp [HDXL.out]) (padded_one DX) ?_)
    go_name_world w9 hW9
    have hb79 : Below w7.heap.size w7 w9 := by rw [← hW9]; exact below_setRow (b8.alloc b8.size _) b8.size _
    have hX9 : Blk w9 w8.heap.size 32 (DX.map bv).toArray := by rw [← hW9]; exact setRow_heap _ _ _ _ _ _ (Blk.new w8 _ _)
    have hS9 : (fun w' : World => Below w.heap.size w w' ∧ Mem w' qa Aa la ∧ Blk w' w8.heap.size 32 (DX.map bv).toArray) w9.drew := ⟨(HB7.out.trans (hb79.mono HB7.out.size)).drew, (HA7.out.below0 hb79).drew, hX9.drew⟩
    clear hW9 b8 hb79 hX9
    obtain ⟨gX, hgX⟩ : ∃ g, w8.heap.size = g := ⟨_, rfl⟩
    rw [hgX] at hS9
    rw [hgX]
    clear hgX
    have S0 := kept hS9
    have HKEEP := kept (fun (w' w'' : World) (h : Below w.heap.size w w' ∧ Mem w' qa Aa la ∧ Blk w' gX 32 (DX.map bv).toArray) (hb : Below w'.heap.size w' w'') => (show Below w.heap.size w w'' ∧ Mem w'' qa Aa la ∧ Blk w'' gX 32 (DX.map bv).toArray from ⟨h.1.trans (hb.mono h.1.size), h.2.1.below0 hb, h.2.2.below hb h.2.2.lt⟩))
    have hz5 := HZ.out
    have HZ8 := kept (show z ≤ 8160 by omega)
    clear hS9 hz5
    refine wp_region_held_drew (S := fun w' : World => Below w.heap.size w w' ∧ Mem w' qa Aa la ∧ Blk w' gX 32 (DX.map bv).toArray) (by kernel_rfl) S0.out (fun _ => ?_)
    generalize w9.drew = w10 at S0 ⊢
    refine wpAnyH_take (i := 0) (v := ?_) rfl (by kernel_rfl) (by kernel_rfl) (by kernel_rfl) (fun _ _ _ h => h) (Or.inl ⟨by rfl, ?_⟩) S0.out ?_
    rotate_left
    · intro w _; go_simp; with_reducible rfl
    try simp only [Act.put, List.getElem_toArray, List.getElem_cons_zero, List.getElem_cons_succ, List.setIfInBounds_toArray, List.set_cons_zero, List.set_cons_succ]
    refine wpAnyH_take (i := 1) (v := ?_) rfl (by kernel_rfl) (by kernel_rfl) (by kernel_rfl) (fun _ _ _ h => h) (Or.inl ⟨by rfl, ?_⟩) S0.out ?_
    rotate_left
    · intro w _; go_simp; with_reducible rfl
    try simp only [Act.put, List.getElem_toArray, List.getElem_cons_zero, List.getElem_cons_succ, List.setIfInBounds_toArray, List.set_cons_zero, List.set_cons_succ]
    refine wpAnyH_take (i := 2) (v := ?_) rfl (by kernel_rfl) (by kernel_rfl) (by kernel_rfl) (fun _ _ _ h => h) (Or.inl ⟨by rfl, ?_⟩) S0.out ?_
    rotate_left
    · intro w _; go_simp; with_reducible rfl
    try simp only [Act.put, List.getElem_toArray, List.getElem_cons_zero, List.getElem_cons_succ, List.setIfInBounds_toArray, List.set_cons_zero, List.set_cons_succ]
    refine wpAnyH_take (i := 4) (v := ?_) rfl (by kernel_rfl) (by kernel_rfl) (by kernel_rfl) (fun _ _ _ h => h) (Or.inl ⟨by rfl, ?_⟩) S0.out ?_
    rotate_left
    · intro w _; go_simp; with_reducible rfl
    try simp only [Act.put, List.getElem_toArray, List.getElem_cons_zero, List.getElem_cons_succ, List.setIfInBounds_toArray, List.set_cons_zero, List.set_cons_succ]
    refine wpAnyH_ready (rs := [3]) (by kernel_rfl) (by simp) ?_
    refine AllReadyH.cons rfl (fun K hK => ?_) AllReadyH.nil
    go_simp
    refine (HDZ.out w10 z (HK.out.below0 S0.out.1) (HM.out.below0 S0.out.1) HZ8.out).mono ?_
    rw [HLA.out]
    rintro e Y1 ⟨v1, rfl, hv1, hb1⟩
    obtain ⟨Av1, qv1, cv1, rfl, _, _, hmv1, _⟩ := hv1.form
    have S_2 := kept (HKEEP.out _ _ S0.out hb1)
    clear S0
    have V_1 := kept hmv1
    clear hv1 hb1 hmv1
    refine hK.out _ _ S_2.out (fun _ => ?_)
    clear hK K
    try simp only [Act.put, List.getElem_toArray, List.getElem_cons_zero, List.getElem_cons_succ, List.setIfInBounds_toArray, List.set_cons_zero, List.set_cons_succ]
    refine wpAnyH_ready (rs := [5]) (by kernel_rfl) (by simp) ?_
    refine AllReadyH.cons rfl (fun K hK => ?_) AllReadyH.nil
    go_simp
    refine (same_d Y1 qv1 qa Av1 Aa la.length la.length cv1 ca la la rfl rfl (by omega) V_1.out S_2.out.2.1 rfl).mono ?_
    rintro e Y3 ⟨rfl, hb3⟩
    have S_4 := kept (HKEEP.out _ _ S_2.out hb3)
    clear S_2
    refine hK.out _ _ S_4.out (fun _ => ?_)
    clear hK K
    try simp only [Act.put, List.getElem_toArray, List.getElem_cons_zero, List.getElem_cons_succ, List.setIfInBounds_toArray, List.set_cons_zero, List.set_cons_succ]
    refine wpAnyH_take (i := 6) (v := ?_) rfl (by kernel_rfl) (by kernel_rfl) (by kernel_rfl) (fun _ _ _ h => h) (Or.inl ⟨by rfl, ?_⟩) S_4.out ?_
    rotate_left
    · intro w _; go_simp; with_reducible rfl
    try simp only [Act.put, List.getElem_toArray, List.getElem_cons_zero, List.getElem_cons_succ, List.setIfInBounds_toArray, List.set_cons_zero, List.set_cons_succ]
    refine wpAnyH_take (i := 7) (v := ?_) rfl (by kernel_rfl) (by kernel_rfl) (by kernel_rfl) (fun _ _ _ h => h) (Or.inl ⟨by rfl, ?_⟩) S_4.out ?_
    rotate_left
    · intro w _; go_simp; with_reducible rfl
    try simp only [Act.put, List.getElem_toArray, List.getElem_cons_zero, List.getElem_cons_succ, List.setIfInBounds_toArray, List.set_cons_zero, List.set_cons_succ]
    refine wpAnyH_take (i := 8) (v := ?_) rfl (by kernel_rfl) (by kernel_rfl) (by kernel_rfl) (fun _ _ _ h => h) (Or.inl ⟨by rfl, ?_⟩) S_4.out ?_
    rotate_left
    · intro w _; go_simp; with_reducible rfl
    try simp only [Act.put, List.getElem_toArray, List.getElem_cons_zero, List.getElem_cons_succ, List.setIfInBounds_toArray, List.set_cons_zero, List.set_cons_succ]
    refine wpAnyH_take (i := 9) (v := ?_) rfl (by kernel_rfl) (by kernel_rfl) (by kernel_rfl) (fun _ _ _ h => h) (Or.inl ⟨by rfl, ?_⟩) S_4.out ?_
    rotate_left
    · intro w _; go_simp; with_reducible rfl
    try simp only [Act.put, List.getElem_toArray, List.getElem_cons_zero, List.getElem_cons_succ, List.setIfInBounds_toArray, List.set_cons_zero, List.set_cons_succ]
    refine wpAnyH_ready (rs := [10]) (by kernel_rfl) (by simp) ?_
    refine AllReadyH.cons rfl (fun K hK => ?_) AllReadyH.nil
    go_simp
    refine (HRZ.out Y3 16 (HM.out.below0 S_4.out.1) (by omega)).mono ?_
    rw [HDX.out]
    rintro e Y5 ⟨v5, rfl, hv5, hb5⟩
    obtain ⟨Av5, qv5, cv5, rfl, _, _, hmv5, _⟩ := hv5.form
    rw [HDXL.out]
    have S_6 := kept (HKEEP.out _ _ S_4.out hb5)
    clear S_4
    have V_5 := kept hmv5
    clear hv5 hb5 hmv5
    refine hK.out _ _ S_6.out (fun _ => ?_)
    clear hK K
    try simp only [Act.put, List.getElem_toArray, List.getElem_cons_zero, List.getElem_cons_succ, List.setIfInBounds_toArray, List.set_cons_zero, List.set_cons_succ]
    refine wpAnyH_ready (rs := [11]) (by kernel_rfl) (by simp) ?_
    refine AllReadyH.cons rfl (fun K hK => ?_) AllReadyH.nil
    go_simp
    refine (same_d Y5 gX qv5 (some ⟨gX, 0, none⟩) Av5 16 16 16 cv5 DX DX HDXL.out.symm HDXL.out.symm (by rw [HDXL.out]; omega) (mem_blk S_6.out.2.2) V_5.out rfl).mono ?_
    rintro e Y7 ⟨rfl, hb7⟩
    have S_8 := kept (HKEEP.out _ _ S_6.out hb7)
    clear S_6
    refine hK.out _ _ S_8.out (fun _ => ?_)
    clear hK K
    try simp only [Act.put, List.getElem_toArray, List.getElem_cons_zero, List.getElem_cons_succ, List.setIfInBounds_toArray, List.set_cons_zero, List.set_cons_succ]
    refine wpAnyH_take (i := 12) (v := ?_) rfl (by kernel_rfl) (by kernel_rfl) (by kernel_rfl) (fun _ _ _ h => h) (Or.inl ⟨by rfl, ?_⟩) S_8.out ?_
    rotate_left
    · intro w _; go_simp; with_reducible rfl
    try simp only [Act.put, List.getElem_toArray, List.getElem_cons_zero, List.getElem_cons_succ, List.setIfInBounds_toArray, List.set_cons_zero, List.set_cons_succ]
    refine wpAnyH_take (i := 13) (v := ?_) rfl (by kernel_rfl) (by kernel_rfl) (by kernel_rfl) (fun _ _ _ h => h) (Or.inl ⟨by rfl, ?_⟩) S_8.out ?_
    rotate_left
    · intro w _; go_simp; with_reducible rfl
    try simp only [Act.put, List.getElem_toArray, List.getElem_cons_zero, List.getElem_cons_succ, List.setIfInBounds_toArray, List.set_cons_zero, List.set_cons_succ]
    refine wpAnyH_done (by kernel_rfl) ?_ _
    go_wp2
    go_ret
    exact ⟨rfl, S_8.out.1⟩
set_option maxHeartbeats 16000000 in
set_option maxRecDepth 100000 in
theorem walk_some (w : World) (q : Nat) (A : Option Addr) (c : Nat) (k : List UInt8) (s : ByteArray) (z : Int) (m : Nat) (hK : KAt w) (hm : Mem w q A k) (hc : k.length ≤ c) (hk : k.length ≤ 200) (hs : s.size ≤ 100) (hz : z ≤ 500) (hzm : -9223372036854775808 ≤ z) (hm8 : m < 256) (hway : m < (derZ k s.data.toList z).length) :
    Calls Tryd.prog 4 #[.slice A k.length c, .string s, .int .i64 z, .int .u8 (m : Int)] w fun e w' => e = .returned (.bool true) ∧ Below w.heap.size w w' := by
  have HK := kept hK
  have HM := kept hm
  have hd1 : decide ((200 : Int) < (k.length : Int)) = false := by rw [decide_eq_false_iff_not]; omega
  have hd2 : decide ((100 : Int) < (s.size : Int)) = false := by rw [decide_eq_false_iff_not]; omega
  have hd3 : decide ((500 : Int) < z) = false := by rw [decide_eq_false_iff_not]; omega
  have hsl : s.data.toList.length ≤ 100 := by rw [Array.length_toList]; exact hs
  have HDZ := kept (fun (w' : World) (z' : Int) (hk' : KAt w') (a : Mem w' q A k) (hz' : z' ≤ 8160) => derive_z w' q A k.length c k s z' hk' rfl a hc (by omega) (by omega) hz')
  have HRZ := kept (fun (w' : World) (z' : Int) (a : Mem w' q A k) (hz' : z' ≤ 8160) => rder_z w' q A k.length c k s z' rfl a (by omega) (by omega) hz')
  have HKY := kept (fun (w' : World) (hk' : KAt w') (a : Mem w' q A k) => key_any w' q A k.length c k s hk' rfl a hc (by omega) (by omega))
  have HZ := kept hz
  have HDN := kept (fun (w' : World) (n : Nat) (hk' : KAt w') (a : Mem w' q A k) (hn : n ≤ 8160) => derive_yes w' q A k.length c k s n hk' rfl a hc (by omega) (by omega) hn)
  obtain ⟨lab, hlab⟩ : ∃ l, s.data.toList = l := ⟨_, rfl⟩
  rw [hlab] at HDZ HRZ HKY HDN
  have hal := derZ_len k lab z
  have hdt := fun n h => derZ_take k lab z n h
  obtain ⟨la, hla⟩ : ∃ l, derZ k lab z = l := ⟨_, rfl⟩
  rw [hlab, hla] at hway
  rw [hla] at hal hdt
  have hla500 : la.length ≤ 500 := by omega
  have HLA := kept hla
  have HDT := kept hdt
  clear hK hm hc hs hk hz hsl hlab hla hal hdt
  go_enter Tryd.func4, Tryd.ntmps4
  go_wp2_with fail
  refine (mawake_any _ HK.out).mono ?_
  rintro e w1 ⟨rfl, b1⟩
  have HB1 := kept b1
  clear b1
  go_wp2_with fail
  refine (HDZ.out w1 z (HK.out.below0 HB1.out) (HM.out.below0 HB1.out) (by have := HZ.out; omega)).mono ?_
  rw [HLA.out]
  rintro e w2 ⟨va, rfl, ho2, b2⟩
  obtain ⟨Aa, qa, ca, rfl, hca, hcma, hma, _⟩ := ho2.form
  have HB2 := kept (HB1.out.trans (b2.mono HB1.out.size))
  have HA2 := kept hma
  have HOA2 := kept ho2
  clear ho2 b2 hma
  go_wp2_with fail
  refine (HRZ.out w2 z (HM.out.below0 HB2.out) (by have := HZ.out; omega)).mono ?_
  rw [HLA.out]
  rintro e w3 ⟨vr, rfl, ho3, b3⟩
  obtain ⟨Ar, qr, cr, rfl, _, _, hmr, _⟩ := ho3.form
  have HA3 := kept (HA2.out.below0 b3)
  have HOA3 := kept (HOA2.out.below b3)
  have HB3 := kept (HB2.out.trans (b3.mono HB2.out.size))
  have HR3 := kept hmr
  clear ho3 b3 hmr
  go_wp2_with fail
  refine (same_d w3 qa qr Aa Ar la.length la.length ca cr la la rfl rfl (by omega) HA3.out HR3.out rfl).mono ?_
  rintro e w4 ⟨rfl, b4⟩
  have HA4 := kept (HA3.out.below0 b4)
  have HOA4 := kept (HOA3.out.below b4)
  have HB4 := kept (HB3.out.trans (b4.mono HB3.out.size))
  clear b4 HA2 HA3 HR3 HOA2 HOA3
  have HQA := kept (show la = [] ∨ qa < w4.heap.size by
    by_cases e : la = []
    · exact .inl e
    · exact .inr (HA4.out.lt e))
  obtain ⟨kk, hkk⟩ : ∃ n : Nat, la.length - m = n := ⟨_, rfl⟩
  have hx : (la.length : Int) - (m : Int) = (kk : Int) := by omega
  have hkp : (0 : Int) < (kk : Int) := by omega
  have hk500 : kk ≤ 500 := by omega
  have hca0 : (kk : Int) ≤ (ca : Int) := by omega
  have hk0 : (0 : Int) ≤ (kk : Int) := by omega
  have HTK := kept (show la.take kk = derive k lab kk from HDT.out kk (by omega))
  have hdb := derive_len k lab kk
  obtain ⟨DB, hDB⟩ : ∃ D, derive k lab kk = D := ⟨_, rfl⟩
  have HDB := kept hDB
  rw [hDB] at HTK hdb
  have HDBL := kept hdb
  clear hDB hdb hway hkk
  go_wp2_with fail
  refine (HDN.out w4 kk (HK.out.below0 HB4.out) (HM.out.below0 HB4.out) (by omega)).mono ?_
  rw [HDB.out]
  rintro e w5 ⟨vb, rfl, ho5, b5⟩
  obtain ⟨Ab, qb, cb, rfl, _, _, hmb, hfb, _⟩ := ho5.form
  rw [HDBL.out] at ho5
  rw [HDBL.out]
  have HO5 := kept ho5
  have HMB := kept hmb
  have HA5 := kept (HA4.out.below0 b5)
  have HB5 := kept (HB4.out.trans (b5.mono HB4.out.size))
  have HS5 := kept (show w.heap.size ≤ w4.heap.size ∧ w4.heap.size ≤ w5.heap.size from ⟨HB4.out.size, b5.size⟩)
  obtain ⟨_, rfl, _⟩ := hfb (by intro e; have := HDBL.out; rw [e] at this; simp at this; omega)
  clear ho5 b5 hmb hfb hx
  go_wp2_with fail
  refine (same_d w5 qb qa _ Aa kk kk cb ca DB (la.take kk) HDBL.out.symm (by rw [HTK.out, HDBL.out]) (by rw [HDBL.out]; omega) HMB.out (HA5.out.take kk) HTK.out.symm).mono ?_
  rintro e w6 ⟨rfl, b6⟩
  have HA6 := kept (HA5.out.below0 b6)
  have HB6 := kept (HB5.out.trans (b6.mono HB5.out.size))
  have HO6 := kept (HO5.out.below b6)
  have HS6 := kept (show w4.heap.size ≤ w6.heap.size by have := HS5.out; have := b6.size; omega)
  clear b6 HA4 HA5 HB5 HO5 HMB HOA4
  go_wp2_with fail
  go_loopw [12] (fun i wr => ∃ (j : Nat) (l : List UInt8), j ≤ kk ∧ i = .int .i64 j ∧ Kept (l.length = kk) ∧ Kept (Own wr w4.heap.size (.slice (some ⟨qb, 0, none⟩) kk cb) l) ∧ Kept (Mem wr qa Aa la) ∧ Kept (Below w.heap.size w wr)) (fun i _ => kk - (intOf i).toNat)
  case atStart => exact ⟨0, DB, Nat.zero_le _, rfl, HDBL, HO6, HA6, HB6⟩
  case round =>
    obtain ⟨j, l, hj, rfl, HLL, HO7, HA7, HB7⟩ := hrel
    rename World => w7
    clear HO6 HA6 HB6 HS6
    by_cases hlt : j < kk
    · have hjl : j < l.length := by have := HLL.out; omega
      have hat := own_at HO7.out j hjl
      obtain ⟨hc7, hf7, hq7⟩ := hat
      have HSET := kept (own_set HO7.out j ((l[j]'hjl) + 1) hjl)
      have hadd : (((l[j]'hjl).toNat : Int) + 1) % 256 = (((l[j]'hjl) + 1).toNat : Int) := by rw [UInt8.toNat_add]; simp
      generalize (l[j]'hjl) = x at hc7 HSET hadd
      generalize x + 1 = y at HSET hadd
      have hxb : (x.toNat : Int) < 256 := by have := byte_lt x; omega
      have hj0 : (0 : Int) ≤ (j : Int) := by omega
      have hj1 : (j : Int) < (kk : Int) := by omega
      have HQ7 := kept hq7
      clear hq7 hjl
      go_wp2
      go_roundw
      case rel =>
        refine ⟨j + 1, l.set j y, by omega, by go_num, kept (by rw [List.length_set, HLL.out]), HSET, ?_, kept (HB7.out.setCell (p := ⟨qb, j, none⟩) (by have := HQ7.out; have := HS5.out; show w.heap.size ≤ qb; omega) _)⟩
        rcases HQA.out with h | h
        · exact kept (.inl h)
        · exact kept (HA7.out.setCell (p := ⟨qb, j, none⟩) (by have := HQ7.out; show qa ≠ qb; omega) _)
      case measure => simp [intOf]; omega
    · obtain rfl : j = kk := by omega
      have hdx := derive_len k lab 16
      obtain ⟨DX, hDX⟩ : ∃ D, derive k lab 16 = D := ⟨_, rfl⟩
      rw [hDX] at HKY hdx
      have HDX := kept (show derZ k lab 16 = DX by rw [← hDX]; rfl)
      have HDXL := kept hdx
      clear hdx hDX
      go_wp2_with fail
      refine (HKY.out w7 (HK.out.below0 HB7.out) (HM.out.below0 HB7.out)).mono ?_
      rintro e w8 ⟨rfl, b8⟩
      go_upto_region 15 with (refine wpList_store_row rfl 32 _ _ rfl w8.heap.size (DX.map bv).toArray rfl rfl 32 (Array.replicate 16 (.int .u8 0)) (Blk.new w8 _ _) (by rw [b16_size]; simp [HDXL.out]) (by simp [HDXL.out]) (padded_one DX) ?_)
      go_name_world w9 hW9
      have hb79 : Below w7.heap.size w7 w9 := by rw [← hW9]; exact below_setRow (b8.alloc b8.size _) b8.size _
      have hX9 : Blk w9 w8.heap.size 32 (DX.map bv).toArray := by rw [← hW9]; exact setRow_heap _ _ _ _ _ _ (Blk.new w8 _ _)
      have hS9 : (fun w' : World => Below w.heap.size w w' ∧ Mem w' qa Aa la ∧ Blk w' w8.heap.size 32 (DX.map bv).toArray) w9.drew := ⟨(HB7.out.trans (hb79.mono HB7.out.size)).drew, (HA7.out.below0 hb79).drew, hX9.drew⟩
      clear hW9 b8 hb79 hX9
      obtain ⟨gX, hgX⟩ : ∃ g, w8.heap.size = g := ⟨_, rfl⟩
      rw [hgX] at hS9
      rw [hgX]
      clear hgX
      have S0 := kept hS9
      have HKEEP := kept (fun (w' w'' : World) (h : Below w.heap.size w w' ∧ Mem w' qa Aa la ∧ Blk w' gX 32 (DX.map bv).toArray) (hb : Below w'.heap.size w' w'') => (show Below w.heap.size w w'' ∧ Mem w'' qa Aa la ∧ Blk w'' gX 32 (DX.map bv).toArray from ⟨h.1.trans (hb.mono h.1.size), h.2.1.below0 hb, h.2.2.below hb h.2.2.lt⟩))
      have hz5 := HZ.out
      have HZ8 := kept (show z ≤ 8160 by omega)
      clear hS9 hz5
      refine wp_region_held_drew (S := fun w' : World => Below w.heap.size w w' ∧ Mem w' qa Aa la ∧ Blk w' gX 32 (DX.map bv).toArray) (by kernel_rfl) S0.out (fun _ => ?_)
      generalize w9.drew = w10 at S0 ⊢
      refine wpAnyH_take (i := 0) (v := ?_) rfl (by kernel_rfl) (by kernel_rfl) (by kernel_rfl) (fun _ _ _ h => h) (Or.inl ⟨by rfl, ?_⟩) S0.out ?_
      rotate_left
      · intro w _; go_simp; with_reducible rfl
      try simp only [Act.put, List.getElem_toArray, List.getElem_cons_zero, List.getElem_cons_succ, List.setIfInBounds_toArray, List.set_cons_zero, List.set_cons_succ]
      refine wpAnyH_take (i := 1) (v := ?_) rfl (by kernel_rfl) (by kernel_rfl) (by kernel_rfl) (fun _ _ _ h => h) (Or.inl ⟨by rfl, ?_⟩) S0.out ?_
      rotate_left
      · intro w _; go_simp; with_reducible rfl
      try simp only [Act.put, List.getElem_toArray, List.getElem_cons_zero, List.getElem_cons_succ, List.setIfInBounds_toArray, List.set_cons_zero, List.set_cons_succ]
      refine wpAnyH_take (i := 2) (v := ?_) rfl (by kernel_rfl) (by kernel_rfl) (by kernel_rfl) (fun _ _ _ h => h) (Or.inl ⟨by rfl, ?_⟩) S0.out ?_
      rotate_left
      · intro w _; go_simp; with_reducible rfl
      try simp only [Act.put, List.getElem_toArray, List.getElem_cons_zero, List.getElem_cons_succ, List.setIfInBounds_toArray, List.set_cons_zero, List.set_cons_succ]
      refine wpAnyH_take (i := 4) (v := ?_) rfl (by kernel_rfl) (by kernel_rfl) (by kernel_rfl) (fun _ _ _ h => h) (Or.inl ⟨by rfl, ?_⟩) S0.out ?_
      rotate_left
      · intro w _; go_simp; with_reducible rfl
      try simp only [Act.put, List.getElem_toArray, List.getElem_cons_zero, List.getElem_cons_succ, List.setIfInBounds_toArray, List.set_cons_zero, List.set_cons_succ]
      refine wpAnyH_ready (rs := [3]) (by kernel_rfl) (by simp) ?_
      refine AllReadyH.cons rfl (fun K hK => ?_) AllReadyH.nil
      go_simp
      refine (HDZ.out w10 z (HK.out.below0 S0.out.1) (HM.out.below0 S0.out.1) HZ8.out).mono ?_
      rw [HLA.out]
      rintro e Y1 ⟨v1, rfl, hv1, hb1⟩
      obtain ⟨Av1, qv1, cv1, rfl, _, _, hmv1, _⟩ := hv1.form
      have S_2 := kept (HKEEP.out _ _ S0.out hb1)
      clear S0
      have V_1 := kept hmv1
      clear hv1 hb1 hmv1
      refine hK.out _ _ S_2.out (fun _ => ?_)
      clear hK K
      try simp only [Act.put, List.getElem_toArray, List.getElem_cons_zero, List.getElem_cons_succ, List.setIfInBounds_toArray, List.set_cons_zero, List.set_cons_succ]
      refine wpAnyH_ready (rs := [5]) (by kernel_rfl) (by simp) ?_
      refine AllReadyH.cons rfl (fun K hK => ?_) AllReadyH.nil
      go_simp
      refine (same_d Y1 qv1 qa Av1 Aa la.length la.length cv1 ca la la rfl rfl (by omega) V_1.out S_2.out.2.1 rfl).mono ?_
      rintro e Y3 ⟨rfl, hb3⟩
      have S_4 := kept (HKEEP.out _ _ S_2.out hb3)
      clear S_2
      refine hK.out _ _ S_4.out (fun _ => ?_)
      clear hK K
      try simp only [Act.put, List.getElem_toArray, List.getElem_cons_zero, List.getElem_cons_succ, List.setIfInBounds_toArray, List.set_cons_zero, List.set_cons_succ]
      refine wpAnyH_take (i := 6) (v := ?_) rfl (by kernel_rfl) (by kernel_rfl) (by kernel_rfl) (fun _ _ _ h => h) (Or.inl ⟨by rfl, ?_⟩) S_4.out ?_
      rotate_left
      · intro w _; go_simp; with_reducible rfl
      try simp only [Act.put, List.getElem_toArray, List.getElem_cons_zero, List.getElem_cons_succ, List.setIfInBounds_toArray, List.set_cons_zero, List.set_cons_succ]
      refine wpAnyH_take (i := 7) (v := ?_) rfl (by kernel_rfl) (by kernel_rfl) (by kernel_rfl) (fun _ _ _ h => h) (Or.inl ⟨by rfl, ?_⟩) S_4.out ?_
      rotate_left
      · intro w _; go_simp; with_reducible rfl
      try simp only [Act.put, List.getElem_toArray, List.getElem_cons_zero, List.getElem_cons_succ, List.setIfInBounds_toArray, List.set_cons_zero, List.set_cons_succ]
      refine wpAnyH_take (i := 8) (v := ?_) rfl (by kernel_rfl) (by kernel_rfl) (by kernel_rfl) (fun _ _ _ h => h) (Or.inl ⟨by rfl, ?_⟩) S_4.out ?_
      rotate_left
      · intro w _; go_simp; with_reducible rfl
      try simp only [Act.put, List.getElem_toArray, List.getElem_cons_zero, List.getElem_cons_succ, List.setIfInBounds_toArray, List.set_cons_zero, List.set_cons_succ]
      refine wpAnyH_take (i := 9) (v := ?_) rfl (by kernel_rfl) (by kernel_rfl) (by kernel_rfl) (fun _ _ _ h => h) (Or.inl ⟨by rfl, ?_⟩) S_4.out ?_
      rotate_left
      · intro w _; go_simp; with_reducible rfl
      try simp only [Act.put, List.getElem_toArray, List.getElem_cons_zero, List.getElem_cons_succ, List.setIfInBounds_toArray, List.set_cons_zero, List.set_cons_succ]
      refine wpAnyH_ready (rs := [10]) (by kernel_rfl) (by simp) ?_
      refine AllReadyH.cons rfl (fun K hK => ?_) AllReadyH.nil
      go_simp
      refine (HRZ.out Y3 16 (HM.out.below0 S_4.out.1) (by omega)).mono ?_
      rw [HDX.out]
      rintro e Y5 ⟨v5, rfl, hv5, hb5⟩
      obtain ⟨Av5, qv5, cv5, rfl, _, _, hmv5, _⟩ := hv5.form
      rw [HDXL.out]
      have S_6 := kept (HKEEP.out _ _ S_4.out hb5)
      clear S_4
      have V_5 := kept hmv5
      clear hv5 hb5 hmv5
      refine hK.out _ _ S_6.out (fun _ => ?_)
      clear hK K
      try simp only [Act.put, List.getElem_toArray, List.getElem_cons_zero, List.getElem_cons_succ, List.setIfInBounds_toArray, List.set_cons_zero, List.set_cons_succ]
      refine wpAnyH_ready (rs := [11]) (by kernel_rfl) (by simp) ?_
      refine AllReadyH.cons rfl (fun K hK => ?_) AllReadyH.nil
      go_simp
      refine (same_d Y5 gX qv5 (some ⟨gX, 0, none⟩) Av5 16 16 16 cv5 DX DX HDXL.out.symm HDXL.out.symm (by rw [HDXL.out]; omega) (mem_blk S_6.out.2.2) V_5.out rfl).mono ?_
      rintro e Y7 ⟨rfl, hb7⟩
      have S_8 := kept (HKEEP.out _ _ S_6.out hb7)
      clear S_6
      refine hK.out _ _ S_8.out (fun _ => ?_)
      clear hK K
      try simp only [Act.put, List.getElem_toArray, List.getElem_cons_zero, List.getElem_cons_succ, List.setIfInBounds_toArray, List.set_cons_zero, List.set_cons_succ]
      refine wpAnyH_take (i := 12) (v := ?_) rfl (by kernel_rfl) (by kernel_rfl) (by kernel_rfl) (fun _ _ _ h => h) (Or.inl ⟨by rfl, ?_⟩) S_8.out ?_
      rotate_left
      · intro w _; go_simp; with_reducible rfl
      try simp only [Act.put, List.getElem_toArray, List.getElem_cons_zero, List.getElem_cons_succ, List.setIfInBounds_toArray, List.set_cons_zero, List.set_cons_succ]
      refine wpAnyH_take (i := 13) (v := ?_) rfl (by kernel_rfl) (by kernel_rfl) (by kernel_rfl) (fun _ _ _ h => h) (Or.inl ⟨by rfl, ?_⟩) S_8.out ?_
      rotate_left
      · intro w _; go_simp; with_reducible rfl
      try simp only [Act.put, List.getElem_toArray, List.getElem_cons_zero, List.getElem_cons_succ, List.setIfInBounds_toArray, List.set_cons_zero, List.set_cons_succ]
      refine wpAnyH_done (by kernel_rfl) ?_ _
      go_wp2
      go_ret
      exact ⟨rfl, S_8.out.1⟩
end Go.Proofs.YtgplkdnffbappaaDoor.macDerives
