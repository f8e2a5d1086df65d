/-
  pad of package mac, by a contract.
-/
import Derived.Test.YtcjbplgjjhenkaaDoorSm17
import Derived.Laws.CopyOwn
import Derived.Deep.Cut
import Derived.Deep.RegionLaw
namespace Go.Proofs.YtcjbplgjjhenkaaDoor
open Go.RowKit
set_option linter.unusedVariables false
set_option linter.unusedSimpArgs false

theorem copy_zeros (l : List UInt8) (n : Nat) (h : l.length ≤ n) : ((gA n (fun _ => bv 0)).toList.take 0 ++ (l.map bv ++ (gA n (fun _ => bv 0)).toList.drop (0 + (l.map bv).length))).toArray = ((l ++ List.replicate (n - l.length) 0).map bv).toArray := by
  congr 1
  rw [List.take_zero, List.nil_append, List.map_append, List.length_map, Nat.zero_add]
  congr 1
  unfold gA
  apply List.ext_getElem?
  intro j
  simp only [List.getElem?_drop, List.getElem?_map, List.getElem?_replicate]
  by_cases hj : j < n - l.length
  · rw [List.getElem?_range (by omega)]
    simp [hj]
  · rw [List.getElem?_eq_none (by simp; omega)]
    simp [hj]
theorem mem_src {w : World} {q : Nat} {A : Option Addr} {l : List UInt8} (h : Mem w q A l) (ad : Addr) (hA : A = some ad) : ∀ j v, (l.map bv)[j]? = some v → w.cell? (ad.add j) = some v := by
  intro j v hv
  rw [List.getElem?_map] at hv
  cases hj : l[j]? with
  | none => rw [hj] at hv; cases hv
  | some b =>
    rw [hj] at hv
    simp only [Option.map_some, Option.some.injEq] at hv
    subst hv
    rcases h with h | ⟨o, h, hc⟩
    · subst h; simp at hj
    · rw [h] at hA
      injection hA with hA
      subst hA
      have := hc j b hj
      rw [Addr.add_mid]
      exact this
theorem copy_splice (l : List UInt8) (n : Nat) (h : l.length ≤ n) : (splice (gA n (fun _ => bv 0)).toList 0 (l.map bv)).toArray = ((l ++ List.replicate (n - l.length) 0).map bv).toArray := by
  rw [← copy_zeros l n h]
  rfl
theorem gA_len (n : Nat) (f : Nat → Value) : (gA n f).toList.length = n := by rw [Array.length_toList, gA_size]
theorem padded_one (l : List UInt8) : ((l.map bv).toArray).all (·.oneCell') = true := all_oneCell_toArray (oneCell_bv l)
set_option maxHeartbeats 4000000 in
set_option maxRecDepth 100000 in
theorem pad_short (w : World) (q : Nat) (A : Option Addr) (n c : Nat) (k : List UInt8) (hn : n = k.length) (hm : Mem w q A k) (hk : k.length ≤ 64) :
    Calls Tryd.prog 36 #[.slice A n c] w fun e w' => e = .returned (.agg ((padK k).map bv).toArray) ∧ Below w.heap.size w w' := by
  subst hn
  have HM := kept hm
  have HP := kept (show padK k = k ++ List.replicate (64 - k.length) 0 by unfold padK keyS; rw [if_neg (by omega)])
  have HPL := kept (padK_len k)
  have hd : ¬ ((64 : Int) < (k.length : Int)) := by omega
  clear hm
  go_enter Tryd.func36, Tryd.ntmps36
  go_upto_region 5 with fail
  go_name_world W0 hW0
  have HR0 := kept (show Blk W0 w.heap.size 67 (gA 64 (fun _ => bv 0)) by
    rw [← hW0, ← zeros_g]
    exact (Blk.new w _ _).alloc _)
  have HP0 := kept (show Blk W0 (w.heap.size + 1) 67 (gA 64 (fun _ => bv 0)) by
    rw [← hW0, ← zeros_g]
    have n2 := Blk.new (w.alloc (.cells (Array.replicate 64 (.int .u8 0)) 67)) 67 (Array.replicate 64 (.int .u8 0))
    simp only [World.size_alloc] at n2
    exact n2)
  have HW0 := kept (show Below w.heap.size w W0 by
    rw [← hW0]
    exact ((Below.refl _ _).alloc (Nat.le_refl _) _).alloc (by simp) _)
  clear hW0
  have hpos : 0 < (k.map bv).length → ∃ ad, A = some ad ∧ ∀ j v, (k.map bv)[j]? = some v → W0.cell? (ad.add j) = some v := by
    intro hp
    rcases HM.out.below0 HW0.out with h | ⟨o, ho, hc⟩
    · rw [h] at hp; simp at hp
    · exact ⟨_, ho, mem_src (q := q) (.inr ⟨o, ho, hc⟩) _ ho⟩
  have HPOS := kept hpos
  clear hpos
  go_wp2_with (refine wpList_copy_splice rfl (.tmp 14) (.tmp 15) 24 24 rfl 5 Tryd.underlying24 u8_size (some ⟨w.heap.size + 1, 0, none⟩) A 64 64 k.length c rfl rfl (w.heap.size + 1) 0 (gA 64 (fun _ => bv 0)).toList 67 HP0.out (k.map bv) (by rw [List.length_map]; exact (Nat.min_eq_left hk).symm) (fun hp => ⟨rfl, HPOS.out hp⟩) (by rw [gA_len, List.length_map]; omega) (oneCell_bv k) (w.heap.size + 1) W0 (Below.refl _ _) (Nat.le_refl _) ?_)
  intro W1 hg1 hb1
  have HP1 := kept (show Blk W1 (w.heap.size + 1) 67 ((padK k).map bv).toArray by (rw [HP.out, ← copy_splice k 64 hk]; exact hg1.out))
  have HR1 := kept (HR0.out.below hb1 (by omega))
  have HW1 := kept (HW0.out.trans (hb1.mono (by omega)))
  clear hg1 hb1
  go_wp2_with (first | (refine wpList_load_row rfl 67 _ rfl (w.heap.size + 1) rfl 67 ((padK k).map bv).toArray (0,0) _ HP1.out Tryd.underlying67 rfl (by rw [b64_size]; simp [HPL.out]) ?_) | (refine wpList_store_row rfl 67 _ _ rfl w.heap.size ((padK k).map bv).toArray rfl rfl 67 (gA 64 (fun _ => bv 0)) HR1.out (by rw [b64_size]; simp [HPL.out]) (by rw [gA_size]; simp [HPL.out]) (padded_one _) ?_))
  exact bodyPost_ret (v := .agg ((padK k).map bv).toArray) (results_cell_row Tryd.results36 _ _ w.heap.size 67 ((padK k).map bv).toArray (0, 0) _ rfl (setRow_heap _ _ _ _ _ _ HR1.out) Tryd.underlying67 rfl (by rw [b64_size]; simp [HPL.out])) rfl ⟨rfl, below_setRow HW1.out (Nat.le_refl _) _⟩

set_option maxHeartbeats 4000000 in
set_option maxRecDepth 100000 in
theorem pad_long (w : World) (q : Nat) (A : Option Addr) (n c : Nat) (k : List UInt8) (hK : KAt w) (hn : n = k.length) (hm : Mem w q A k) (hc : k.length ≤ c) (hk : 64 < k.length) (hkl : k.length ≤ 140737488355328) :
    Calls Tryd.prog 36 #[.slice A n c] w fun e w' => e = .returned (.agg ((padK k).map bv).toArray) ∧ Below w.heap.size w w' := by
  subst hn
  have HK := kept hK
  have HM := kept hm
  obtain ⟨D, hD⟩ : ∃ D, digest k = D := ⟨_, rfl⟩
  have hDl : D.length = 32 := by rw [← hD, dig_len]
  have HP := kept (show padK k = D ++ List.replicate (64 - D.length) 0 by unfold padK keyS; rw [if_pos hk, hD])
  have HPL := kept (padK_len k)
  have HD := kept hD
  have HDL := kept hDl
  have hd : (64 : Int) < (k.length : Int) := by omega
  clear hK hm hD hDl
  go_enter Tryd.func36, Tryd.ntmps36
  go_upto_region 3 with fail
  go_name_world W0 hW0
  have HR0 := kept (show Blk W0 w.heap.size 67 (gA 64 (fun _ => bv 0)) by
    rw [← hW0, ← zeros_g]
    exact (Blk.new w _ _).alloc _)
  have HP0 := kept (show Blk W0 (w.heap.size + 1) 67 (gA 64 (fun _ => bv 0)) by
    rw [← hW0, ← zeros_g]
    have n2 := Blk.new (w.alloc (.cells (Array.replicate 64 (.int .u8 0)) 67)) 67 (Array.replicate 64 (.int .u8 0))
    simp only [World.size_alloc] at n2
    exact n2)
  have HW0 := kept (show Below w.heap.size w W0 by
    rw [← hW0]
    exact ((Below.refl _ _).alloc (Nat.le_refl _) _).alloc (by simp) _)
  clear hW0
  have hmm := memM_one (w := W0) (g := W0.heap.size) rfl (HM.out.below0 HW0.out) hc
  have hb0 : Below W0.heap.size W0 (W0.alloc (.cells #[.slice A k.length c] 24)) := (Below.refl _ _).alloc (Nat.le_refl _) _
  have HS := kept (ssum_any _ _ _ 1 1 [k] ((HK.out.below0 HW0.out).below0 hb0) rfl hmm (by simp) (by simp; omega))
  rw [show [k].flatten = k by simp, HD.out] at HS
  clear hmm
  go_wp2_with fail
  refine HS.out.mono ?_
  rintro e W1 ⟨rfl, hb1⟩
  have hb01 := hb0.trans (hb1.mono (by simp))
  have HR1 := kept (HR0.out.below hb01 HR0.out.lt)
  have HP1 := kept (HP0.out.below hb01 HP0.out.lt)
  have HW1 := kept (HW0.out.trans (hb01.mono HW0.out.size))
  clear hb0 hb1 hb01 HS HR0 HP0
  go_upto_region 4 with (refine wpList_store_row rfl 36 _ _ rfl W1.heap.size (D.map bv).toArray rfl rfl 36 (Array.replicate 32 (.int .u8 0)) (Blk.new W1 _ _) (by rw [b32_size]; simp [HDL.out]) (by simp [HDL.out]) (padded_one D) ?_)
  go_name_world W2 hW2
  have HD2 := kept (show Blk W2 W1.heap.size 36 (D.map bv).toArray by rw [← hW2]; exact setRow_heap _ _ _ _ _ _ (Blk.new W1 _ _))
  have hb2 : Below W1.heap.size W1 W2 := by rw [← hW2]; exact below_setRow ((Below.refl _ _).alloc (Nat.le_refl _) _) (Nat.le_refl _) _
  have HR2 := kept (HR1.out.below hb2 HR1.out.lt)
  have HP2 := kept (HP1.out.below hb2 HP1.out.lt)
  have HW2 := kept (HW1.out.trans (hb2.mono HW1.out.size))
  clear hW2 hb2 HR1 HP1
  have hsrc : ∀ j v, (D.map bv)[j]? = some v → W2.drew.cell? ((⟨W1.heap.size, 0, none⟩ : Addr).add j) = some v := by
    intro j v hv
    rw [Addr.add_mid, Nat.zero_add]
    show W2.cell? _ = _
    rw [HD2.out.cell]
    simpa using hv
  have HSRC := kept hsrc
  clear hsrc
  go_region_law (refine step_copy_splice rfl (.tmp 11) (.tmp 12) 24 24 rfl 5 Tryd.underlying24 u8_size (some ⟨w.heap.size + 1, 0, none⟩) (some ⟨W1.heap.size, 0, none⟩) 64 64 32 32 rfl rfl (w.heap.size + 1) 0 (gA 64 (fun _ => bv 0)).toList 67 HP2.out (D.map bv) (by rw [List.length_map, HDL.out]; rfl) (fun _ => ⟨rfl, _, rfl, HSRC.out⟩) (by rw [gA_len, List.length_map, HDL.out]; omega) (oneCell_bv D) (w.heap.size + 1) W2.drew (Below.refl _ _) (Nat.le_refl _) ?_; intro W3 hg3 hb3)
  have hb3' : Below (w.heap.size + 1) W2 W3 := ⟨hb3.os, hb3.tape, hb3.output, hb3.size, hb3.block⟩
  have HP1 := kept (show Blk W3 (w.heap.size + 1) 67 ((padK k).map bv).toArray by (rw [HP.out, ← copy_splice D 64 (by rw [HDL.out]; omega)]; exact hg3.out))
  have HR1 := kept (HR2.out.below hb3' (by omega))
  have HW3 := kept (HW2.out.trans (hb3'.mono (by omega)))
  clear hg3 hb3 hb3' HW1
  go_wp2_with (first | (refine wpList_load_row rfl 67 _ rfl (w.heap.size + 1) rfl 67 ((padK k).map bv).toArray (0,0) _ HP1.out Tryd.underlying67 rfl (by rw [b64_size]; simp [HPL.out]) ?_) | (refine wpList_store_row rfl 67 _ _ rfl w.heap.size ((padK k).map bv).toArray rfl rfl 67 (gA 64 (fun _ => bv 0)) HR1.out (by rw [b64_size]; simp [HPL.out]) (by rw [gA_size]; simp [HPL.out]) (padded_one _) ?_))
  exact bodyPost_ret (v := .agg ((padK k).map bv).toArray) (results_cell_row Tryd.results36 _ _ w.heap.size 67 ((padK k).map bv).toArray (0, 0) _ rfl (setRow_heap _ _ _ _ _ _ HR1.out) Tryd.underlying67 rfl (by rw [b64_size]; simp [HPL.out])) rfl ⟨rfl, below_setRow HW3.out (Nat.le_refl _) _⟩

/-- pad, of any key. -/
theorem pad_any (w : World) (q : Nat) (A : Option Addr) (n c : Nat) (k : List UInt8) (hK : KAt w) (hn : n = k.length) (hm : Mem w q A k) (hc : k.length ≤ c) (hkl : k.length ≤ 140737488355328) :
    Calls Tryd.prog 36 #[.slice A n c] w fun e w' => e = .returned (.agg ((padK k).map bv).toArray) ∧ Below w.heap.size w w' := by
  by_cases h : k.length ≤ 64
  · exact pad_short w q A n c k hn hm h
  · exact pad_long w q A n c k hK hn hm hc (by omega) hkl
end Go.Proofs.YtcjbplgjjhenkaaDoor
