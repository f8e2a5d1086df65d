/-
  Package aes, the small functions: which byte a round moves to a place, a column, a column moved, the exclusive or, by contracts.
-/
import Derived.Test.YtnfgmgkdkfeekaaPm12
import Derived.Test.YtnfgmgkdkfeekaaPm9
import Derived.Deep.Cut
import Derived.BigRegion
import Derived.RegionTactic
import Derived.Deep.MidRow
import Derived.Laws.Cover3
namespace Go.Proofs.Ytnfgmgkdkfeekaa
open Go.RowKit
set_option linter.unusedVariables false
set_option linter.unusedSimpArgs false

/-- The place of the byte that a round moves to the place i. -/
def srcI (i : Nat) : Nat := i % 4 + 4 * ((i / 4 + i % 4) % 4)
theorem srcI_lt (i : Nat) : srcI i < 16 := by unfold srcI; omega
set_option maxHeartbeats 1000000 in
theorem asrc_any (w : World) (i : Nat) (hi : i < 16) : Calls Try.prog 38 #[.int .i64 (i : Int)] w fun e w' => e = .returned (.int .i64 ((srcI i : Nat) : Int)) ∧ w = w' := by
  have hi' : (i : Int) < 16 := by omega
  have hd : (i : Int).tmod 4 = ((i % 4 : Nat) : Int) := by
    rw [Int.tmod_eq_emod_of_nonneg (by omega)]
    omega
  have hr : i % 4 < 4 := by omega
  have HS := kept (show ((i : Int) + 4 * ((i % 4 : Nat) : Int)) % 16 = ((srcI i : Nat) : Int) by
    unfold srcI
    omega)
  generalize i % 4 = r at hd hr HS
  generalize srcI i = k at HS
  go_enter Try.func38, Try.ntmps38
  go_wp2
  go_ret
  exact ⟨congrArg (fun z => Ending.returned (.int .i64 z)) HS.out, rfl⟩
theorem al16 : Try.prog.arrayLen 22 = 16 := by simp [Program.arrayLen, Try.underlying22]
theorem el16 : Try.prog.elem 22 = 5 := by simp [Program.elem, Try.underlying22]
theorem al4 : Try.prog.arrayLen 70 = 4 := by simp [Program.arrayLen, Try.underlying70]
theorem el4 : Try.prog.elem 70 = 5 := by simp [Program.elem, Try.underlying70]
theorem size_u8 (w : World) : (sizeOf 5).run Try.prog w = .ok 1 w := by
  cases hq : Try.prog.info? 5 with
  | none => have := u8_size; simp [hq] at this
  | some i =>
    have hs : i.size = 1 := by have := u8_size; simpa [hq] using this
    simp [sizeOf, typeInfo, hq, hs]
theorem slice16_lh (w : World) (g c : Nat) (hc : c < 4) : (Instr.sliceAt 22 (.pointer (some ⟨g, 0, none⟩)) (some (.int .i64 (4 * (c : Int)))) (some (.int .i64 (4 * (c : Int) + 4))) none).run Try.prog w = .ok (.slice (some ⟨g, 4 * c, none⟩) 4 (16 - 4 * c)) w := by
  rw [run_sliceAt_array_lh w 22 ⟨g, 0, none⟩ (by simp [Program.arrayLen, Program.elem, Try.underlying22]) .i64 .i64 (4 * (c : Int)) (4 * (c : Int) + 4) (by omega) (by omega) (by rw [al16]; omega)]
  rw [al16, el16, size_u8]
  show Result.ok (slicedAt _ _ _ _ _) w = _
  unfold slicedAt
  rw [if_neg (by omega), Addr.add_mid, show (4 * (c : Int)).toNat = 4 * c by omega, show (4 * (c : Int) + 4).toNat = 4 * c + 4 by omega, show 0 + 4 * c * 1 = 4 * c by omega, show 4 * c + 4 - 4 * c = 4 by omega]
theorem slice16_l (w : World) (g c : Nat) (hc : c < 4) : (Instr.sliceAt 22 (.pointer (some ⟨g, 0, none⟩)) (some (.int .i64 (4 * (c : Int)))) none none).run Try.prog w = .ok (.slice (some ⟨g, 4 * c, none⟩) (16 - 4 * c) (16 - 4 * c)) w := by
  rw [run_sliceAt_array_l w 22 ⟨g, 0, none⟩ (by simp [Program.arrayLen, Program.elem, Try.underlying22]) .i64 (4 * (c : Int)) (by omega) (by rw [al16]; omega)]
  rw [al16, el16, size_u8]
  show Result.ok (slicedAt _ _ _ _ _) w = _
  unfold slicedAt
  rw [if_neg (by omega), Addr.add_mid, show (4 * (c : Int)).toNat = 4 * c by omega, show 0 + 4 * c * 1 = 4 * c by omega]
theorem slice4_all (w : World) (g : Nat) : (Instr.sliceAt 70 (.pointer (some ⟨g, 0, none⟩)) none none none).run Try.prog w = .ok (.slice (some ⟨g, 0, none⟩) 4 4) w := by
  rw [run_sliceAt_array_all w 70 ⟨g, 0, none⟩ (by simp [Program.arrayLen, Program.elem, Try.underlying70])]
  rw [al4, el4, size_u8]
  show Result.ok (slicedAt _ _ _ _ _) w = _
  unfold slicedAt
  rw [if_neg (by omega), Addr.add_mid]
set_option maxHeartbeats 1000000 in
theorem acol_any (w : World) (b : Nat → UInt8) (c : Nat) (hc : c < 4) : Calls Try.prog 43 #[.agg (bA 16 b), .int .i64 (c : Int)] w fun e w' => e = .returned (.agg (bA 4 fun r => b (4 * c + r))) ∧ Below w.heap.size w w' := by
  have hc4 : (c : Int) < 4 := by omega
  have hap : ∀ (A : Addr) (cc : Nat) (w : World), (Instr.arrayAt 70 (.slice (some A) 4 cc)).run Try.prog w = .ok (.pointer (some A)) w := fun A cc w => run_arrayAt _ _ _ 4 _ _ _ Try.underlying70 (Nat.le_refl _)
  have hsl := fun w => slice16_lh w
  obtain ⟨r, hr⟩ : ∃ r : Nat → UInt8, (fun r => b (4 * c + r)) = r := ⟨_, rfl⟩
  have HR := kept (show ∀ j, b (4 * c + j) = r j from fun j => by rw [← hr])
  rw [hr]
  clear hr
  go_enter Try.func43, Try.ntmps43
  go_upto_region 1 with (fail)
  go_name_world W0 hW0
  have HB := kept (show Blk W0 w.heap.size 22 (bA 16 b) by rw [← hW0]; exact (Blk.new w 22 (bA 16 b)).alloc _)
  have HZ := kept (show Blk W0 (w.heap.size + 1) 70 (bA 4 fun _ => 0) by
    rw [← hW0]
    have n2 := Blk.new (w.alloc (.cells (bA 16 b) 22)) 70 (bA 4 fun _ => 0)
    simp only [World.size_alloc] at n2
    exact n2)
  have HW := kept (show Below w.heap.size w W0 by rw [← hW0]; exact ((Below.refl _ _).alloc (Nat.le_refl _) _).alloc (by simp) _)
  clear hW0
  have HRG := kept (show W0.rangeAt w.heap.size (4 * c) (bA 4 r).toList from fun j v hv => by
    have hj : j < 4 := by
      have := (List.getElem?_eq_some_iff.1 hv).1
      rw [Array.length_toList, bA_size] at this
      exact this
    rw [HB.out.cell, bA_at _ _ (by omega), HR.out]
    rw [Array.getElem?_toList, bA_at _ _ hj] at hv
    exact hv)
  have hs1 := hsl W0 w.heap.size c hc
  clear hsl
  go_wp2_with (first | (refine wpList_load_mid rfl 70 (.tmp 11) rfl w.heap.size (4 * c) rfl (bA 4 r).toList _ HRG.out Try.underlying70 rfl (by rw [b4_size, Array.length_toList, bA_size]) ?_) | (refine wpList_store_row rfl 70 (.tmp 4) (.tmp 12) rfl (w.heap.size + 1) (bA 4 r) rfl rfl 70 (bA 4 fun _ => 0) HZ.out (by rw [b4_size, bA_size]) (by rw [bA_size, bA_size]) (bA_one _ _) ?_))
  exact bodyPost_ret (v := .agg (bA 4 r)) (results_cell_row Try.results43 _ _ (w.heap.size + 1) 70 (bA 4 r) (0, 0) _ rfl (setRow_heap _ _ _ _ _ _ HZ.out) Try.underlying70 rfl (by rw [b4_size, bA_size])) rfl ⟨rfl, below_setRow HW.out (by omega) _⟩
/-- A column whose first byte has become the last one. -/
def mvd (a : Nat → UInt8) : Nat → UInt8 := fun j => a ((j + 1) % 4)
theorem mvd_arr (a : Nat → UInt8) : #[Value.int .u8 ((a 1).toNat : Int), .int .u8 ((a 2).toNat : Int), .int .u8 ((a 3).toNat : Int), .int .u8 ((a 0).toNat : Int)] = bA 4 (mvd a) := rfl
set_option maxHeartbeats 1000000 in
theorem amov_any (w : World) (a : Nat → UInt8) : Calls Try.prog 42 #[.agg (bA 4 a)] w fun e w' => e = .returned (.agg (bA 4 (mvd a))) ∧ Below w.heap.size w w' := by
  have HE := kept (mvd_arr a)
  have HR1 := kept (bA_one 4 (mvd a))
  have HRS := kept (bA_size 4 (mvd a))
  generalize bA 4 (mvd a) = R at HE HR1 HRS
  go_enter Try.func42, Try.ntmps42
  go_upto_region 1 with (fail)
  go_name_world W0 hW0
  have HB := kept (show Blk W0 w.heap.size 70 (bA 4 a) by rw [← hW0]; exact (Blk.new w 70 (bA 4 a)).alloc _)
  have HZ := kept (show Blk W0 (w.heap.size + 1) 70 (bA 4 fun _ => 0) by
    rw [← hW0]
    have n2 := Blk.new (w.alloc (.cells (bA 4 a) 70)) 70 (bA 4 fun _ => 0)
    simp only [World.size_alloc] at n2
    exact n2)
  have HW := kept (show Below w.heap.size w W0 by rw [← hW0]; exact ((Below.refl _ _).alloc (Nat.le_refl _) _).alloc (by simp) _)
  clear hW0
  have c0 : W0.cell? ⟨w.heap.size, 0, none⟩ = some (.int .u8 ((a 0).toNat : Int)) := by rw [HB.out.cell]; rfl
  have c1 : W0.cell? ⟨w.heap.size, 1, none⟩ = some (.int .u8 ((a 1).toNat : Int)) := by rw [HB.out.cell]; rfl
  have c2 : W0.cell? ⟨w.heap.size, 2, none⟩ = some (.int .u8 ((a 2).toNat : Int)) := by rw [HB.out.cell]; rfl
  have c3 : W0.cell? ⟨w.heap.size, 3, none⟩ = some (.int .u8 ((a 3).toNat : Int)) := by rw [HB.out.cell]; rfl
  go_wp2_with (refine wpList_store_row rfl 70 (.tmp 2) (.tmp 11) rfl (w.heap.size + 1) R rfl (congrArg Value.agg HE.out) 70 (bA 4 fun _ => 0) HZ.out (by rw [b4_size, HRS.out]) (by rw [bA_size, HRS.out]) HR1.out ?_)
  exact bodyPost_ret (v := .agg R) (results_cell_row Try.results42 _ _ (w.heap.size + 1) 70 R (0, 0) _ rfl (setRow_heap _ _ _ _ _ _ HZ.out) Try.underlying70 rfl (by rw [b4_size, HRS.out])) rfl ⟨rfl, below_setRow HW.out (by omega) _⟩
set_option maxHeartbeats 1000000 in
theorem axor_any (w : World) (a b : Nat → UInt8) : Calls Try.prog 29 #[.agg (bA 16 a), .agg (bA 16 b)] w fun e w' => e = .returned (.agg (bA 16 (aXor a b))) ∧ Below w.heap.size w w' := by
  go_enter Try.func29, Try.ntmps29
  go_upto_region 1 with (fail)
  go_name_world W0 hW0
  have HA0 := kept (show Blk W0 w.heap.size 22 (bA 16 (xorF a b 0)) by
    rw [← hW0, show bA 16 (xorF a b 0) = bA 16 a from bA_ext fun j _ => if_neg (by omega)]
    exact ((Blk.new w 22 (bA 16 a)).alloc _).alloc _)
  have HB0 := kept (show Blk W0 (w.heap.size + 1) 22 (bA 16 b) by
    rw [← hW0]
    have n2 := Blk.new (w.alloc (.cells (bA 16 a) 22)) 22 (bA 16 b)
    simp only [World.size_alloc] at n2
    exact n2.alloc _)
  have HZ0 := kept (show Blk W0 (w.heap.size + 1 + 1) 22 (bA 16 fun _ => 0) by
    rw [← hW0]
    have n3 := Blk.new ((w.alloc (.cells (bA 16 a) 22)).alloc (.cells (bA 16 b) 22)) 22 (bA 16 fun _ => 0)
    simp only [World.size_alloc] at n3
    exact n3)
  have HW0 := kept (show Below w.heap.size w W0 by rw [← hW0]; exact (((Below.refl _ _).alloc (Nat.le_refl _) _).alloc (by simp) _).alloc (by simp; omega) _)
  clear hW0
  go_wp2_with fail
  go_loopw [6] (fun i wr => ∃ n : Nat, n ≤ 16 ∧ i = .int .i64 n ∧ Kept (Blk wr w.heap.size 22 (bA 16 (xorF a b n))) ∧ Kept (Blk wr (w.heap.size + 1) 22 (bA 16 b)) ∧ Kept (Blk wr (w.heap.size + 1 + 1) 22 (bA 16 fun _ => 0)) ∧ Kept (Below w.heap.size w wr)) (fun i _ => 16 - (intOf i).toNat)
  case atStart => exact ⟨0, Nat.zero_le _, rfl, HA0, HB0, HZ0, HW0⟩
  case round =>
    obtain ⟨n, hn, rfl, HA1, HB1, HZ1, HW1⟩ := hrel
    rename World => W1
    clear HA0 HB0 HZ0 HW0
    by_cases hlt : n < 16
    · have hn16 : (n : Int) < 16 := by omega
      have c1 : W1.cell? ⟨w.heap.size, n, none⟩ = some (.int .u8 ((a n).toNat : Int)) := by rw [HA1.out.cell, bA_at _ _ hlt, xorF_at]
      have c2 : W1.cell? ⟨w.heap.size + 1, n, none⟩ = some (.int .u8 ((b n).toNat : Int)) := by rw [HB1.out.cell]; exact bA_at _ _ hlt
      have f1 := HA1.out.frozen n
      have HS := kept (xorF_set a b n)
      have hx := gx8 (a n) (b n)
      generalize gxr (a n) (b n) = Z at hx HS
      generalize a n = x at hx c1
      generalize b n = y at hx c2
      go_wp2
      go_region
      all_goals go_wp2
      go_roundw
      case rel => exact ⟨n + 1, by omega, by go_num, kept (HA1.out.putB n Z fun j _ => HS.out j).drew_, kept (HB1.out.far (by show w.heap.size + 1 ≠ w.heap.size; omega) _).drew_, kept (HZ1.out.far (by show w.heap.size + 1 + 1 ≠ w.heap.size; omega) _).drew_, kept (HW1.out.setCell (by show w.heap.size ≤ w.heap.size; omega) _).drew⟩
      case measure => simp [intOf]; omega
    · obtain rfl : n = 16 := by omega
      have HA2 := kept (show Blk W1 w.heap.size 22 (bA 16 (aXor a b)) by rw [← xorF_all]; exact HA1.out)
      obtain ⟨R, hR⟩ : ∃ R, aXor a b = R := ⟨_, rfl⟩
      rw [hR] at HA2
      have HR := kept hR
      clear HA1 hn hlt hR
      go_wp2_with (first | (refine wpList_load_row rfl 22 (.tmp 2) rfl w.heap.size rfl 22 (bA 16 R) (0, 0) _ HA2.out Try.underlying22 rfl (by rw [b16_size, bA_size]) ?_) | (refine wpList_store_row rfl 22 (.tmp 4) (.tmp 18) rfl (w.heap.size + 1 + 1) (bA 16 R) rfl rfl 22 (bA 16 fun _ => 0) HZ1.out (by rw [b16_size, bA_size]) (by rw [bA_size, bA_size]) (bA_one _ _) ?_))
      exact bodyPost_ret (v := .agg (bA 16 R)) (results_cell_row Try.results29 _ _ (w.heap.size + 1 + 1) 22 (bA 16 R) (0, 0) _ rfl (setRow_heap _ _ _ _ _ _ HZ1.out) Try.underlying22 rfl (by rw [b16_size, bA_size])) rfl ⟨by rw [HR.out], below_setRow HW1.out (by omega) _⟩
end Go.Proofs.Ytnfgmgkdkfeekaa
