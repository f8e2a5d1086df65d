/-
  The reference's table of substitutions, by a contract.
-/
import Derived.Test.YtnfgmgkdkfeekaaPm2
import Derived.StillTailTactics
import Derived.Lib.ItoaWalk
import Derived.RegionTactic
import Derived.BigRegion
import Derived.Laws.CopyOwn
namespace Go.Proofs.Ytnfgmgkdkfeekaa
open Go.RowKit
set_option linter.unusedVariables false
set_option linter.unusedSimpArgs false

theorem b256_size : (Try.prog.info? 42).map (·.size) = some 256 := by kernel_rfl
theorem raff_zero (w : World) : Calls Try.prog 34 #[.int .i64 0] w fun e w' => e = .returned (.int .u8 ((gaff 0).toNat : Int)) ∧ w = w' := raff_any w 0
theorem raff_z (w : World) (b : UInt8) (z : Int) (hz : z = (b.toNat : Int)) : Calls Try.prog 34 #[.int .i64 z] w fun e w' => e = .returned (.int .u8 ((gaff b).toNat : Int)) ∧ w = w' := by
  subst hz
  exact raff_any w b
theorem raff_still (w : World) (b : UInt8) (z : Int) (hz : z = (b.toNat : Int)) : Calls Try.prog 34 #[.int .i64 z] w fun e w' => e = .returned (.int .u8 ((gaff b).toNat : Int)) ∧ w' = w := by
  subst hz
  exact (raff_any w b).mono fun e w' h => ⟨h.1, h.2.symm⟩
theorem zero256 (w : World) : (zeroValue 42).run Try.prog w = .ok (.agg (bA 256 fun _ => 0)) w := by kernel_rfl
set_option maxHeartbeats 1000000 in
set_option maxRecDepth 100000 in
theorem rbox_any (w : World) : Calls Try.prog 26 #[] w fun e w' => e = .returned (.agg (bA 256 fun j => gsub (UInt8.ofNat j))) ∧ Below w.heap.size w w' := by
  have hz := zero256
  go_enter Try.func26, Try.ntmps26
  go_wp2_with fail
  go_name_world W0 hW0
  have HR0 := kept (show Blk W0 w.heap.size 42 (bA 256 fun _ => 0) by
    rw [← hW0]
    exact (Blk.new w _ _).alloc _)
  have HP0 := kept (show Blk W0 (w.heap.size + 1) 42 (bA 256 (pwF 0)) by
    rw [← hW0]
    have n2 := Blk.new (w.alloc (.cells (bA 256 fun _ => 0) 42)) 42 (bA 256 fun _ => 0)
    simp only [World.size_alloc] at n2
    exact n2)
  have HW0 := kept (show Below w.heap.size w W0 by
    rw [← hW0]
    exact ((Below.refl _ _).alloc (Nat.le_refl _) _).alloc (by simp) _)
  clear hW0
  go_loopw [2, 3] (fun x i wr => ∃ k : Nat, k ≤ 256 ∧ i = .int .i64 k ∧ x = .int .u8 ((gpow 3 k).toNat : Int) ∧ Kept (Blk wr w.heap.size 42 (bA 256 fun _ => 0)) ∧ Kept (Blk wr (w.heap.size + 1) 42 (bA 256 (pwF k))) ∧ Kept (Below w.heap.size w wr)) (fun _ i _ => 256 - (intOf i).toNat)
  case atStart => exact ⟨0, Nat.zero_le _, rfl, rfl, HR0, HP0, HW0⟩
  case round =>
    obtain ⟨k, hk, rfl, rfl, HR1, HP1, HW1⟩ := hrel
    rename World => W1
    clear HR0 HP0 HW0
    by_cases hlt : k < 256
    · have c1 : W1.cell? ⟨w.heap.size + 1, k, none⟩ = some (.int .u8 ((pwF k k).toNat : Int)) := by rw [HP1.out.cell]; exact bA_at _ _ hlt
      have f1 := HP1.out.frozen k
      have HS := kept (show ∀ j, j < 256 → pwF (k + 1) j = if j = k then gpow 3 k else pwF k j from fun j _ => by
        unfold pwF
        by_cases e : j = k
        · subst e; rw [if_pos (by omega), if_pos rfl]
        · rw [if_neg e]
          by_cases h : j < k
          · rw [if_pos h, if_pos (by omega)]
          · rw [if_neg h, if_neg (by omega)])
      have HN := kept (show gpow 3 (k + 1) = gf (gpow 3 k) 3 from rfl)
      generalize gpow 3 k = x at HS HN
      have hx := byte_lt x
      have hx' : (x.toNat : Int) < 256 := by omega
      clear hx
      go_wp2_with fail
      refine (rgmul_any _ x 3).mono ?_
      rintro e w' ⟨rfl, rfl⟩
      go_wp2
      go_roundw
      case rel => exact ⟨k + 1, by omega, by go_num, by rw [HN.out], kept (HR1.out.far (by show w.heap.size ≠ w.heap.size + 1; omega) _), kept (HP1.out.putB k _ HS.out), kept (HW1.out.setCell (p := ⟨w.heap.size + 1, k, none⟩) (by show w.heap.size ≤ w.heap.size + 1; omega) _)⟩
      case measure => simp [intOf]; omega
    · obtain rfl : k = 256 := by omega
      have hg2 : w.heap.size + 1 < W1.heap.size := HP1.out.lt
      generalize gpow 3 256 = x0
      go_wp2_with fail
      have HR2 := kept (HR1.out.alloc (.cells (bA 256 fun _ => 0) 42))
      have HP2 := kept (HP1.out.alloc (.cells (bA 256 fun _ => 0) 42))
      have HO2 := kept (Blk.new W1 42 (bA 256 fun _ => 0))
      have HW2 := kept (HW1.out.alloc (show w.heap.size ≤ W1.heap.size by omega) (.cells (bA 256 fun _ => 0) 42))
      refine (raff_zero _).mono ?_
      rintro e w' ⟨rfl, rfl⟩
      clear HR1 HP1 HW1
      generalize hW2 : W1.alloc (.cells (bA 256 fun _ => 0) 42) = W2 at HR2 HP2 HO2 HW2
      clear hW2
      generalize W1.heap.size = g2 at hg2 HO2
      have c0 : W2.cell? ⟨g2, 0, none⟩ = some (.int .u8 0) := by rw [HO2.out.cell]; exact bA_at _ _ (by omega)
      have f0 := HO2.out.frozen 0
      have HO3 := kept (HO2.out.putB 0 (gaff 0) (f' := bxF 0) fun j _ => rfl)
      have HR3 := kept (HR2.out.far (p := ⟨g2, 0, none⟩) (by show w.heap.size ≠ g2; omega) (.int .u8 ((gaff 0).toNat : Int)))
      have HP3 := kept (HP2.out.far (p := ⟨g2, 0, none⟩) (by show w.heap.size + 1 ≠ g2; omega) (.int .u8 ((gaff 0).toNat : Int)))
      have HW3 := kept (HW2.out.setCell (p := ⟨g2, 0, none⟩) (by show w.heap.size ≤ g2; omega) (.int .u8 ((gaff 0).toNat : Int)))
      clear HO2 HR2 HP2 HW2
      go_wp2_with fail
      go_loopw [5] (fun i wr => ∃ k : Nat, k ≤ 256 ∧ i = .int .i64 k ∧ Kept (Blk wr w.heap.size 42 (bA 256 fun _ => 0)) ∧ Kept (Blk wr (w.heap.size + 1) 42 (bA 256 (pwF 256))) ∧ Kept (Blk wr g2 42 (bA 256 (bxF k))) ∧ Kept (Below w.heap.size w wr)) (fun i _ => 256 - (intOf i).toNat)
      case atStart => exact ⟨0, Nat.zero_le _, rfl, HR3, HP3, HO3, HW3⟩
      case round =>
        obtain ⟨k, hk, rfl, HR4, HP4, HO4, HW4⟩ := hrel
        rename World => W4
        clear HR3 HP3 HO3 HW3
        by_cases hlt : k < 256
        · have e1 : pwF 256 k = gpow 3 k := if_pos hlt
          have e2 : pwF 256 (255 - k) = gpow 3 (255 - k) := if_pos (by omega)
          have HS := kept (bxF_succ k)
          have c1 : W4.cell? ⟨w.heap.size + 1, k, none⟩ = some (.int .u8 ((pwF 256 k).toNat : Int)) := by rw [HP4.out.cell]; exact bA_at _ _ hlt
          have c2 : W4.cell? ⟨w.heap.size + 1, 255 - k, none⟩ = some (.int .u8 ((pwF 256 (255 - k)).toNat : Int)) := by rw [HP4.out.cell]; exact bA_at _ _ (by omega)
          rw [e1] at c1
          rw [e2] at c2
          generalize gpow 3 k = x at c1 HS
          generalize gpow 3 (255 - k) = y at c2 HS
          have hx := byte_lt x
          have c3 : W4.cell? ⟨g2, x.toNat, none⟩ = some (.int .u8 ((bxF k x.toNat).toNat : Int)) := by rw [HO4.out.cell]; exact bA_at _ _ hx
          have f3 := HO4.out.frozen x.toNat
          have hk2 : (255 : Int) - (k : Int) = ((255 - k : Nat) : Int) := by omega
          have hx' : (x.toNat : Int) < 256 := by omega
          clear e1 e2
          have hy := byte_lt y
          have hy' : (y.toNat : Int) < 256 := by omega
          clear hy hx
          have p0 : (k : Int) < 256 := by omega
          have p1 : ((255 - k : Nat) : Int) < 256 := by omega
          have p2 : IntKind.i64.wrap ((255 - k : Nat) : Int) = ((255 - k : Nat) : Int) := IntWalk.i64_in _ (by omega)
          have p3 : (0 : Int) ≤ ((255 - k : Nat) : Int) := by omega
          have p4 : IntKind.i64.wrap (y.toNat : Int) = (y.toNat : Int) := IntWalk.i64_in _ (by omega)
          go_wp2_with fail
          refine wp_region_still_tail 9 (by kernel_rfl) (by kernel_rfl) ?_
          simp only [List.take_succ_cons, List.take_zero, List.drop_succ_cons, List.drop_zero]
          iterate 8 still_step
          still_call (raff_still W4.drew y _ rfl)
          refine wpStill_nil ?_
          change wpList _ _ _ _ _ W4.drew
          have d3 : W4.drew.cell? ⟨g2, x.toNat, none⟩ = some (.int .u8 ((bxF k x.toNat).toNat : Int)) := c3
          have e3 : W4.drew.frozen? ⟨g2, x.toNat, none⟩ = false := f3
          go_wp2
          go_roundw
          case rel => exact ⟨k + 1, by omega, by go_num, kept (HR4.out.drew_.far (p := ⟨g2, x.toNat, none⟩) (by show w.heap.size ≠ g2; omega) _), kept (HP4.out.drew_.far (p := ⟨g2, x.toNat, none⟩) (by show w.heap.size + 1 ≠ g2; omega) _), kept (HO4.out.drew_.putB x.toNat (gaff y) fun j _ => HS.out j), kept (HW4.out.drew.setCell (p := ⟨g2, x.toNat, none⟩) (by show w.heap.size ≤ g2; omega) _)⟩
          case measure => simp [intOf]; omega
        · obtain rfl : k = 256 := by omega
          go_wp2_with (first | (refine wpList_load_row rfl 42 _ rfl g2 rfl 42 (bA 256 (bxF 256)) (0,0) _ HO4.out Try.underlying42 rfl (by rw [b256_size, bA_size]) ?_) | (refine wpList_store_row rfl 42 _ _ rfl w.heap.size (bA 256 (bxF 256)) rfl rfl 42 (bA 256 (fun _ => 0)) HR4.out (by rw [b256_size, bA_size]) (by rw [bA_size, bA_size]) (bA_one _ _) ?_))
          exact bodyPost_ret (v := .agg (bA 256 (bxF 256))) (results_cell_row Try.results26 _ _ w.heap.size 42 (bA 256 (bxF 256)) (0, 0) _ rfl (setRow_heap _ _ _ _ _ _ HR4.out) Try.underlying42 rfl (by rw [b256_size, bA_size])) rfl ⟨by rw [bA_ext bxF_all], below_setRow HW4.out (Nat.le_refl _) _⟩
end Go.Proofs.Ytnfgmgkdkfeekaa
