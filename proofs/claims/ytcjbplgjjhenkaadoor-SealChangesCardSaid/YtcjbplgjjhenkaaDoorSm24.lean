/-
  Package aes: a block whose columns are mixed, by a contract.
-/
import Derived.Test.YtcjbplgjjhenkaaDoorSm16
import Derived.Test.YtcjbplgjjhenkaaDoorSm22
import Derived.Deep.Cut
import Derived.BigRegion
import Derived.RegionTactic
import Derived.Deep.MidRow
import Derived.Laws.Cover3
import Derived.Laws.CopyOwn
import Derived.StillTailTactics
import Derived.Test.YtcjbplgjjhenkaaDoorSm8
/-
  Package aes, the small functions: which byte a round moves to a place, a column, a column moved, the exclusive or, by contracts.
-/
namespace Go.Proofs.YtcjbplgjjhenkaaDoor
open Go.RowKit
set_option linter.unusedVariables false
set_option linter.unusedSimpArgs false

/-- The place of the byte that a round moves to the place i. -/
def srcI (i : Nat) : Nat := i % 4 + 4 * ((i / 4 + i % 4) % 4)
theorem srcI_lt (i : Nat) : srcI i < 16 := by unfold srcI; omega
set_option maxHeartbeats 1000000 in
theorem asrc_any (w : World) (i : Nat) (hi : i < 16) : Calls Tryd.prog 73 #[.int .i64 (i : Int)] w fun e w' => e = .returned (.int .i64 ((srcI i : Nat) : Int)) ∧ w = w' := by
  have hi' : (i : Int) < 16 := by omega
  have hd : (i : Int).tmod 4 = ((i % 4 : Nat) : Int) := by
    rw [Int.tmod_eq_emod_of_nonneg (by omega)]
    omega
  have hr : i % 4 < 4 := by omega
  have HS := kept (show ((i : Int) + 4 * ((i % 4 : Nat) : Int)) % 16 = ((srcI i : Nat) : Int) by
    unfold srcI
    omega)
  generalize i % 4 = r at hd hr HS
  generalize srcI i = k at HS
  go_enter Tryd.func73, Tryd.ntmps73
  go_wp2
  go_ret
  exact ⟨congrArg (fun z => Ending.returned (.int .i64 z)) HS.out, rfl⟩
theorem al16 : Tryd.prog.arrayLen 22 = 16 := by simp [Program.arrayLen, Tryd.underlying22]
theorem el16 : Tryd.prog.elem 22 = 5 := by simp [Program.elem, Tryd.underlying22]
theorem al4 : Tryd.prog.arrayLen 105 = 4 := by simp [Program.arrayLen, Tryd.underlying105]
theorem el4 : Tryd.prog.elem 105 = 5 := by simp [Program.elem, Tryd.underlying105]
theorem size_u8 (w : World) : (sizeOf 5).run Tryd.prog w = .ok 1 w := by
  cases hq : Tryd.prog.info? 5 with
  | none => have := u8_size; simp [hq] at this
  | some i =>
    have hs : i.size = 1 := by have := u8_size; simpa [hq] using this
    simp [sizeOf, typeInfo, hq, hs]
theorem slice16_lh (w : World) (g c : Nat) (hc : c < 4) : (Instr.sliceAt 22 (.pointer (some ⟨g, 0, none⟩)) (some (.int .i64 (4 * (c : Int)))) (some (.int .i64 (4 * (c : Int) + 4))) none).run Tryd.prog w = .ok (.slice (some ⟨g, 4 * c, none⟩) 4 (16 - 4 * c)) w := by
  rw [run_sliceAt_array_lh w 22 ⟨g, 0, none⟩ (by simp [Program.arrayLen, Program.elem, Tryd.underlying22]) .i64 .i64 (4 * (c : Int)) (4 * (c : Int) + 4) (by omega) (by omega) (by rw [al16]; omega)]
  rw [al16, el16, size_u8]
  show Result.ok (slicedAt _ _ _ _ _) w = _
  unfold slicedAt
  rw [if_neg (by omega), Addr.add_mid, show (4 * (c : Int)).toNat = 4 * c by omega, show (4 * (c : Int) + 4).toNat = 4 * c + 4 by omega, show 0 + 4 * c * 1 = 4 * c by omega, show 4 * c + 4 - 4 * c = 4 by omega]
theorem slice16_l (w : World) (g c : Nat) (hc : c < 4) : (Instr.sliceAt 22 (.pointer (some ⟨g, 0, none⟩)) (some (.int .i64 (4 * (c : Int)))) none none).run Tryd.prog w = .ok (.slice (some ⟨g, 4 * c, none⟩) (16 - 4 * c) (16 - 4 * c)) w := by
  rw [run_sliceAt_array_l w 22 ⟨g, 0, none⟩ (by simp [Program.arrayLen, Program.elem, Tryd.underlying22]) .i64 (4 * (c : Int)) (by omega) (by rw [al16]; omega)]
  rw [al16, el16, size_u8]
  show Result.ok (slicedAt _ _ _ _ _) w = _
  unfold slicedAt
  rw [if_neg (by omega), Addr.add_mid, show (4 * (c : Int)).toNat = 4 * c by omega, show 0 + 4 * c * 1 = 4 * c by omega]
theorem slice4_all (w : World) (g : Nat) : (Instr.sliceAt 105 (.pointer (some ⟨g, 0, none⟩)) none none none).run Tryd.prog w = .ok (.slice (some ⟨g, 0, none⟩) 4 4) w := by
  rw [run_sliceAt_array_all w 105 ⟨g, 0, none⟩ (by simp [Program.arrayLen, Program.elem, Tryd.underlying105])]
  rw [al4, el4, size_u8]
  show Result.ok (slicedAt _ _ _ _ _) w = _
  unfold slicedAt
  rw [if_neg (by omega), Addr.add_mid]
set_option maxHeartbeats 1000000 in
theorem acol_any (w : World) (b : Nat → UInt8) (c : Nat) (hc : c < 4) : Calls Tryd.prog 78 #[.agg (bA 16 b), .int .i64 (c : Int)] w fun e w' => e = .returned (.agg (bA 4 fun r => b (4 * c + r))) ∧ Below w.heap.size w w' := by
  have hc4 : (c : Int) < 4 := by omega
  have hap : ∀ (A : Addr) (cc : Nat) (w : World), (Instr.arrayAt 105 (.slice (some A) 4 cc)).run Tryd.prog w = .ok (.pointer (some A)) w := fun A cc w => run_arrayAt _ _ _ 4 _ _ _ Tryd.underlying105 (Nat.le_refl _)
  have hsl := fun w => slice16_lh w
  obtain ⟨r, hr⟩ : ∃ r : Nat → UInt8, (fun r => b (4 * c + r)) = r := ⟨_, rfl⟩
  have HR := kept (show ∀ j, b (4 * c + j) = r j from fun j => by rw [← hr])
  rw [hr]
  clear hr
  go_enter Tryd.func78, Tryd.ntmps78
  go_upto_region 1 with (fail)
  go_name_world W0 hW0
  have HB := kept (show Blk W0 w.heap.size 22 (bA 16 b) by rw [← hW0]; exact (Blk.new w 22 (bA 16 b)).alloc _)
  have HZ := kept (show Blk W0 (w.heap.size + 1) 105 (bA 4 fun _ => 0) by
    rw [← hW0]
    have n2 := Blk.new (w.alloc (.cells (bA 16 b) 22)) 105 (bA 4 fun _ => 0)
    simp only [World.size_alloc] at n2
    exact n2)
  have HW := kept (show Below w.heap.size w W0 by rw [← hW0]; exact ((Below.refl _ _).alloc (Nat.le_refl _) _).alloc (by simp) _)
  clear hW0
  have HRG := kept (show W0.rangeAt w.heap.size (4 * c) (bA 4 r).toList from fun j v hv => by
    have hj : j < 4 := by
      have := (List.getElem?_eq_some_iff.1 hv).1
      rw [Array.length_toList, bA_size] at this
      exact this
    rw [HB.out.cell, bA_at _ _ (by omega), HR.out]
    rw [Array.getElem?_toList, bA_at _ _ hj] at hv
    exact hv)
  have hs1 := hsl W0 w.heap.size c hc
  clear hsl
  go_wp2_with (first | (refine wpList_load_mid rfl 105 (.tmp 11) rfl w.heap.size (4 * c) rfl (bA 4 r).toList _ HRG.out Tryd.underlying105 rfl (by rw [b4_size, Array.length_toList, bA_size]) ?_) | (refine wpList_store_row rfl 105 (.tmp 4) (.tmp 12) rfl (w.heap.size + 1) (bA 4 r) rfl rfl 105 (bA 4 fun _ => 0) HZ.out (by rw [b4_size, bA_size]) (by rw [bA_size, bA_size]) (bA_one _ _) ?_))
  exact bodyPost_ret (v := .agg (bA 4 r)) (results_cell_row Tryd.results78 _ _ (w.heap.size + 1) 105 (bA 4 r) (0, 0) _ rfl (setRow_heap _ _ _ _ _ _ HZ.out) Tryd.underlying105 rfl (by rw [b4_size, bA_size])) rfl ⟨rfl, below_setRow HW.out (by omega) _⟩
/-- A column whose first byte has become the last one. -/
def mvd (a : Nat → UInt8) : Nat → UInt8 := fun j => a ((j + 1) % 4)
theorem mvd_arr (a : Nat → UInt8) : #[Value.int .u8 ((a 1).toNat : Int), .int .u8 ((a 2).toNat : Int), .int .u8 ((a 3).toNat : Int), .int .u8 ((a 0).toNat : Int)] = bA 4 (mvd a) := rfl
set_option maxHeartbeats 1000000 in
theorem amov_any (w : World) (a : Nat → UInt8) : Calls Tryd.prog 77 #[.agg (bA 4 a)] w fun e w' => e = .returned (.agg (bA 4 (mvd a))) ∧ Below w.heap.size w w' := by
  have HE := kept (mvd_arr a)
  have HR1 := kept (bA_one 4 (mvd a))
  have HRS := kept (bA_size 4 (mvd a))
  generalize bA 4 (mvd a) = R at HE HR1 HRS
  go_enter Tryd.func77, Tryd.ntmps77
  go_upto_region 1 with (fail)
  go_name_world W0 hW0
  have HB := kept (show Blk W0 w.heap.size 105 (bA 4 a) by rw [← hW0]; exact (Blk.new w 105 (bA 4 a)).alloc _)
  have HZ := kept (show Blk W0 (w.heap.size + 1) 105 (bA 4 fun _ => 0) by
    rw [← hW0]
    have n2 := Blk.new (w.alloc (.cells (bA 4 a) 105)) 105 (bA 4 fun _ => 0)
    simp only [World.size_alloc] at n2
    exact n2)
  have HW := kept (show Below w.heap.size w W0 by rw [← hW0]; exact ((Below.refl _ _).alloc (Nat.le_refl _) _).alloc (by simp) _)
  clear hW0
  have c0 : W0.cell? ⟨w.heap.size, 0, none⟩ = some (.int .u8 ((a 0).toNat : Int)) := by rw [HB.out.cell]; rfl
  have c1 : W0.cell? ⟨w.heap.size, 1, none⟩ = some (.int .u8 ((a 1).toNat : Int)) := by rw [HB.out.cell]; rfl
  have c2 : W0.cell? ⟨w.heap.size, 2, none⟩ = some (.int .u8 ((a 2).toNat : Int)) := by rw [HB.out.cell]; rfl
  have c3 : W0.cell? ⟨w.heap.size, 3, none⟩ = some (.int .u8 ((a 3).toNat : Int)) := by rw [HB.out.cell]; rfl
  go_wp2_with (refine wpList_store_row rfl 105 (.tmp 2) (.tmp 11) rfl (w.heap.size + 1) R rfl (congrArg Value.agg HE.out) 105 (bA 4 fun _ => 0) HZ.out (by rw [b4_size, HRS.out]) (by rw [bA_size, HRS.out]) HR1.out ?_)
  exact bodyPost_ret (v := .agg R) (results_cell_row Tryd.results77 _ _ (w.heap.size + 1) 105 R (0, 0) _ rfl (setRow_heap _ _ _ _ _ _ HZ.out) Tryd.underlying105 rfl (by rw [b4_size, HRS.out])) rfl ⟨rfl, below_setRow HW.out (by omega) _⟩
set_option maxHeartbeats 1000000 in
theorem axor_any (w : World) (a b : Nat → UInt8) : Calls Tryd.prog 65 #[.agg (bA 16 a), .agg (bA 16 b)] w fun e w' => e = .returned (.agg (bA 16 (aXor a b))) ∧ Below w.heap.size w w' := by
  go_enter Tryd.func65, Tryd.ntmps65
  go_upto_region 1 with (fail)
  go_name_world W0 hW0
  have HA0 := kept (show Blk W0 w.heap.size 22 (bA 16 (xorF a b 0)) by
    rw [← hW0, show bA 16 (xorF a b 0) = bA 16 a from bA_ext fun j _ => if_neg (by omega)]
    exact ((Blk.new w 22 (bA 16 a)).alloc _).alloc _)
  have HB0 := kept (show Blk W0 (w.heap.size + 1) 22 (bA 16 b) by
    rw [← hW0]
    have n2 := Blk.new (w.alloc (.cells (bA 16 a) 22)) 22 (bA 16 b)
    simp only [World.size_alloc] at n2
    exact n2.alloc _)
  have HZ0 := kept (show Blk W0 (w.heap.size + 1 + 1) 22 (bA 16 fun _ => 0) by
    rw [← hW0]
    have n3 := Blk.new ((w.alloc (.cells (bA 16 a) 22)).alloc (.cells (bA 16 b) 22)) 22 (bA 16 fun _ => 0)
    simp only [World.size_alloc] at n3
    exact n3)
  have HW0 := kept (show Below w.heap.size w W0 by rw [← hW0]; exact (((Below.refl _ _).alloc (Nat.le_refl _) _).alloc (by simp) _).alloc (by simp; omega) _)
  clear hW0
  go_wp2_with fail
  go_loopw [6] (fun i wr => ∃ n : Nat, n ≤ 16 ∧ i = .int .i64 n ∧ Kept (Blk wr w.heap.size 22 (bA 16 (xorF a b n))) ∧ Kept (Blk wr (w.heap.size + 1) 22 (bA 16 b)) ∧ Kept (Blk wr (w.heap.size + 1 + 1) 22 (bA 16 fun _ => 0)) ∧ Kept (Below w.heap.size w wr)) (fun i _ => 16 - (intOf i).toNat)
  case atStart => exact ⟨0, Nat.zero_le _, rfl, HA0, HB0, HZ0, HW0⟩
  case round =>
    obtain ⟨n, hn, rfl, HA1, HB1, HZ1, HW1⟩ := hrel
    rename World => W1
    clear HA0 HB0 HZ0 HW0
    by_cases hlt : n < 16
    · have hn16 : (n : Int) < 16 := by omega
      have c1 : W1.cell? ⟨w.heap.size, n, none⟩ = some (.int .u8 ((a n).toNat : Int)) := by rw [HA1.out.cell, bA_at _ _ hlt, xorF_at]
      have c2 : W1.cell? ⟨w.heap.size + 1, n, none⟩ = some (.int .u8 ((b n).toNat : Int)) := by rw [HB1.out.cell]; exact bA_at _ _ hlt
      have f1 := HA1.out.frozen n
      have HS := kept (xorF_set a b n)
      have hx := gx8 (a n) (b n)
      generalize gxr (a n) (b n) = Z at hx HS
      generalize a n = x at hx c1
      generalize b n = y at hx c2
      go_wp2
      go_region
      all_goals go_wp2
      go_roundw
      case rel => exact ⟨n + 1, by omega, by go_num, kept (HA1.out.putB n Z fun j _ => HS.out j).drew_, kept (HB1.out.far (by show w.heap.size + 1 ≠ w.heap.size; omega) _).drew_, kept (HZ1.out.far (by show w.heap.size + 1 + 1 ≠ w.heap.size; omega) _).drew_, kept (HW1.out.setCell (by show w.heap.size ≤ w.heap.size; omega) _).drew⟩
      case measure => simp [intOf]; omega
    · obtain rfl : n = 16 := by omega
      have HA2 := kept (show Blk W1 w.heap.size 22 (bA 16 (aXor a b)) by rw [← xorF_all]; exact HA1.out)
      obtain ⟨R, hR⟩ : ∃ R, aXor a b = R := ⟨_, rfl⟩
      rw [hR] at HA2
      have HR := kept hR
      clear HA1 hn hlt hR
      go_wp2_with (first | (refine wpList_load_row rfl 22 (.tmp 2) rfl w.heap.size rfl 22 (bA 16 R) (0, 0) _ HA2.out Tryd.underlying22 rfl (by rw [b16_size, bA_size]) ?_) | (refine wpList_store_row rfl 22 (.tmp 4) (.tmp 18) rfl (w.heap.size + 1 + 1) (bA 16 R) rfl rfl 22 (bA 16 fun _ => 0) HZ1.out (by rw [b16_size, bA_size]) (by rw [bA_size, bA_size]) (bA_one _ _) ?_))
      exact bodyPost_ret (v := .agg (bA 16 R)) (results_cell_row Tryd.results65 _ _ (w.heap.size + 1 + 1) 22 (bA 16 R) (0, 0) _ rfl (setRow_heap _ _ _ _ _ _ HZ1.out) Tryd.underlying22 rfl (by rw [b16_size, bA_size])) rfl ⟨by rw [HR.out], below_setRow HW1.out (by omega) _⟩
end Go.Proofs.YtcjbplgjjhenkaaDoor
/-
  Package aes: the columns mixed, by a function that a function hands back, by contracts.
-/
namespace Go.Proofs.YtcjbplgjjhenkaaDoor
open Go.RowKit
set_option linter.unusedVariables false
set_option linter.unusedSimpArgs false

set_option maxHeartbeats 1000000 in
theorem amixer_any (w : World) (co : Nat → UInt8) : Calls Tryd.prog 75 #[.agg (bA 4 co)] w fun e w' => (∃ g, e = .returned (.func (.func 82) #[] #[.pointer (some ⟨g, 0, none⟩)]) ∧ w.heap.size ≤ g ∧ Blk w' g 105 (bA 4 co)) ∧ Below w.heap.size w w' := by
  have hmf : ∀ (fn : Fn) (first cap : Array Value) (w : World), (Instr.makeFunc fn first cap).run Tryd.prog w = .ok (.func fn first cap) w := fun _ _ _ _ => rfl
  go_enter Tryd.func75, Tryd.ntmps75
  go_wp2
  go_ret
  exact ⟨⟨w.heap.size, rfl, Nat.le_refl _, Blk.new w _ _⟩, (Below.refl _ _).alloc (Nat.le_refl _) _⟩
/-- A column moved n times. -/
def rotN (a : Nat → UInt8) (n : Nat) : Nat → UInt8 := fun j => a ((j + n) % 4)
theorem rotN_zero (a : Nat → UInt8) : bA 4 (rotN a 0) = bA 4 a := bA_ext fun j hj => congrArg a (by omega)
theorem rotN_succ (a : Nat → UInt8) (n : Nat) : bA 4 (mvd (rotN a n)) = bA 4 (rotN a (n + 1)) := bA_ext fun j hj => congrArg a (by omega)
/-- A column mixed. -/
def mixC (co a : Nat → UInt8) : Nat → UInt8 := fun r => gdot co (rotN a r)
structure MEnv (w : World) (gi : Nat) (co a : Nat → UInt8) (n : Nat) (W : World) : Prop where
  bc : Blk W gi 105 (bA 4 co)
  ba : Blk W w.heap.size 105 (bA 4 (rotN a n))
  bz : Blk W (w.heap.size + 1) 105 (bA 4 fun _ => 0)
  bw : Below w.heap.size w W
theorem MEnv.alloc {w W : World} {gi n : Nat} {co a : Nat → UInt8} (h : MEnv w gi co a n W) (o : Obj) : MEnv w gi co a n (W.alloc o) := ⟨h.bc.alloc o, h.ba.alloc o, h.bz.alloc o, h.bw.alloc h.bw.size o⟩
theorem MEnv.set {w W : World} {gi n : Nat} {co a : Nat → UInt8} (h : MEnv w gi co a n W) {g : Nat} (hg : w.heap.size + 2 ≤ g) (hgi : gi < w.heap.size) (i : Nat) (u : Value) : MEnv w gi co a n (W.setCell ⟨g, i, none⟩ u) :=
  ⟨h.bc.far (by show gi ≠ g; omega) u, h.ba.far (by show w.heap.size ≠ g; omega) u, h.bz.far (by show w.heap.size + 1 ≠ g; omega) u, h.bw.setCell (by show w.heap.size ≤ g; omega) u⟩
theorem MEnv.below {w W W' : World} {gi n : Nat} {co a : Nat → UInt8} (h : MEnv w gi co a n W) (k : Below W.heap.size W W') : MEnv w gi co a n W' :=
  ⟨h.bc.below k h.bc.lt, h.ba.below k h.ba.lt, h.bz.below k h.bz.lt, h.bw.trans (k.mono h.bw.size)⟩
theorem menv_start (w : World) (gi : Nat) (co a : Nat → UInt8) (hgi : Blk w gi 105 (bA 4 co)) :
    MEnv w gi co a 0 (((w.alloc (.cells (bA 4 a) 105)).alloc (.cells (bA 4 fun _ => 0) 105)).alloc (.cells (bA 4 fun _ => 0) 105)) ∧
    Blk (((w.alloc (.cells (bA 4 a) 105)).alloc (.cells (bA 4 fun _ => 0) 105)).alloc (.cells (bA 4 fun _ => 0) 105)) (w.heap.size + 1 + 1) 105 (bA 4 fun _ => 0) := by
  have n0 := Blk.new w 105 (bA 4 a)
  have n1 := Blk.new (w.alloc (.cells (bA 4 a) 105)) 105 (bA 4 fun _ => 0)
  have n2 := Blk.new ((w.alloc (.cells (bA 4 a) 105)).alloc (.cells (bA 4 fun _ => 0) 105)) 105 (bA 4 fun _ => 0)
  simp only [World.size_alloc] at n1 n2
  rw [← rotN_zero] at n0
  refine ⟨⟨((hgi.alloc _).alloc _).alloc _, ?_, n1.alloc _, (((Below.refl _ _).alloc (Nat.le_refl _) _).alloc (by simp) _).alloc (by simp; omega) _⟩, n2⟩
  rw [rotN_zero] at n0 ⊢
  exact (n0.alloc _).alloc _
set_option maxHeartbeats 2000000 in
set_option maxRecDepth 100000 in
theorem amix1_any (w : World) (gi : Nat) (co a : Nat → UInt8) (hgi : Blk w gi 105 (bA 4 co)) : Calls Tryd.prog 82 #[.agg (bA 4 a), .pointer (some ⟨gi, 0, none⟩)] w fun e w' => e = .returned (.agg (bA 4 (mixC co a))) ∧ Below w.heap.size w w' := by
  have hgl := hgi.lt
  have HGI := kept hgi
  clear hgi
  go_enter Tryd.func82, Tryd.ntmps82
  go_upto_region 2 with (fail)
  go_name_world W0 hW0
  have hE := menv_start w gi co a HGI.out
  have HE0 := kept (show MEnv w gi co a 0 W0 by rw [← hW0]; exact hE.1)
  have HO0 := kept (show Blk W0 (w.heap.size + 1 + 1) 105 (bA 4 (fillF (mixC co a) 0)) by rw [← hW0]; exact hE.2)
  clear hE hW0
  go_wp2_with fail
  go_loopw [6] (fun i wr => ∃ n : Nat, n ≤ 4 ∧ i = .int .i64 n ∧ Kept (MEnv w gi co a n wr) ∧ Kept (Blk wr (w.heap.size + 1 + 1) 105 (bA 4 (fillF (mixC co a) n)))) (fun i _ => 4 - (intOf i).toNat)
  case atStart => exact ⟨0, Nat.zero_le _, rfl, HE0, HO0⟩
  case round =>
    obtain ⟨n, hn, rfl, HE1, HO1⟩ := hrel
    rename World => W1
    clear HE0 HO0
    by_cases hlt : n < 4
    · have hn4 : (n : Int) < 4 := by omega
      have HG := kept (show mixC co a n = gdot co (rotN a n) from rfl)
      have HRS := kept (rotN_succ a n)
      have HM := kept (fun w => amov_any w (rotN a n))
      have HD := kept (fun w => fdot_any w co (rotN a n))
      obtain ⟨A1, hA1⟩ : ∃ f, rotN a n = f := ⟨_, rfl⟩
      have HBA := kept (show Blk W1 w.heap.size 105 (bA 4 A1) by rw [← hA1]; exact HE1.out.ba)
      rw [hA1] at HG HRS HM HD
      clear hA1
      go_wp2_with (first | (refine wpList_load_row rfl 105 (.tmp 1) rfl gi rfl 105 (bA 4 co) (0, 0) _ HE1.out.bc Tryd.underlying105 rfl (by rw [b4_size, bA_size]) ?_) | (refine wpList_load_row rfl 105 (.tmp 2) rfl w.heap.size rfl 105 (bA 4 A1) (0, 0) _ HBA.out Tryd.underlying105 rfl (by rw [b4_size, bA_size]) ?_))
      refine (HD.out W1).mono ?_
      rintro e W2 ⟨rfl, k⟩
      have HE2 := kept (HE1.out.below k)
      have HBA2 := kept (HBA.out.below k HBA.out.lt)
      have HO2 := kept (HO1.out.below k HO1.out.lt)
      clear HE1 HBA HO1 k HD
      have c3 : W2.cell? ⟨w.heap.size + 1 + 1, n, none⟩ = some (.int .u8 0) := by rw [HO2.out.cell, bA_at _ _ hlt, fillF_at]; rfl
      have f3 := HO2.out.frozen n
      generalize gdot co A1 = D at HG
      go_upto_region 6 with (fail)
      go_name_world W3 hW3
      have HE3 := kept (show MEnv w gi co a n W3 by rw [← hW3]; exact HE2.out.set (by omega) hgl _ _)
      have HBA3 := kept (show Blk W3 w.heap.size 105 (bA 4 A1) by rw [← hW3]; exact HBA2.out.far (by show w.heap.size ≠ w.heap.size + 1 + 1; omega) _)
      have HO3 := kept (show Blk W3 (w.heap.size + 1 + 1) 105 (bA 4 (fillF (mixC co a) (n + 1))) by rw [← hW3]; exact HO2.out.putB n D fun j _ => by rw [← HG.out]; exact fillF_set _ _ _ rfl j)
      clear hW3 HE2 HBA2 HO2 c3 f3 HG
      go_wp2_with (refine wpList_load_row rfl 105 (.tmp 2) rfl w.heap.size rfl 105 (bA 4 A1) (0, 0) _ HBA3.out Tryd.underlying105 rfl (by rw [b4_size, bA_size]) ?_)
      refine (HM.out W3).mono ?_
      rintro e W4 ⟨rfl, k⟩
      have HE4 := kept (HE3.out.below k)
      have HBA4 := kept (HBA3.out.below k HBA3.out.lt)
      have HO4 := kept (HO3.out.below k HO3.out.lt)
      clear HE3 HBA3 HO3 k HM
      generalize mvd A1 = A2 at HRS
      go_wp2_with (refine wpList_store_row rfl 105 (.tmp 2) (.tmp 15) rfl w.heap.size (bA 4 A2) rfl rfl 105 (bA 4 A1) HBA4.out (by rw [b4_size, bA_size]) (by rw [bA_size, bA_size]) (bA_one _ _) ?_)
      go_roundw
      case rel => exact ⟨n + 1, by omega, by go_num, kept ⟨HE4.out.bc.row_far (by omega), by rw [← HRS.out]; exact setRow_heap _ _ _ _ _ _ HBA4.out, HE4.out.bz.row_far (by omega), below_setRow HE4.out.bw (Nat.le_refl _) _⟩, kept (HO4.out.row_far (by omega))⟩
      case measure => simp [intOf]; omega
    · obtain rfl : n = 4 := by omega
      have HO2 := kept (show Blk W1 (w.heap.size + 1 + 1) 105 (bA 4 (mixC co a)) by rw [← fillF_all]; exact HO1.out)
      obtain ⟨R, hR⟩ : ∃ R, mixC co a = R := ⟨_, rfl⟩
      rw [hR] at HO2
      have HR := kept hR
      clear HO1 hn hlt hR
      go_wp2_with (first | (refine wpList_load_row rfl 105 (.tmp 4) rfl (w.heap.size + 1 + 1) rfl 105 (bA 4 R) (0, 0) _ HO2.out Tryd.underlying105 rfl (by rw [b4_size, bA_size]) ?_) | (refine wpList_store_row rfl 105 (.tmp 3) (.tmp 17) rfl (w.heap.size + 1) (bA 4 R) rfl rfl 105 (bA 4 fun _ => 0) HE1.out.bz (by rw [b4_size, bA_size]) (by rw [bA_size, bA_size]) (bA_one _ _) ?_))
      exact bodyPost_ret (v := .agg (bA 4 R)) (results_cell_row Tryd.results82 _ _ (w.heap.size + 1) 105 (bA 4 R) (0, 0) _ rfl (setRow_heap _ _ _ _ _ _ HE1.out.bz) Tryd.underlying105 rfl (by rw [b4_size, bA_size])) rfl ⟨by rw [HR.out], below_setRow HE1.out.bw (by omega) _⟩
end Go.Proofs.YtcjbplgjjhenkaaDoor
namespace Go.Proofs.YtcjbplgjjhenkaaDoor
open Go.RowKit
set_option linter.unusedVariables false
set_option linter.unusedSimpArgs false

theorem mixC_cong (co : Nat → UInt8) {a a' : Nat → UInt8} (h : ∀ j, j < 4 → a j = a' j) (r : Nat) : mixC co a r = mixC co a' r := by
  unfold mixC gdot rotN
  rw [h _ (Nat.mod_lt _ (by omega)), h _ (Nat.mod_lt _ (by omega)), h _ (Nat.mod_lt _ (by omega)), h _ (Nat.mod_lt _ (by omega))]
/-- The columns mixed. -/
def mixB (co b : Nat → UInt8) : Nat → UInt8 := fun j => mixC co (fun r => b (4 * (j / 4) + r)) (j % 4)
/-- The first n columns mixed. -/
def mixP (co b : Nat → UInt8) (n : Nat) : Nat → UInt8 := fun j => if j < 4 * n then mixB co b j else b j
theorem splice_bA (f m : Nat → UInt8) (n o k : Nat) (h : o + k ≤ n) : (splice (bA n f).toList o (bA k m).toList).toArray = bA n fun j => if o ≤ j ∧ j < o + k then m (j - o) else f j := by
  have hn : (bA n f).toList.length = n := by rw [Array.length_toList, bA_size]
  have hk : (bA k m).toList.length = k := by rw [Array.length_toList, bA_size]
  apply Array.ext_getElem?
  intro j
  rw [List.getElem?_toArray]
  unfold splice
  by_cases hj : j < n
  · rw [bA_at n _ hj]
    by_cases h1 : j < o
    · rw [List.getElem?_append_left (by rw [List.length_take, hn]; omega), List.getElem?_take_of_lt h1, Array.getElem?_toList, bA_at n _ hj, if_neg (by omega)]
    · rw [List.getElem?_append_right (by rw [List.length_take, hn]; omega), List.length_take, hn, show min o n = o by omega]
      by_cases h2 : j < o + k
      · rw [List.getElem?_append_left (by rw [hk]; omega), Array.getElem?_toList, bA_at k _ (by omega), if_pos (by omega)]
      · rw [List.getElem?_append_right (by rw [hk]; omega), hk, List.getElem?_drop, Array.getElem?_toList, show o + k + (j - o - k) = j by omega, bA_at n _ hj, if_neg (by omega)]
  · rw [Array.getElem?_eq_none (by rw [bA_size]; omega), List.getElem?_eq_none]
    rw [List.length_append, List.length_append, List.length_take, List.length_drop, hn, hk]
    omega
theorem mixP_step (co b : Nat → UInt8) (n : Nat) (hn : n < 4) : (splice (bA 16 (mixP co b n)).toList (4 * n) (bA 4 (mixC co fun r => mixP co b n (4 * n + r))).toList).toArray = bA 16 (mixP co b (n + 1)) := by
  rw [splice_bA _ _ 16 (4 * n) 4 (by omega)]
  refine bA_ext fun j hj => ?_
  unfold mixP
  by_cases h : 4 * n ≤ j ∧ j < 4 * n + 4
  · rw [if_pos h, if_pos (by omega)]
    unfold mixB
    rw [show j / 4 = n by omega, show j % 4 = j - 4 * n by omega]
    exact mixC_cong co (fun r hr => if_neg (by omega)) _
  · rw [if_neg h]
    by_cases h2 : j < 4 * n
    · rw [if_pos h2, if_pos (by omega)]
    · rw [if_neg h2, if_neg (by omega)]
theorem mixP_all (co b : Nat → UInt8) : bA 16 (mixP co b 4) = bA 16 (mixB co b) := bA_ext fun j hj => if_pos (by omega)
structure CEnv (w : World) (gi : Nat) (co : Nat → UInt8) (W : World) : Prop where
  bc : Blk W gi 105 (bA 4 co)
  bz : Blk W (w.heap.size + 1) 22 (bA 16 fun _ => 0)
  bw : Below w.heap.size w W
theorem CEnv.alloc {w W : World} {gi : Nat} {co : Nat → UInt8} (h : CEnv w gi co W) (o : Obj) : CEnv w gi co (W.alloc o) := ⟨h.bc.alloc o, h.bz.alloc o, h.bw.alloc h.bw.size o⟩
theorem CEnv.below {w W W' : World} {gi : Nat} {co : Nat → UInt8} (h : CEnv w gi co W) (k : Below W.heap.size W W') : CEnv w gi co W' := ⟨h.bc.below k h.bc.lt, h.bz.below k h.bz.lt, h.bw.trans (k.mono h.bw.size)⟩
theorem CEnv.drew {w W : World} {gi : Nat} {co : Nat → UInt8} (h : CEnv w gi co W) : CEnv w gi co W.drew := ⟨h.bc.drew_, h.bz.drew_, h.bw.drew⟩
theorem CEnv.row {w W : World} {gi g : Nat} {co : Nat → UInt8} (h : CEnv w gi co W) (hgi : gi < w.heap.size) (hg : w.heap.size ≤ g) (hg1 : g ≠ w.heap.size + 1) (ds : Array Value) : CEnv w gi co (W.setRow g ds) :=
  ⟨h.bc.row_far (by omega), h.bz.row_far (by omega), below_setRow h.bw hg _⟩
set_option maxHeartbeats 2000000 in
set_option maxRecDepth 100000 in
theorem amixed_any (w : World) (gi : Nat) (co b : Nat → UInt8) (hgi : Blk w gi 105 (bA 4 co)) : Calls Tryd.prog 74 #[.agg (bA 16 b), .func (.func 82) #[] #[.pointer (some ⟨gi, 0, none⟩)]] w fun e w' => e = .returned (.agg (bA 16 (mixB co b))) ∧ Below w.heap.size w w' := by
  have hgl := hgi.lt
  have HGI := kept hgi
  clear hgi
  go_enter Tryd.func74, Tryd.ntmps74
  go_upto_region 1 with (fail)
  go_name_world W0 hW0
  have HE0 := kept (show CEnv w gi co W0 by
    rw [← hW0]
    have n1 := Blk.new (w.alloc (.cells (bA 16 b) 22)) 22 (bA 16 fun _ => 0)
    simp only [World.size_alloc] at n1
    exact ⟨(HGI.out.alloc _).alloc _, n1, ((Below.refl _ _).alloc (Nat.le_refl _) _).alloc (by simp) _⟩)
  have HB0 := kept (show Blk W0 w.heap.size 22 (bA 16 (mixP co b 0)) by
    rw [← hW0, show bA 16 (mixP co b 0) = bA 16 b from bA_ext fun j _ => if_neg (by omega)]
    exact (Blk.new w _ _).alloc _)
  clear hW0
  go_wp2_with fail
  go_loopw [7] (fun i wr => ∃ n : Nat, n ≤ 4 ∧ i = .int .i64 n ∧ Kept (CEnv w gi co wr) ∧ Kept (Blk wr w.heap.size 22 (bA 16 (mixP co b n)))) (fun i _ => 4 - (intOf i).toNat)
  case atStart => exact ⟨0, Nat.zero_le _, rfl, HE0, HB0⟩
  case round =>
    obtain ⟨n, hn, rfl, HE1, HB1⟩ := hrel
    rename World => W1
    clear HE0 HB0
    by_cases hlt : n < 4
    · have hn4 : (n : Int) < 4 := by omega
      have HS := kept (mixP_step co b n hlt)
      have HC := kept (fun w => acol_any w (mixP co b n) n hlt)
      obtain ⟨P, hP⟩ : ∃ P, mixP co b n = P := ⟨_, rfl⟩
      rw [hP] at HS HC HB1
      clear hP
      obtain ⟨C, hC⟩ : ∃ C : Nat → UInt8, (fun r => P (4 * n + r)) = C := ⟨_, rfl⟩
      rw [hC] at HS HC
      clear hC
      go_wp2_with (refine wpList_load_row rfl 22 (.tmp 2) rfl w.heap.size rfl 22 (bA 16 P) (0, 0) _ HB1.out Tryd.underlying22 rfl (by rw [b16_size, bA_size]) ?_)
      refine (HC.out W1).mono ?_
      rintro e W2 ⟨rfl, k⟩
      have HE2 := kept (HE1.out.below k)
      have HB2 := kept (HB1.out.below k HB1.out.lt)
      clear HE1 HB1 k HC
      go_wp2_with fail
      refine (amix1_any W2 gi co C HE2.out.bc).mono ?_
      rintro e W3 ⟨rfl, k⟩
      have HE3 := kept (HE2.out.below k)
      have HB3 := kept (HB2.out.below k HB2.out.lt)
      clear HE2 HB2 k
      obtain ⟨M, hM⟩ : ∃ M, mixC co C = M := ⟨_, rfl⟩
      rw [hM] at HS
      rw [hM]
      clear hM
      have hgl3 : w.heap.size + 1 < W3.heap.size := HE3.out.bz.lt
      go_upto_region 5 with (refine wpList_store_row rfl 105 (.tmp 6) (.tmp 14) rfl W3.heap.size (bA 4 M) rfl rfl 105 (bA 4 fun _ => 0) (Blk.new W3 _ _) (by rw [b4_size, bA_size]) (by rw [bA_size, bA_size]) (bA_one _ _) ?_)
      go_name_world W4 hW4
      have HE4 := kept (show CEnv w gi co W4 by rw [← hW4]; exact (HE3.out.alloc _).row hgl (by omega) (by omega) _)
      have HB4 := kept (show Blk W4 w.heap.size 22 (bA 16 P) by rw [← hW4]; exact (HB3.out.alloc _).row_far (by omega))
      have HM4 := kept (show Blk W4 W3.heap.size 105 (bA 4 M) by rw [← hW4]; exact setRow_heap _ _ _ _ _ _ (Blk.new W3 _ _))
      clear hW4 HE3 HB3
      generalize W3.heap.size = g6 at hgl3 HM4
      have hwr : IntKind.i64.wrap (4 * (n : Int)) = 4 * (n : Int) := IntWalk.i64_in _ (by omega)
      have hs1 := fun w' => slice16_l w' w.heap.size n hlt
      have hs2 := fun w' => slice4_all w' g6
      have HSRC := kept (show ∀ j v, (bA 4 M).toList[j]? = some v → W4.drew.cell? ((⟨g6, 0, none⟩ : Addr).add j) = some v from fun j v hv => by
        rw [Addr.add_mid, Nat.zero_add]
        show W4.cell? _ = _
        rw [HM4.out.cell]
        simpa using hv)
      have hlm : (bA 4 M).toList.length = 4 := by rw [Array.length_toList, bA_size]
      have hlp : (bA 16 P).toList.length = 16 := by rw [Array.length_toList, bA_size]
      have HLM := kept hlm
      have HLP := kept hlp
      have HONE := kept (show ∀ v ∈ (bA 4 M).toList, v.oneCell' = true from fun v hv => by
        have := bA_one 4 M
        rw [Array.all_eq_true_iff_forall_mem] at this
        exact this v (by simpa using hv))
      clear hlm hlp
      obtain ⟨CC, hCd⟩ : ∃ CC : World → Prop, CC = fun w' => w' = W4.drew := ⟨_, rfl⟩
      have HC := kept (show ∀ w', CC w' → w' = W4.drew from fun w' h => by rw [hCd] at h; exact h)
      have hC0 : CC W4.drew := by rw [hCd]
      clear hCd
      refine wp_region_tail CC 4 (by kernel_rfl) (by kernel_rfl) hC0 ?_
      simp only [List.take_succ_cons, List.take_zero, List.drop_succ_cons, List.drop_zero]
      quiet_step (exact fun _ => rfl)
      quiet_step (exact fun _ => rfl)
      quiet_step (exact fun _ => rfl)
      quiet_step (exact fun _ => rfl)
      refine wpQuiet_nil ?_
      intro W5 hC5
      rw [HC.out _ hC5]
      clear hC5 hC0 HC
      go_wp2_with (refine wpList_copy_own rfl (.tmp 17) (.tmp 18) 24 24 rfl 5 Tryd.underlying24 u8_size w.heap.size (4 * n) (16 - 4 * n) (16 - 4 * n) ⟨g6, 0, none⟩ 4 4 rfl rfl (bA 16 P) 22 HB4.out (bA 4 M).toList (by rw [HLM.out]; show _ = min _ _; omega) HSRC.out (by rw [HLM.out, bA_size]; omega) HONE.out ?_)
      refine ⟨⟨n + 1, by omega, by go_num, kept (HE4.out.drew.row hgl (Nat.le_refl _) (by omega) _), kept ?_⟩, ?_⟩
      · rw [← HS.out]
        exact setRow_heap _ _ _ _ _ _ HB4.out.drew_
      · simp [intOf]
        omega
    · obtain rfl : n = 4 := by omega
      have HB2 := kept (show Blk W1 w.heap.size 22 (bA 16 (mixB co b)) by rw [← mixP_all]; exact HB1.out)
      obtain ⟨R, hR⟩ : ∃ R, mixB co b = R := ⟨_, rfl⟩
      rw [hR] at HB2
      have HR := kept hR
      clear HB1 hn hlt hR
      go_wp2_with (first | (refine wpList_load_row rfl 22 (.tmp 2) rfl w.heap.size rfl 22 (bA 16 R) (0, 0) _ HB2.out Tryd.underlying22 rfl (by rw [b16_size, bA_size]) ?_) | (refine wpList_store_row rfl 22 (.tmp 4) (.tmp 21) rfl (w.heap.size + 1) (bA 16 R) rfl rfl 22 (bA 16 fun _ => 0) HE1.out.bz (by rw [b16_size, bA_size]) (by rw [bA_size, bA_size]) (bA_one _ _) ?_))
      exact bodyPost_ret (v := .agg (bA 16 R)) (results_cell_row Tryd.results74 _ _ (w.heap.size + 1) 22 (bA 16 R) (0, 0) _ rfl (setRow_heap _ _ _ _ _ _ HE1.out.bz) Tryd.underlying22 rfl (by rw [b16_size, bA_size])) rfl ⟨by rw [HR.out], below_setRow HE1.out.bw (by omega) _⟩
end Go.Proofs.YtcjbplgjjhenkaaDoor
