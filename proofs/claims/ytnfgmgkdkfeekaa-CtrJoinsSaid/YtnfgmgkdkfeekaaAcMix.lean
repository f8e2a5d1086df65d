/-
  Package aes: the columns mixed, by a function that a function hands back, by contracts.
-/
import Derived.Test.YtnfgmgkdkfeekaaAcSmall
import Derived.Laws.CopyOwn
namespace Go.Proofs.Ytnfgmgkdkfeekaa
open Go.RowKit
set_option linter.unusedVariables false
set_option linter.unusedSimpArgs false

set_option maxHeartbeats 1000000 in
theorem amixer_any (w : World) (co : Nat → UInt8) : Calls Try.prog 40 #[.agg (bA 4 co)] w fun e w' => (∃ g, e = .returned (.func (.func 47) #[] #[.pointer (some ⟨g, 0, none⟩)]) ∧ w.heap.size ≤ g ∧ Blk w' g 70 (bA 4 co)) ∧ Below w.heap.size w w' := by
  have hmf : ∀ (fn : Fn) (first cap : Array Value) (w : World), (Instr.makeFunc fn first cap).run Try.prog w = .ok (.func fn first cap) w := fun _ _ _ _ => rfl
  go_enter Try.func40, Try.ntmps40
  go_wp2
  go_ret
  exact ⟨⟨w.heap.size, rfl, Nat.le_refl _, Blk.new w _ _⟩, (Below.refl _ _).alloc (Nat.le_refl _) _⟩
/-- A column moved n times. -/
def rotN (a : Nat → UInt8) (n : Nat) : Nat → UInt8 := fun j => a ((j + n) % 4)
theorem rotN_zero (a : Nat → UInt8) : bA 4 (rotN a 0) = bA 4 a := bA_ext fun j hj => congrArg a (by omega)
theorem rotN_succ (a : Nat → UInt8) (n : Nat) : bA 4 (mvd (rotN a n)) = bA 4 (rotN a (n + 1)) := bA_ext fun j hj => congrArg a (by omega)
/-- A column mixed. -/
def mixC (co a : Nat → UInt8) : Nat → UInt8 := fun r => gdot co (rotN a r)
structure MEnv (w : World) (gi : Nat) (co a : Nat → UInt8) (n : Nat) (W : World) : Prop where
  bc : Blk W gi 70 (bA 4 co)
  ba : Blk W w.heap.size 70 (bA 4 (rotN a n))
  bz : Blk W (w.heap.size + 1) 70 (bA 4 fun _ => 0)
  bw : Below w.heap.size w W
theorem MEnv.alloc {w W : World} {gi n : Nat} {co a : Nat → UInt8} (h : MEnv w gi co a n W) (o : Obj) : MEnv w gi co a n (W.alloc o) := ⟨h.bc.alloc o, h.ba.alloc o, h.bz.alloc o, h.bw.alloc h.bw.size o⟩
theorem MEnv.set {w W : World} {gi n : Nat} {co a : Nat → UInt8} (h : MEnv w gi co a n W) {g : Nat} (hg : w.heap.size + 2 ≤ g) (hgi : gi < w.heap.size) (i : Nat) (u : Value) : MEnv w gi co a n (W.setCell ⟨g, i, none⟩ u) :=
  ⟨h.bc.far (by show gi ≠ g; omega) u, h.ba.far (by show w.heap.size ≠ g; omega) u, h.bz.far (by show w.heap.size + 1 ≠ g; omega) u, h.bw.setCell (by show w.heap.size ≤ g; omega) u⟩
theorem MEnv.below {w W W' : World} {gi n : Nat} {co a : Nat → UInt8} (h : MEnv w gi co a n W) (k : Below W.heap.size W W') : MEnv w gi co a n W' :=
  ⟨h.bc.below k h.bc.lt, h.ba.below k h.ba.lt, h.bz.below k h.bz.lt, h.bw.trans (k.mono h.bw.size)⟩
theorem menv_start (w : World) (gi : Nat) (co a : Nat → UInt8) (hgi : Blk w gi 70 (bA 4 co)) :
    MEnv w gi co a 0 (((w.alloc (.cells (bA 4 a) 70)).alloc (.cells (bA 4 fun _ => 0) 70)).alloc (.cells (bA 4 fun _ => 0) 70)) ∧
    Blk (((w.alloc (.cells (bA 4 a) 70)).alloc (.cells (bA 4 fun _ => 0) 70)).alloc (.cells (bA 4 fun _ => 0) 70)) (w.heap.size + 1 + 1) 70 (bA 4 fun _ => 0) := by
  have n0 := Blk.new w 70 (bA 4 a)
  have n1 := Blk.new (w.alloc (.cells (bA 4 a) 70)) 70 (bA 4 fun _ => 0)
  have n2 := Blk.new ((w.alloc (.cells (bA 4 a) 70)).alloc (.cells (bA 4 fun _ => 0) 70)) 70 (bA 4 fun _ => 0)
  simp only [World.size_alloc] at n1 n2
  rw [← rotN_zero] at n0
  refine ⟨⟨((hgi.alloc _).alloc _).alloc _, ?_, n1.alloc _, (((Below.refl _ _).alloc (Nat.le_refl _) _).alloc (by simp) _).alloc (by simp; omega) _⟩, n2⟩
  rw [rotN_zero] at n0 ⊢
  exact (n0.alloc _).alloc _
set_option maxHeartbeats 2000000 in
set_option maxRecDepth 100000 in
theorem amix1_any (w : World) (gi : Nat) (co a : Nat → UInt8) (hgi : Blk w gi 70 (bA 4 co)) : Calls Try.prog 47 #[.agg (bA 4 a), .pointer (some ⟨gi, 0, none⟩)] w fun e w' => e = .returned (.agg (bA 4 (mixC co a))) ∧ Below w.heap.size w w' := by
  have hgl := hgi.lt
  have HGI := kept hgi
  clear hgi
  go_enter Try.func47, Try.ntmps47
  go_upto_region 2 with (fail)
  go_name_world W0 hW0
  have hE := menv_start w gi co a HGI.out
  have HE0 := kept (show MEnv w gi co a 0 W0 by rw [← hW0]; exact hE.1)
  have HO0 := kept (show Blk W0 (w.heap.size + 1 + 1) 70 (bA 4 (fillF (mixC co a) 0)) by rw [← hW0]; exact hE.2)
  clear hE hW0
  go_wp2_with fail
  go_loopw [6] (fun i wr => ∃ n : Nat, n ≤ 4 ∧ i = .int .i64 n ∧ Kept (MEnv w gi co a n wr) ∧ Kept (Blk wr (w.heap.size + 1 + 1) 70 (bA 4 (fillF (mixC co a) n)))) (fun i _ => 4 - (intOf i).toNat)
  case atStart => exact ⟨0, Nat.zero_le _, rfl, HE0, HO0⟩
  case round =>
    obtain ⟨n, hn, rfl, HE1, HO1⟩ := hrel
    rename World => W1
    clear HE0 HO0
    by_cases hlt : n < 4
    · have hn4 : (n : Int) < 4 := by omega
      have HG := kept (show mixC co a n = gdot co (rotN a n) from rfl)
      have HRS := kept (rotN_succ a n)
      have HM := kept (fun w => amov_any w (rotN a n))
      have HD := kept (fun w => fdot_any w co (rotN a n))
      obtain ⟨A1, hA1⟩ : ∃ f, rotN a n = f := ⟨_, rfl⟩
      have HBA := kept (show Blk W1 w.heap.size 70 (bA 4 A1) by rw [← hA1]; exact HE1.out.ba)
      rw [hA1] at HG HRS HM HD
      clear hA1
      go_wp2_with (first | (refine wpList_load_row rfl 70 (.tmp 1) rfl gi rfl 70 (bA 4 co) (0, 0) _ HE1.out.bc Try.underlying70 rfl (by rw [b4_size, bA_size]) ?_) | (refine wpList_load_row rfl 70 (.tmp 2) rfl w.heap.size rfl 70 (bA 4 A1) (0, 0) _ HBA.out Try.underlying70 rfl (by rw [b4_size, bA_size]) ?_))
      refine (HD.out W1).mono ?_
      rintro e W2 ⟨rfl, k⟩
      have HE2 := kept (HE1.out.below k)
      have HBA2 := kept (HBA.out.below k HBA.out.lt)
      have HO2 := kept (HO1.out.below k HO1.out.lt)
      clear HE1 HBA HO1 k HD
      have c3 : W2.cell? ⟨w.heap.size + 1 + 1, n, none⟩ = some (.int .u8 0) := by rw [HO2.out.cell, bA_at _ _ hlt, fillF_at]; rfl
      have f3 := HO2.out.frozen n
      generalize gdot co A1 = D at HG
      go_upto_region 6 with (fail)
      go_name_world W3 hW3
      have HE3 := kept (show MEnv w gi co a n W3 by rw [← hW3]; exact HE2.out.set (by omega) hgl _ _)
      have HBA3 := kept (show Blk W3 w.heap.size 70 (bA 4 A1) by rw [← hW3]; exact HBA2.out.far (by show w.heap.size ≠ w.heap.size + 1 + 1; omega) _)
      have HO3 := kept (show Blk W3 (w.heap.size + 1 + 1) 70 (bA 4 (fillF (mixC co a) (n + 1))) by rw [← hW3]; exact HO2.out.putB n D fun j _ => by rw [← HG.out]; exact fillF_set _ _ _ rfl j)
      clear hW3 HE2 HBA2 HO2 c3 f3 HG
      go_wp2_with (refine wpList_load_row rfl 70 (.tmp 2) rfl w.heap.size rfl 70 (bA 4 A1) (0, 0) _ HBA3.out Try.underlying70 rfl (by rw [b4_size, bA_size]) ?_)
      refine (HM.out W3).mono ?_
      rintro e W4 ⟨rfl, k⟩
      have HE4 := kept (HE3.out.below k)
      have HBA4 := kept (HBA3.out.below k HBA3.out.lt)
      have HO4 := kept (HO3.out.below k HO3.out.lt)
      clear HE3 HBA3 HO3 k HM
      generalize mvd A1 = A2 at HRS
      go_wp2_with (refine wpList_store_row rfl 70 (.tmp 2) (.tmp 15) rfl w.heap.size (bA 4 A2) rfl rfl 70 (bA 4 A1) HBA4.out (by rw [b4_size, bA_size]) (by rw [bA_size, bA_size]) (bA_one _ _) ?_)
      go_roundw
      case rel => exact ⟨n + 1, by omega, by go_num, kept ⟨HE4.out.bc.row_far (by omega), by rw [← HRS.out]; exact setRow_heap _ _ _ _ _ _ HBA4.out, HE4.out.bz.row_far (by omega), below_setRow HE4.out.bw (Nat.le_refl _) _⟩, kept (HO4.out.row_far (by omega))⟩
      case measure => simp [intOf]; omega
    · obtain rfl : n = 4 := by omega
      have HO2 := kept (show Blk W1 (w.heap.size + 1 + 1) 70 (bA 4 (mixC co a)) by rw [← fillF_all]; exact HO1.out)
      obtain ⟨R, hR⟩ : ∃ R, mixC co a = R := ⟨_, rfl⟩
      rw [hR] at HO2
      have HR := kept hR
      clear HO1 hn hlt hR
      go_wp2_with (first | (refine wpList_load_row rfl 70 (.tmp 4) rfl (w.heap.size + 1 + 1) rfl 70 (bA 4 R) (0, 0) _ HO2.out Try.underlying70 rfl (by rw [b4_size, bA_size]) ?_) | (refine wpList_store_row rfl 70 (.tmp 3) (.tmp 17) rfl (w.heap.size + 1) (bA 4 R) rfl rfl 70 (bA 4 fun _ => 0) HE1.out.bz (by rw [b4_size, bA_size]) (by rw [bA_size, bA_size]) (bA_one _ _) ?_))
      exact bodyPost_ret (v := .agg (bA 4 R)) (results_cell_row Try.results47 _ _ (w.heap.size + 1) 70 (bA 4 R) (0, 0) _ rfl (setRow_heap _ _ _ _ _ _ HE1.out.bz) Try.underlying70 rfl (by rw [b4_size, bA_size])) rfl ⟨by rw [HR.out], below_setRow HE1.out.bw (by omega) _⟩
end Go.Proofs.Ytnfgmgkdkfeekaa
