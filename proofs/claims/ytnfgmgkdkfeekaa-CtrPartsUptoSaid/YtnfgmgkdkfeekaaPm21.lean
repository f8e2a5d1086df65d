/-
  Package aes: a block whose columns are mixed, by a contract.
-/
import Derived.Test.YtnfgmgkdkfeekaaPm13
import Derived.Laws.CopyOwn
import Derived.StillTailTactics
import Derived.Test.YtnfgmgkdkfeekaaPm8
/-
  Package aes: the columns mixed, by a function that a function hands back, by contracts.
-/
namespace Go.Proofs.Ytnfgmgkdkfeekaa
open Go.RowKit
set_option linter.unusedVariables false
set_option linter.unusedSimpArgs false

set_option maxHeartbeats 1000000 in
theorem amixer_any (w : World) (co : Nat → UInt8) : Calls Try.prog 40 #[.agg (bA 4 co)] w fun e w' => (∃ g, e = .returned (.func (.func 47) #[] #[.pointer (some ⟨g, 0, none⟩)]) ∧ w.heap.size ≤ g ∧ Blk w' g 70 (bA 4 co)) ∧ Below w.heap.size w w' := by
  have hmf : ∀ (fn : Fn) (first cap : Array Value) (w : World), (Instr.makeFunc fn first cap).run Try.prog w = .ok (.func fn first cap) w := fun _ _ _ _ => rfl
  go_enter Try.func40, Try.ntmps40
  go_wp2
  go_ret
  exact ⟨⟨w.heap.size, rfl, Nat.le_refl _, Blk.new w _ _⟩, (Below.refl _ _).alloc (Nat.le_refl _) _⟩
/-- A column moved n times. -/
def rotN (a : Nat → UInt8) (n : Nat) : Nat → UInt8 := fun j => a ((j + n) % 4)
theorem rotN_zero (a : Nat → UInt8) : bA 4 (rotN a 0) = bA 4 a := bA_ext fun j hj => congrArg a (by omega)
theorem rotN_succ (a : Nat → UInt8) (n : Nat) : bA 4 (mvd (rotN a n)) = bA 4 (rotN a (n + 1)) := bA_ext fun j hj => congrArg a (by omega)
/-- A column mixed. -/
def mixC (co a : Nat → UInt8) : Nat → UInt8 := fun r => gdot co (rotN a r)
structure MEnv (w : World) (gi : Nat) (co a : Nat → UInt8) (n : Nat) (W : World) : Prop where
  bc : Blk W gi 70 (bA 4 co)
  ba : Blk W w.heap.size 70 (bA 4 (rotN a n))
  bz : Blk W (w.heap.size + 1) 70 (bA 4 fun _ => 0)
  bw : Below w.heap.size w W
theorem MEnv.alloc {w W : World} {gi n : Nat} {co a : Nat → UInt8} (h : MEnv w gi co a n W) (o : Obj) : MEnv w gi co a n (W.alloc o) := ⟨h.bc.alloc o, h.ba.alloc o, h.bz.alloc o, h.bw.alloc h.bw.size o⟩
theorem MEnv.set {w W : World} {gi n : Nat} {co a : Nat → UInt8} (h : MEnv w gi co a n W) {g : Nat} (hg : w.heap.size + 2 ≤ g) (hgi : gi < w.heap.size) (i : Nat) (u : Value) : MEnv w gi co a n (W.setCell ⟨g, i, none⟩ u) :=
  ⟨h.bc.far (by show gi ≠ g; omega) u, h.ba.far (by show w.heap.size ≠ g; omega) u, h.bz.far (by show w.heap.size + 1 ≠ g; omega) u, h.bw.setCell (by show w.heap.size ≤ g; omega) u⟩
theorem MEnv.below {w W W' : World} {gi n : Nat} {co a : Nat → UInt8} (h : MEnv w gi co a n W) (k : Below W.heap.size W W') : MEnv w gi co a n W' :=
  ⟨h.bc.below k h.bc.lt, h.ba.below k h.ba.lt, h.bz.below k h.bz.lt, h.bw.trans (k.mono h.bw.size)⟩
theorem menv_start (w : World) (gi : Nat) (co a : Nat → UInt8) (hgi : Blk w gi 70 (bA 4 co)) :
    MEnv w gi co a 0 (((w.alloc (.cells (bA 4 a) 70)).alloc (.cells (bA 4 fun _ => 0) 70)).alloc (.cells (bA 4 fun _ => 0) 70)) ∧
    Blk (((w.alloc (.cells (bA 4 a) 70)).alloc (.cells (bA 4 fun _ => 0) 70)).alloc (.cells (bA 4 fun _ => 0) 70)) (w.heap.size + 1 + 1) 70 (bA 4 fun _ => 0) := by
  have n0 := Blk.new w 70 (bA 4 a)
  have n1 := Blk.new (w.alloc (.cells (bA 4 a) 70)) 70 (bA 4 fun _ => 0)
  have n2 := Blk.new ((w.alloc (.cells (bA 4 a) 70)).alloc (.cells (bA 4 fun _ => 0) 70)) 70 (bA 4 fun _ => 0)
  simp only [World.size_alloc] at n1 n2
  rw [← rotN_zero] at n0
  refine ⟨⟨((hgi.alloc _).alloc _).alloc _, ?_, n1.alloc _, (((Below.refl _ _).alloc (Nat.le_refl _) _).alloc (by simp) _).alloc (by simp; omega) _⟩, n2⟩
  rw [rotN_zero] at n0 ⊢
  exact (n0.alloc _).alloc _
set_option maxHeartbeats 2000000 in
set_option maxRecDepth 100000 in
theorem amix1_any (w : World) (gi : Nat) (co a : Nat → UInt8) (hgi : Blk w gi 70 (bA 4 co)) : Calls Try.prog 47 #[.agg (bA 4 a), .pointer (some ⟨gi, 0, none⟩)] w fun e w' => e = .returned (.agg (bA 4 (mixC co a))) ∧ Below w.heap.size w w' := by
  have hgl := hgi.lt
  have HGI := kept hgi
  clear hgi
  go_enter Try.func47, Try.ntmps47
  go_upto_region 2 with (fail)
  go_name_world W0 hW0
  have hE := menv_start w gi co a HGI.out
  have HE0 := kept (show MEnv w gi co a 0 W0 by rw [← hW0]; exact hE.1)
  have HO0 := kept (show Blk W0 (w.heap.size + 1 + 1) 70 (bA 4 (fillF (mixC co a) 0)) by rw [← hW0]; exact hE.2)
  clear hE hW0
  go_wp2_with fail
  go_loopw [6] (fun i wr => ∃ n : Nat, n ≤ 4 ∧ i = .int .i64 n ∧ Kept (MEnv w gi co a n wr) ∧ Kept (Blk wr (w.heap.size + 1 + 1) 70 (bA 4 (fillF (mixC co a) n)))) (fun i _ => 4 - (intOf i).toNat)
  case atStart => exact ⟨0, Nat.zero_le _, rfl, HE0, HO0⟩
  case round =>
    obtain ⟨n, hn, rfl, HE1, HO1⟩ := hrel
    rename World => W1
    clear HE0 HO0
    by_cases hlt : n < 4
    · have hn4 : (n : Int) < 4 := by omega
      have HG := kept (show mixC co a n = gdot co (rotN a n) from rfl)
      have HRS := kept (rotN_succ a n)
      have HM := kept (fun w => amov_any w (rotN a n))
      have HD := kept (fun w => fdot_any w co (rotN a n))
      obtain ⟨A1, hA1⟩ : ∃ f, rotN a n = f := ⟨_, rfl⟩
      have HBA := kept (show Blk W1 w.heap.size 70 (bA 4 A1) by rw [← hA1]; exact HE1.out.ba)
      rw [hA1] at HG HRS HM HD
      clear hA1
      go_wp2_with (first | (refine wpList_load_row rfl 70 (.tmp 1) rfl gi rfl 70 (bA 4 co) (0, 0) _ HE1.out.bc Try.underlying70 rfl (by rw [b4_size, bA_size]) ?_) | (refine wpList_load_row rfl 70 (.tmp 2) rfl w.heap.size rfl 70 (bA 4 A1) (0, 0) _ HBA.out Try.underlying70 rfl (by rw [b4_size, bA_size]) ?_))
      refine (HD.out W1).mono ?_
      rintro e W2 ⟨rfl, k⟩
      have HE2 := kept (HE1.out.below k)
      have HBA2 := kept (HBA.out.below k HBA.out.lt)
      have HO2 := kept (HO1.out.below k HO1.out.lt)
      clear HE1 HBA HO1 k HD
      have c3 : W2.cell? ⟨w.heap.size + 1 + 1, n, none⟩ = some (.int .u8 0) := by rw [HO2.out.cell, bA_at _ _ hlt, fillF_at]; rfl
      have f3 := HO2.out.frozen n
      generalize gdot co A1 = D at HG
      go_upto_region 6 with (fail)
      go_name_world W3 hW3
      have HE3 := kept (show MEnv w gi co a n W3 by rw [← hW3]; exact HE2.out.set (by omega) hgl _ _)
      have HBA3 := kept (show Blk W3 w.heap.size 70 (bA 4 A1) by rw [← hW3]; exact HBA2.out.far (by show w.heap.size ≠ w.heap.size + 1 + 1; omega) _)
      have HO3 := kept (show Blk W3 (w.heap.size + 1 + 1) 70 (bA 4 (fillF (mixC co a) (n + 1))) by rw [← hW3]; exact HO2.out.putB n D fun j _ => by rw [← HG.out]; exact fillF_set _ _ _ rfl j)
      clear hW3 HE2 HBA2 HO2 c3 f3 HG
      go_wp2_with (refine wpList_load_row rfl 70 (.tmp 2) rfl w.heap.size rfl 70 (bA 4 A1) (0, 0) _ HBA3.out Try.underlying70 rfl (by rw [b4_size, bA_size]) ?_)
      refine (HM.out W3).mono ?_
      rintro e W4 ⟨rfl, k⟩
      have HE4 := kept (HE3.out.below k)
      have HBA4 := kept (HBA3.out.below k HBA3.out.lt)
      have HO4 := kept (HO3.out.below k HO3.out.lt)
      clear HE3 HBA3 HO3 k HM
      generalize mvd A1 = A2 at HRS
      go_wp2_with (refine wpList_store_row rfl 70 (.tmp 2) (.tmp 15) rfl w.heap.size (bA 4 A2) rfl rfl 70 (bA 4 A1) HBA4.out (by rw [b4_size, bA_size]) (by rw [bA_size, bA_size]) (bA_one _ _) ?_)
      go_roundw
      case rel => exact ⟨n + 1, by omega, by go_num, kept ⟨HE4.out.bc.row_far (by omega), by rw [← HRS.out]; exact setRow_heap _ _ _ _ _ _ HBA4.out, HE4.out.bz.row_far (by omega), below_setRow HE4.out.bw (Nat.le_refl _) _⟩, kept (HO4.out.row_far (by omega))⟩
      case measure => simp [intOf]; omega
    · obtain rfl : n = 4 := by omega
      have HO2 := kept (show Blk W1 (w.heap.size + 1 + 1) 70 (bA 4 (mixC co a)) by rw [← fillF_all]; exact HO1.out)
      obtain ⟨R, hR⟩ : ∃ R, mixC co a = R := ⟨_, rfl⟩
      rw [hR] at HO2
      have HR := kept hR
      clear HO1 hn hlt hR
      go_wp2_with (first | (refine wpList_load_row rfl 70 (.tmp 4) rfl (w.heap.size + 1 + 1) rfl 70 (bA 4 R) (0, 0) _ HO2.out Try.underlying70 rfl (by rw [b4_size, bA_size]) ?_) | (refine wpList_store_row rfl 70 (.tmp 3) (.tmp 17) rfl (w.heap.size + 1) (bA 4 R) rfl rfl 70 (bA 4 fun _ => 0) HE1.out.bz (by rw [b4_size, bA_size]) (by rw [bA_size, bA_size]) (bA_one _ _) ?_))
      exact bodyPost_ret (v := .agg (bA 4 R)) (results_cell_row Try.results47 _ _ (w.heap.size + 1) 70 (bA 4 R) (0, 0) _ rfl (setRow_heap _ _ _ _ _ _ HE1.out.bz) Try.underlying70 rfl (by rw [b4_size, bA_size])) rfl ⟨by rw [HR.out], below_setRow HE1.out.bw (by omega) _⟩
end Go.Proofs.Ytnfgmgkdkfeekaa
namespace Go.Proofs.Ytnfgmgkdkfeekaa
open Go.RowKit
set_option linter.unusedVariables false
set_option linter.unusedSimpArgs false

theorem mixC_cong (co : Nat → UInt8) {a a' : Nat → UInt8} (h : ∀ j, j < 4 → a j = a' j) (r : Nat) : mixC co a r = mixC co a' r := by
  unfold mixC gdot rotN
  rw [h _ (Nat.mod_lt _ (by omega)), h _ (Nat.mod_lt _ (by omega)), h _ (Nat.mod_lt _ (by omega)), h _ (Nat.mod_lt _ (by omega))]
/-- The columns mixed. -/
def mixB (co b : Nat → UInt8) : Nat → UInt8 := fun j => mixC co (fun r => b (4 * (j / 4) + r)) (j % 4)
/-- The first n columns mixed. -/
def mixP (co b : Nat → UInt8) (n : Nat) : Nat → UInt8 := fun j => if j < 4 * n then mixB co b j else b j
theorem splice_bA (f m : Nat → UInt8) (n o k : Nat) (h : o + k ≤ n) : (splice (bA n f).toList o (bA k m).toList).toArray = bA n fun j => if o ≤ j ∧ j < o + k then m (j - o) else f j := by
  have hn : (bA n f).toList.length = n := by rw [Array.length_toList, bA_size]
  have hk : (bA k m).toList.length = k := by rw [Array.length_toList, bA_size]
  apply Array.ext_getElem?
  intro j
  rw [List.getElem?_toArray]
  unfold splice
  by_cases hj : j < n
  · rw [bA_at n _ hj]
    by_cases h1 : j < o
    · rw [List.getElem?_append_left (by rw [List.length_take, hn]; omega), List.getElem?_take_of_lt h1, Array.getElem?_toList, bA_at n _ hj, if_neg (by omega)]
    · rw [List.getElem?_append_right (by rw [List.length_take, hn]; omega), List.length_take, hn, show min o n = o by omega]
      by_cases h2 : j < o + k
      · rw [List.getElem?_append_left (by rw [hk]; omega), Array.getElem?_toList, bA_at k _ (by omega), if_pos (by omega)]
      · rw [List.getElem?_append_right (by rw [hk]; omega), hk, List.getElem?_drop, Array.getElem?_toList, show o + k + (j - o - k) = j by omega, bA_at n _ hj, if_neg (by omega)]
  · rw [Array.getElem?_eq_none (by rw [bA_size]; omega), List.getElem?_eq_none]
    rw [List.length_append, List.length_append, List.length_take, List.length_drop, hn, hk]
    omega
theorem mixP_step (co b : Nat → UInt8) (n : Nat) (hn : n < 4) : (splice (bA 16 (mixP co b n)).toList (4 * n) (bA 4 (mixC co fun r => mixP co b n (4 * n + r))).toList).toArray = bA 16 (mixP co b (n + 1)) := by
  rw [splice_bA _ _ 16 (4 * n) 4 (by omega)]
  refine bA_ext fun j hj => ?_
  unfold mixP
  by_cases h : 4 * n ≤ j ∧ j < 4 * n + 4
  · rw [if_pos h, if_pos (by omega)]
    unfold mixB
    rw [show j / 4 = n by omega, show j % 4 = j - 4 * n by omega]
    exact mixC_cong co (fun r hr => if_neg (by omega)) _
  · rw [if_neg h]
    by_cases h2 : j < 4 * n
    · rw [if_pos h2, if_pos (by omega)]
    · rw [if_neg h2, if_neg (by omega)]
theorem mixP_all (co b : Nat → UInt8) : bA 16 (mixP co b 4) = bA 16 (mixB co b) := bA_ext fun j hj => if_pos (by omega)
structure CEnv (w : World) (gi : Nat) (co : Nat → UInt8) (W : World) : Prop where
  bc : Blk W gi 70 (bA 4 co)
  bz : Blk W (w.heap.size + 1) 22 (bA 16 fun _ => 0)
  bw : Below w.heap.size w W
theorem CEnv.alloc {w W : World} {gi : Nat} {co : Nat → UInt8} (h : CEnv w gi co W) (o : Obj) : CEnv w gi co (W.alloc o) := ⟨h.bc.alloc o, h.bz.alloc o, h.bw.alloc h.bw.size o⟩
theorem CEnv.below {w W W' : World} {gi : Nat} {co : Nat → UInt8} (h : CEnv w gi co W) (k : Below W.heap.size W W') : CEnv w gi co W' := ⟨h.bc.below k h.bc.lt, h.bz.below k h.bz.lt, h.bw.trans (k.mono h.bw.size)⟩
theorem CEnv.drew {w W : World} {gi : Nat} {co : Nat → UInt8} (h : CEnv w gi co W) : CEnv w gi co W.drew := ⟨h.bc.drew_, h.bz.drew_, h.bw.drew⟩
theorem CEnv.row {w W : World} {gi g : Nat} {co : Nat → UInt8} (h : CEnv w gi co W) (hgi : gi < w.heap.size) (hg : w.heap.size ≤ g) (hg1 : g ≠ w.heap.size + 1) (ds : Array Value) : CEnv w gi co (W.setRow g ds) :=
  ⟨h.bc.row_far (by omega), h.bz.row_far (by omega), below_setRow h.bw hg _⟩
set_option maxHeartbeats 2000000 in
set_option maxRecDepth 100000 in
theorem amixed_any (w : World) (gi : Nat) (co b : Nat → UInt8) (hgi : Blk w gi 70 (bA 4 co)) : Calls Try.prog 39 #[.agg (bA 16 b), .func (.func 47) #[] #[.pointer (some ⟨gi, 0, none⟩)]] w fun e w' => e = .returned (.agg (bA 16 (mixB co b))) ∧ Below w.heap.size w w' := by
  have hgl := hgi.lt
  have HGI := kept hgi
  clear hgi
  go_enter Try.func39, Try.ntmps39
  go_upto_region 1 with (fail)
  go_name_world W0 hW0
  have HE0 := kept (show CEnv w gi co W0 by
    rw [← hW0]
    have n1 := Blk.new (w.alloc (.cells (bA 16 b) 22)) 22 (bA 16 fun _ => 0)
    simp only [World.size_alloc] at n1
    exact ⟨(HGI.out.alloc _).alloc _, n1, ((Below.refl _ _).alloc (Nat.le_refl _) _).alloc (by simp) _⟩)
  have HB0 := kept (show Blk W0 w.heap.size 22 (bA 16 (mixP co b 0)) by
    rw [← hW0, show bA 16 (mixP co b 0) = bA 16 b from bA_ext fun j _ => if_neg (by omega)]
    exact (Blk.new w _ _).alloc _)
  clear hW0
  go_wp2_with fail
  go_loopw [7] (fun i wr => ∃ n : Nat, n ≤ 4 ∧ i = .int .i64 n ∧ Kept (CEnv w gi co wr) ∧ Kept (Blk wr w.heap.size 22 (bA 16 (mixP co b n)))) (fun i _ => 4 - (intOf i).toNat)
  case atStart => exact ⟨0, Nat.zero_le _, rfl, HE0, HB0⟩
  case round =>
    obtain ⟨n, hn, rfl, HE1, HB1⟩ := hrel
    rename World => W1
    clear HE0 HB0
    by_cases hlt : n < 4
    · have hn4 : (n : Int) < 4 := by omega
      have HS := kept (mixP_step co b n hlt)
      have HC := kept (fun w => acol_any w (mixP co b n) n hlt)
      obtain ⟨P, hP⟩ : ∃ P, mixP co b n = P := ⟨_, rfl⟩
      rw [hP] at HS HC HB1
      clear hP
      obtain ⟨C, hC⟩ : ∃ C : Nat → UInt8, (fun r => P (4 * n + r)) = C := ⟨_, rfl⟩
      rw [hC] at HS HC
      clear hC
      go_wp2_with (refine wpList_load_row rfl 22 (.tmp 2) rfl w.heap.size rfl 22 (bA 16 P) (0, 0) _ HB1.out Try.underlying22 rfl (by rw [b16_size, bA_size]) ?_)
      refine (HC.out W1).mono ?_
      rintro e W2 ⟨rfl, k⟩
      have HE2 := kept (HE1.out.below k)
      have HB2 := kept (HB1.out.below k HB1.out.lt)
      clear HE1 HB1 k HC
      go_wp2_with fail
      refine (amix1_any W2 gi co C HE2.out.bc).mono ?_
      rintro e W3 ⟨rfl, k⟩
      have HE3 := kept (HE2.out.below k)
      have HB3 := kept (HB2.out.below k HB2.out.lt)
      clear HE2 HB2 k
      obtain ⟨M, hM⟩ : ∃ M, mixC co C = M := ⟨_, rfl⟩
      rw [hM] at HS
      rw [hM]
      clear hM
      have hgl3 : w.heap.size + 1 < W3.heap.size := HE3.out.bz.lt
      go_upto_region 5 with (refine wpList_store_row rfl 70 (.tmp 6) (.tmp 14) rfl W3.heap.size (bA 4 M) rfl rfl 70 (bA 4 fun _ => 0) (Blk.new W3 _ _) (by rw [b4_size, bA_size]) (by rw [bA_size, bA_size]) (bA_one _ _) ?_)
      go_name_world W4 hW4
      have HE4 := kept (show CEnv w gi co W4 by rw [← hW4]; exact (HE3.out.alloc _).row hgl (by omega) (by omega) _)
      have HB4 := kept (show Blk W4 w.heap.size 22 (bA 16 P) by rw [← hW4]; exact (HB3.out.alloc _).row_far (by omega))
      have HM4 := kept (show Blk W4 W3.heap.size 70 (bA 4 M) by rw [← hW4]; exact setRow_heap _ _ _ _ _ _ (Blk.new W3 _ _))
      clear hW4 HE3 HB3
      generalize W3.heap.size = g6 at hgl3 HM4
      have hwr : IntKind.i64.wrap (4 * (n : Int)) = 4 * (n : Int) := IntWalk.i64_in _ (by omega)
      have hs1 := fun w' => slice16_l w' w.heap.size n hlt
      have hs2 := fun w' => slice4_all w' g6
      have HSRC := kept (show ∀ j v, (bA 4 M).toList[j]? = some v → W4.drew.cell? ((⟨g6, 0, none⟩ : Addr).add j) = some v from fun j v hv => by
        rw [Addr.add_mid, Nat.zero_add]
        show W4.cell? _ = _
        rw [HM4.out.cell]
        simpa using hv)
      have hlm : (bA 4 M).toList.length = 4 := by rw [Array.length_toList, bA_size]
      have hlp : (bA 16 P).toList.length = 16 := by rw [Array.length_toList, bA_size]
      have HLM := kept hlm
      have HLP := kept hlp
      have HONE := kept (show ∀ v ∈ (bA 4 M).toList, v.oneCell' = true from fun v hv => by
        have := bA_one 4 M
        rw [Array.all_eq_true_iff_forall_mem] at this
        exact this v (by simpa using hv))
      clear hlm hlp
      obtain ⟨CC, hCd⟩ : ∃ CC : World → Prop, CC = fun w' => w' = W4.drew := ⟨_, rfl⟩
      have HC := kept (show ∀ w', CC w' → w' = W4.drew from fun w' h => by rw [hCd] at h; exact h)
      have hC0 : CC W4.drew := by rw [hCd]
      clear hCd
      refine wp_region_tail CC 4 (by kernel_rfl) (by kernel_rfl) hC0 ?_
      simp only [List.take_succ_cons, List.take_zero, List.drop_succ_cons, List.drop_zero]
      quiet_step (exact fun _ => rfl)
      quiet_step (exact fun _ => rfl)
      quiet_step (exact fun _ => rfl)
      quiet_step (exact fun _ => rfl)
      refine wpQuiet_nil ?_
      intro W5 hC5
      rw [HC.out _ hC5]
      clear hC5 hC0 HC
      go_wp2_with (refine wpList_copy_own rfl (.tmp 17) (.tmp 18) 27 27 rfl 5 Try.underlying27 u8_size w.heap.size (4 * n) (16 - 4 * n) (16 - 4 * n) ⟨g6, 0, none⟩ 4 4 rfl rfl (bA 16 P) 22 HB4.out (bA 4 M).toList (by rw [HLM.out]; show _ = min _ _; omega) HSRC.out (by rw [HLM.out, bA_size]; omega) HONE.out ?_)
      refine ⟨⟨n + 1, by omega, by go_num, kept (HE4.out.drew.row hgl (Nat.le_refl _) (by omega) _), kept ?_⟩, ?_⟩
      · rw [← HS.out]
        exact setRow_heap _ _ _ _ _ _ HB4.out.drew_
      · simp [intOf]
        omega
    · obtain rfl : n = 4 := by omega
      have HB2 := kept (show Blk W1 w.heap.size 22 (bA 16 (mixB co b)) by rw [← mixP_all]; exact HB1.out)
      obtain ⟨R, hR⟩ : ∃ R, mixB co b = R := ⟨_, rfl⟩
      rw [hR] at HB2
      have HR := kept hR
      clear HB1 hn hlt hR
      go_wp2_with (first | (refine wpList_load_row rfl 22 (.tmp 2) rfl w.heap.size rfl 22 (bA 16 R) (0, 0) _ HB2.out Try.underlying22 rfl (by rw [b16_size, bA_size]) ?_) | (refine wpList_store_row rfl 22 (.tmp 4) (.tmp 21) rfl (w.heap.size + 1) (bA 16 R) rfl rfl 22 (bA 16 fun _ => 0) HE1.out.bz (by rw [b16_size, bA_size]) (by rw [bA_size, bA_size]) (bA_one _ _) ?_))
      exact bodyPost_ret (v := .agg (bA 16 R)) (results_cell_row Try.results39 _ _ (w.heap.size + 1) 22 (bA 16 R) (0, 0) _ rfl (setRow_heap _ _ _ _ _ _ HE1.out.bz) Try.underlying22 rfl (by rw [b16_size, bA_size])) rfl ⟨by rw [HR.out], below_setRow HE1.out.bw (by omega) _⟩
end Go.Proofs.Ytnfgmgkdkfeekaa
