/-
  Package ctr: bytes combined with others in place, by a contract.
-/
import Derived.Test.YtcjbplgjjhenkaaDoorSm12
import Derived.Test.YtcjbplgjjhenkaaDoorSm22
import Derived.Test.YtcjbplgjjhenkaaDoorSm4
import Derived.Deep.Cut
import Derived.BigRegion
/-
  The reference's Block and Stream of package ctr, by contracts.
-/
namespace Go.Proofs.YtcjbplgjjhenkaaDoor
open Go.RowKit
set_option linter.unusedVariables false
set_option linter.unusedSimpArgs false

/-- A block of a nonce and a number, filled from both ends. -/
def cFill (nonce : Nat → UInt8) (i k : Nat) : Nat → UInt8 := fun j => if j < k then nonce j else if 15 < j + k then UInt8.ofNat (i / 256 ^ (15 - j) % 256) else 0
theorem cFill_mid (nonce : Nat → UInt8) (i k j : Nat) (hk : k < 8) (hj : j < 16) : (if j = k then nonce k else cFill nonce i k j) = if j < k + 1 then nonce j else if 15 < j + k then UInt8.ofNat (i / 256 ^ (15 - j) % 256) else 0 := by
  unfold cFill
  by_cases e : j = k
  · subst e; rw [if_pos rfl, if_pos (by omega)]
  · rw [if_neg e]
    by_cases h : j < k
    · rw [if_pos h, if_pos (by omega)]
    · rw [if_neg h, if_neg (show ¬ j < k + 1 by omega)]
theorem cFill_set (nonce : Nat → UInt8) (i k j : Nat) (hk : k < 8) (hj : j < 16) : cFill nonce i (k + 1) j = if j = 15 - k then UInt8.ofNat (i / 256 ^ k % 256) else if j = k then nonce k else cFill nonce i k j := by
  rw [cFill_mid nonce i k j hk hj]
  unfold cFill
  by_cases e : j = 15 - k
  · subst e
    rw [if_pos rfl, if_neg (by omega), if_pos (by omega), show 15 - (15 - k) = k by omega]
  · rw [if_neg e]
    by_cases h : j < k + 1
    · rw [if_pos h, if_pos h]
    · rw [if_neg h, if_neg h]
      by_cases h2 : 15 < j + k
      · rw [if_pos h2, if_pos (by omega)]
      · rw [if_neg h2, if_neg (by omega)]
theorem cFill_zero (nonce : Nat → UInt8) (i : Nat) : bA 16 (cFill nonce i 0) = bA 16 fun _ => 0 := bA_ext fun j hj => by
  unfold cFill
  rw [if_neg (by omega), if_neg (by omega)]
theorem cFill_all (nonce : Nat → UInt8) (i : Nat) : bA 16 (cFill nonce i 8) = bA 16 (cBlk nonce i) := bA_ext fun j hj => by
  unfold cFill cBlk
  by_cases h : j < 8
  · rw [if_pos h, if_pos h]
  · rw [if_neg h, if_neg h, if_pos (by omega)]
structure RBEnv (w : World) (key nonce : Nat → UInt8) (W : World) : Prop where
  bk : Blk W w.heap.size 22 (bA 16 key)
  bn : Blk W (w.heap.size + 1) 23 (bA 8 nonce)
  bx : Blk W (w.heap.size + 1 + 1) 72 (bA 256 sbx)
  br : Blk W (w.heap.size + 1 + 1 + 1) 22 (bA 16 fun _ => 0)
  bw : Below w.heap.size w W
theorem RBEnv.set {w W : World} {key nonce : Nat → UInt8} (h : RBEnv w key nonce W) {g : Nat} (hg : w.heap.size + 4 ≤ g) (i : Nat) (u : Value) : RBEnv w key nonce (W.setCell ⟨g, i, none⟩ u) :=
  ⟨h.bk.far (by show w.heap.size ≠ g; omega) u, h.bn.far (by show w.heap.size + 1 ≠ g; omega) u, h.bx.far (by show w.heap.size + 1 + 1 ≠ g; omega) u, h.br.far (by show w.heap.size + 1 + 1 + 1 ≠ g; omega) u, h.bw.setCell (by show w.heap.size ≤ g; omega) u⟩
theorem RBEnv.below {w W W' : World} {key nonce : Nat → UInt8} (h : RBEnv w key nonce W) (k : Below W.heap.size W W') : RBEnv w key nonce W' :=
  ⟨h.bk.below k h.bk.lt, h.bn.below k h.bn.lt, h.bx.below k h.bx.lt, h.br.below k h.br.lt, below_next h.bw k⟩
theorem b8_size : (Tryd.prog.info? 23).map (·.size) = some 8 := by kernel_rfl
theorem cenv_start (w : World) (key nonce : Nat → UInt8) :
    RBEnv w key nonce (((((w.alloc (.cells (bA 16 key) 22)).alloc (.cells (bA 8 nonce) 23)).alloc (.cells (bA 256 sbx) 72)).alloc (.cells (bA 16 fun _ => 0) 22)).alloc (.cells (bA 16 fun _ => 0) 22)) ∧
    Blk (((((w.alloc (.cells (bA 16 key) 22)).alloc (.cells (bA 8 nonce) 23)).alloc (.cells (bA 256 sbx) 72)).alloc (.cells (bA 16 fun _ => 0) 22)).alloc (.cells (bA 16 fun _ => 0) 22)) (w.heap.size + 1 + 1 + 1 + 1) 22 (bA 16 fun _ => 0) := by
  have n0 := Blk.new w 22 (bA 16 key)
  have n1 := Blk.new (w.alloc (.cells (bA 16 key) 22)) 23 (bA 8 nonce)
  have n2 := Blk.new ((w.alloc (.cells (bA 16 key) 22)).alloc (.cells (bA 8 nonce) 23)) 72 (bA 256 sbx)
  have n3 := Blk.new (((w.alloc (.cells (bA 16 key) 22)).alloc (.cells (bA 8 nonce) 23)).alloc (.cells (bA 256 sbx) 72)) 22 (bA 16 fun _ => 0)
  have n4 := Blk.new ((((w.alloc (.cells (bA 16 key) 22)).alloc (.cells (bA 8 nonce) 23)).alloc (.cells (bA 256 sbx) 72)).alloc (.cells (bA 16 fun _ => 0) 22)) 22 (bA 16 fun _ => 0)
  simp only [World.size_alloc] at n1 n2 n3 n4
  exact ⟨⟨(((n0.alloc _).alloc _).alloc _).alloc _, ((n1.alloc _).alloc _).alloc _, (n2.alloc _).alloc _, n3.alloc _, (((((Below.refl _ _).alloc (Nat.le_refl _) _).alloc (by simp) _).alloc (by simp; omega) _).alloc (by simp; omega) _).alloc (by simp; omega) _⟩, n4⟩
set_option maxHeartbeats 2000000 in
set_option maxRecDepth 100000 in
theorem rcblock_any (w : World) (key nonce : Nat → UInt8) (i : Nat) (hi : i < 18446744073709551616) : Calls Tryd.prog 43 #[.agg (bA 16 key), .agg (bA 8 nonce), .int .u64 (i : Int), .agg (bA 256 sbx)] w fun e w' => e = .returned (.agg (bA 16 (cEnc key nonce i))) ∧ Below w.heap.size w w' := by
  go_enter Tryd.func43, Tryd.ntmps43
  go_upto_region 2 with (fail)
  go_name_world W0 hW0
  have hE := cenv_start w key nonce
  rw [show (bA 16 fun _ => 0) = #[Value.int .u8 0, .int .u8 0, .int .u8 0, .int .u8 0, .int .u8 0, .int .u8 0, .int .u8 0, .int .u8 0, .int .u8 0, .int .u8 0, .int .u8 0, .int .u8 0, .int .u8 0, .int .u8 0, .int .u8 0, .int .u8 0] from rfl] at hE
  rw [hW0] at hE
  clear hW0
  have HE0 := kept hE.1
  have HB0 := kept (show Blk W0 (w.heap.size + 1 + 1 + 1 + 1) 22 (bA 16 (cFill nonce i 0)) by rw [cFill_zero]; exact hE.2)
  clear hE
  go_wp2_with fail
  go_loopw [2, 10] (fun x k wr => ∃ n : Nat, n ≤ 8 ∧ k = .int .i64 n ∧ x = .int .u64 ((i / 256 ^ n : Nat) : Int) ∧ Kept (RBEnv w key nonce wr) ∧ Kept (Blk wr (w.heap.size + 1 + 1 + 1 + 1) 22 (bA 16 (cFill nonce i n)))) (fun _ k _ => 8 - (intOf k).toNat)
  case atStart => exact ⟨0, Nat.zero_le _, rfl, by rw [Nat.pow_zero, Nat.div_one], HE0, HB0⟩
  case round =>
    obtain ⟨n, hn, rfl, rfl, HE1, HB1⟩ := hrel
    rename World => W1
    clear HE0 HB0
    by_cases hlt : n < 8
    · have hn8 : (n : Int) < 8 := by omega
      have hs := fun j (hj : j < 16) => cFill_set nonce i n j hlt hj
      have HX := kept (show i / 256 ^ (n + 1) = i / 256 ^ n / 256 by rw [Nat.pow_succ, Nat.div_div_eq_div_mul])
      have hxl : i / 256 ^ n < 18446744073709551616 := Nat.lt_of_le_of_lt (Nat.div_le_self _ _) hi
      generalize i / 256 ^ n = x at hs HX hxl
      have hM : ((x : Int) % 256) = ((UInt8.ofNat (x % 256)).toNat : Int) := by
        rw [UInt8.toNat_ofNat']
        omega
      generalize UInt8.ofNat (x % 256) = M at hs hM
      have c1 : W1.cell? ⟨w.heap.size + 1, n, none⟩ = some (.int .u8 ((nonce n).toNat : Int)) := by rw [HE1.out.bn.cell]; exact bA_at _ _ hlt
      have c2 : ∃ o : UInt8, W1.cell? ⟨w.heap.size + 1 + 1 + 1 + 1, n, none⟩ = some (.int .u8 (o.toNat : Int)) := ⟨_, by rw [HB1.out.cell]; exact bA_at _ _ (by omega)⟩
      obtain ⟨o, c2⟩ := c2
      have f2 := HB1.out.frozen n
      have c3 : ∃ o : UInt8, W1.cell? ⟨w.heap.size + 1 + 1 + 1 + 1, 15 - n, none⟩ = some (.int .u8 (o.toNat : Int)) := ⟨_, by rw [HB1.out.cell]; exact bA_at _ _ (by omega)⟩
      obtain ⟨o3, c3⟩ := c3
      have f3 := HB1.out.frozen (15 - n)
      have h15 : (15 : Int) - (n : Int) = ((15 - n : Nat) : Int) := by omega
      have HS := kept hs
      clear hs
      generalize nonce n = y at c1 HS
      go_wp2
      go_roundw
      case rel => exact ⟨n + 1, by omega, by go_num, congrArg (Value.int .u64) (by rw [HX.out]; omega), kept ((HE1.out.set (by omega) _ _).set (by omega) _ _), kept ((HB1.out.putB n y (f' := fun j => if j = n then y else cFill nonce i n j) fun j _ => rfl).putB (15 - n) M HS.out)⟩
      case measure => simp [intOf]; omega
    · obtain rfl : n = 8 := by omega
      have HB2 := kept (show Blk W1 (w.heap.size + 1 + 1 + 1 + 1) 22 (bA 16 (cBlk nonce i)) by rw [← cFill_all]; exact HB1.out)
      clear HB1 hn hlt
      generalize i / 256 ^ 8 = x8
      go_wp2_with (first | (refine wpList_load_row rfl 22 (.tmp 4) rfl w.heap.size rfl 22 (bA 16 key) (0, 0) _ HE1.out.bk Tryd.underlying22 rfl (by rw [b16_size, bA_size]) ?_) | (refine wpList_load_row rfl 22 (.tmp 9) rfl (w.heap.size + 1 + 1 + 1 + 1) rfl 22 (bA 16 (cBlk nonce i)) (0, 0) _ HB2.out Tryd.underlying22 rfl (by rw [b16_size, bA_size]) ?_) | (refine wpList_load_row rfl 72 (.tmp 7) rfl (w.heap.size + 1 + 1) rfl 72 (bA 256 sbx) (0, 0) _ HE1.out.bx Tryd.underlying72 rfl (by rw [b256_size, bA_size]) ?_))
      refine (rencrypt_any W1 key (cBlk nonce i)).mono ?_
      rintro e w2 ⟨rfl, k⟩
      have HE2 := kept (HE1.out.below k)
      clear k HE1 HB2
      obtain ⟨R, hR⟩ : ∃ R, aEnc key (cBlk nonce i) = R := ⟨_, rfl⟩
      rw [hR]
      have HR := kept (show cEnc key nonce i = R from hR)
      clear hR
      go_wp2_with (refine wpList_store_row rfl 22 (.tmp 8) (.tmp 31) rfl (w.heap.size + 1 + 1 + 1) (bA 16 R) rfl rfl 22 (bA 16 (fun _ => 0)) HE2.out.br (by rw [b16_size, bA_size]) (by rw [bA_size, bA_size]) (bA_one _ _) ?_)
      exact bodyPost_ret (v := .agg (bA 16 R)) (results_cell_row Tryd.results43 _ _ (w.heap.size + 1 + 1 + 1) 22 (bA 16 R) (0, 0) _ rfl (setRow_heap _ _ _ _ _ _ HE2.out.br) Tryd.underlying22 rfl (by rw [b16_size, bA_size])) rfl ⟨by rw [HR.out], below_setRow HE2.out.bw (by omega) _⟩
end Go.Proofs.YtcjbplgjjhenkaaDoor
/-
  The reference's Stream of package ctr, by a contract.
-/
namespace Go.Proofs.YtcjbplgjjhenkaaDoor
open Go.RowKit
set_option linter.unusedVariables false
set_option linter.unusedSimpArgs false

set_option maxRecDepth 100000 in
theorem rcstream_out (w : World) (key nonce : Nat → UInt8) (a n : Int) (h : ¬ (0 ≤ a ∧ a ≤ 1099511627776 ∧ 0 ≤ n ∧ n ≤ 1048576)) : Calls Tryd.prog 30 #[.agg (bA 16 key), .agg (bA 8 nonce), .int .i64 a, .int .i64 n] w fun e w' => e = .returned (.slice none 0 0) ∧ Below w.heap.size w w' := by
  have hz := zero256
  go_enter Tryd.func30, Tryd.ntmps30
  go_upto_region 2 with (fail)
  go_name_world W0 hW0
  have HW0 := kept (show Below w.heap.size w W0 by rw [← hW0]; exact ((Below.refl w.heap.size w).alloc (Nat.le_refl _) (.cells (bA 16 key) 22)).alloc (by simp) (.cells (bA 8 nonce) 23))
  clear hW0
  go_wp2_with fail
  refine (rbox7_any W0).mono ?_
  rintro e w2 ⟨rfl, k⟩
  have HW2 := kept (below_next HW0.out k)
  clear k HW0
  go_upto_region 3 with (refine wpList_store_row rfl 72 (.tmp 10) (.tmp 13) rfl w2.heap.size (bA 256 sbx) rfl rfl 72 (bA 256 fun _ => 0) (Blk.new w2 _ _) (by rw [b256_size, bA_size]) (by rw [bA_size, bA_size]) (bA_one _ _) ?_)
  go_name_world W3 hW3
  have HW3 := kept (show Below w.heap.size w W3 by rw [← hW3]; exact below_setRow (HW2.out.alloc HW2.out.size _) HW2.out.size _)
  clear hW3 HW2 hz
  by_cases c1 : a < 0
  · go_wp2
    go_ret
    exact ⟨rfl, HW3.out⟩
  · have d1 : decide (a < 0) = false := by simpa using c1
    by_cases c2 : 1099511627776 < a
    · go_wp2
      go_ret
      exact ⟨rfl, HW3.out⟩
    · have d2 : decide (1099511627776 < a) = false := by simpa using c2
      by_cases c3 : n < 0
      · go_wp2
        go_ret
        exact ⟨rfl, HW3.out⟩
      · have d3 : decide (n < 0) = false := by simpa using c3
        have c4 : 1048576 < n := by omega
        go_wp2
        go_ret
        exact ⟨rfl, HW3.out⟩
structure SEnv (w : World) (g2 : Nat) (key nonce : Nat → UInt8) (W : World) : Prop where
  bk : Blk W w.heap.size 22 (bA 16 key)
  bn : Blk W (w.heap.size + 1) 23 (bA 8 nonce)
  bx : Blk W g2 72 (bA 256 sbx)
  bw : Below w.heap.size w W
theorem SEnv.below {w W W' : World} {g2 : Nat} {key nonce : Nat → UInt8} (h : SEnv w g2 key nonce W) (k : Below W.heap.size W W') : SEnv w g2 key nonce W' :=
  ⟨h.bk.below k h.bk.lt, h.bn.below k h.bn.lt, h.bx.below k h.bx.lt, below_next h.bw k⟩
theorem SEnv.alloc {w W : World} {g2 : Nat} {key nonce : Nat → UInt8} (h : SEnv w g2 key nonce W) (o : Obj) : SEnv w g2 key nonce (W.alloc o) := ⟨h.bk.alloc o, h.bn.alloc o, h.bx.alloc o, h.bw.alloc h.bw.size o⟩
theorem SEnv.row {w W : World} {g2 : Nat} {key nonce : Nat → UInt8} (h : SEnv w g2 key nonce W) {g : Nat} (hg : g2 < g) (hg2 : w.heap.size + 1 < g2) (ds : Array Value) : SEnv w g2 key nonce (W.setRow g ds) :=
  ⟨h.bk.row_far (by omega), h.bn.row_far (by omega), h.bx.row_far (by omega), below_setRow h.bw (by omega) _⟩
theorem SEnv.grown {w W W' : World} {g2 : Nat} {key nonce : Nat → UInt8} {row : Option Nat} (h : SEnv w g2 key nonce W) (k : W.grownBy W' row) (hr : ∀ j, row = some j → g2 < j) (hg2 : w.heap.size + 1 < g2) : SEnv w g2 key nonce W' :=
  ⟨h.bk.grown k (fun e => by have := hr _ e.symm; omega), h.bn.grown k (fun e => by have := hr _ e.symm; omega), h.bx.grown k (fun e => by have := hr _ e.symm; omega), h.bw.grown k h.bw.size (fun j hj => by have := hr j hj; omega)⟩
set_option maxHeartbeats 4000000 in
set_option maxRecDepth 100000 in
theorem rcstream_in (w : World) (key nonce : Nat → UInt8) (a n : Nat) (ha : a ≤ 1099511627776) (hn : n ≤ 1048576) : Calls Tryd.prog 30 #[.agg (bA 16 key), .agg (bA 8 nonce), .int .i64 (a : Int), .int .i64 (n : Int)] w fun e w' => ∃ v, e = .returned v ∧ Own w' w.heap.size v (sPart (cStr key nonce) a n) ∧ Below w.heap.size w w' := by
  have hz := zero256
  obtain ⟨i0, hi0, hz0, hs0, hbb0⟩ := info_parts u8_info
  have d1 : decide ((a : Int) < 0) = false := by rw [decide_eq_false_iff_not]; omega
  have d2 : decide (1099511627776 < (a : Int)) = false := by rw [decide_eq_false_iff_not]; omega
  have d3 : decide ((n : Int) < 0) = false := by rw [decide_eq_false_iff_not]; omega
  have d4 : decide (1048576 < (n : Int)) = false := by rw [decide_eq_false_iff_not]; omega
  have ha' : (a : Int) ≤ 1099511627776 := by omega
  have hn' : (n : Int) ≤ 1048576 := by omega
  go_enter Tryd.func30, Tryd.ntmps30
  go_upto_region 2 with (fail)
  go_name_world W0 hW0
  have n0 := Blk.new w 22 (bA 16 key)
  have n1 := Blk.new (w.alloc (.cells (bA 16 key) 22)) 23 (bA 8 nonce)
  simp only [World.size_alloc] at n1
  have HK0 := kept (show Blk W0 w.heap.size 22 (bA 16 key) by rw [← hW0]; exact n0.alloc _)
  have HN0 := kept (show Blk W0 (w.heap.size + 1) 23 (bA 8 nonce) by rw [← hW0]; exact n1)
  have HW0 := kept (show Below w.heap.size w W0 by rw [← hW0]; exact ((Below.refl w.heap.size w).alloc (Nat.le_refl _) (.cells (bA 16 key) 22)).alloc (by simp) (.cells (bA 8 nonce) 23))
  clear hW0 n0 n1
  go_wp2_with fail
  refine (rbox7_any W0).mono ?_
  rintro e w2 ⟨rfl, k⟩
  have HK2 := kept (HK0.out.below k HK0.out.lt)
  have HN2 := kept (HN0.out.below k HN0.out.lt)
  have HW2 := kept (below_next HW0.out k)
  have hg2 : w.heap.size + 1 < w2.heap.size := HN2.out.lt
  clear k HK0 HN0 HW0
  go_upto_region 3 with (refine wpList_store_row rfl 72 (.tmp 10) (.tmp 13) rfl w2.heap.size (bA 256 sbx) rfl rfl 72 (bA 256 fun _ => 0) (Blk.new w2 _ _) (by rw [b256_size, bA_size]) (by rw [bA_size, bA_size]) (bA_one _ _) ?_)
  go_name_world W3 hW3
  have HE3 := kept (show SEnv w w2.heap.size key nonce W3 by
    rw [← hW3]
    exact ⟨(HK2.out.alloc _).row_far (by omega), (HN2.out.alloc _).row_far (by omega), setRow_heap _ _ _ _ _ _ (Blk.new w2 _ _), below_setRow (HW2.out.alloc HW2.out.size _) HW2.out.size _⟩)
  clear hW3 HK2 HN2 HW2 hz
  generalize w2.heap.size = g2 at hg2 HE3
  have hq : (a : Int).tdiv 16 = ((a / 16 : Nat) : Int) := by
    rw [Int.tdiv_eq_ediv_of_nonneg (by omega)]
    omega
  have hq2 : IntKind.u64.wrap ((a / 16 : Nat) : Int) = ((a / 16 : Nat) : Int) := by
    rw [IntKind.wrap_u64]
    omega
  go_wp2_with (first | (refine wpList_load_row rfl 22 (.tmp 4) rfl w.heap.size rfl 22 (bA 16 key) (0, 0) _ HE3.out.bk Tryd.underlying22 rfl (by rw [b16_size, bA_size]) ?_) | (refine wpList_load_row rfl 23 (.tmp 5) rfl (w.heap.size + 1) rfl 23 (bA 8 nonce) (0, 0) _ HE3.out.bn Tryd.underlying23 rfl (by rw [b8_size, bA_size]) ?_) | (refine wpList_load_row rfl 72 (.tmp 10) rfl g2 rfl 72 (bA 256 sbx) (0, 0) _ HE3.out.bx Tryd.underlying72 rfl (by rw [b256_size, bA_size]) ?_))
  refine (rcblock_any W3 key nonce (a / 16) (by omega)).mono ?_
  rintro e w4 ⟨rfl, k⟩
  have HE4 := kept (HE3.out.below k)
  have hg3 : g2 < w4.heap.size := HE4.out.bx.lt
  clear k HE3 hq hq2
  go_upto_region 6 with (refine wpList_store_row rfl 22 (.tmp 11) (.tmp 34) rfl w4.heap.size (bA 16 (cEnc key nonce (a / 16))) rfl rfl 22 (bA 16 fun _ => 0) (Blk.new w4 _ _) (by rw [b16_size, bA_size]) (by rw [bA_size, bA_size]) (bA_one _ _) ?_)
  go_name_world W5 hW5
  have HE5 := kept (show SEnv w g2 key nonce W5 by rw [← hW5]; exact (HE4.out.alloc _).row hg3 hg2 _)
  have HB5 := kept (show Blk W5 w4.heap.size 22 (bA 16 (cEnc key nonce (a / 16))) by rw [← hW5]; exact setRow_heap _ _ _ _ _ _ (Blk.new w4 _ _))
  clear hW5 HE4
  generalize w4.heap.size = g3 at hg3 HB5
  have hB : g3 < W5.heap.size := HB5.out.lt
  obtain ⟨B, hBe⟩ : ∃ B, W5.heap.size = B := ⟨_, rfl⟩
  rw [hBe] at hB
  clear d1 d2 d3 d4
  go_wp2_with fail
  go_loopw [9, 12] (fun v x wr => ∃ (j q : Nat) (l : List UInt8), j ≤ n ∧ x = .int .i64 ((a + j : Nat) : Int) ∧ ((a + j) % 16 ≠ 0 → q = (a + j) / 16) ∧ Kept (l = sPart (cStr key nonce) a j) ∧ Kept (l.length = j) ∧ Kept (Own wr B v l) ∧ Kept (SEnv w g2 key nonce wr) ∧ Kept (Blk wr g3 22 (bA 16 (cEnc key nonce q))) ∧ B ≤ wr.heap.size) (fun _ x _ => a + n - (intOf x).toNat)
  case atStart => exact ⟨0, a / 16, [], Nat.zero_le _, by rw [Nat.add_zero], fun _ => by rw [Nat.add_zero], kept rfl, kept rfl, kept (Own.nil_ _ _), HE5, HB5, by omega⟩
  case round =>
    obtain ⟨j, q, l, hj, rfl, hq, HL, HLN, HO, HE6, HB6, hBs⟩ := hrel
    rename World => W6
    clear HE5 HB5 hBe
    obtain ⟨p, hp⟩ : ∃ p, a + j = p := ⟨_, rfl⟩
    rw [hp] at hq
    rw [hp]
    have hpa : (p : Int) ≤ 1099512676352 := by omega
    obtain ⟨d, hd⟩ : ∃ d, p % 16 = d := ⟨_, rfl⟩
    have hp16 : (p : Int).tmod 16 = (d : Int) := by
      rw [Int.tmod_eq_emod_of_nonneg (by omega)]
      omega
    have hl16 : (d : Int) < 16 := by omega
    have hd16 : d < 16 := by omega
    rw [hd] at hq
    have HD := kept hd
    clear hd
    have hsum : (a : Int) + (n : Int) < 9223372036854775807 := by omega
    obtain ⟨A, qo, c, hv, hc, hcm, hm, hown2, _⟩ := HO.out.form
    subst hv
    rw [HLN.out] at hc HO
    rw [HLN.out]
    have HP := kept hp
    have HOB := kept (fun k hk => World.ownsRow.lt HO.out k hk)
    clear hm hown2 hcm hc
    by_cases hlt : j < n
    · have hpn : (p : Int) < (a : Int) + (n : Int) := by omega
      by_cases h0 : d = 0
      · subst h0
        have hp16 : (p : Int).tmod 16 = 0 := hp16
        clear hl16
        have hqq : (p : Int).tdiv 16 = ((p / 16 : Nat) : Int) := by
          rw [Int.tdiv_eq_ediv_of_nonneg (by omega)]
          omega
        have hq2 : IntKind.u64.wrap ((p / 16 : Nat) : Int) = ((p / 16 : Nat) : Int) := by
          rw [IntKind.wrap_u64]
          omega
        clear hq
        go_wp2_with (first | (refine wpList_load_row rfl 22 (.tmp 4) rfl w.heap.size rfl 22 (bA 16 key) (0, 0) _ HE6.out.bk Tryd.underlying22 rfl (by rw [b16_size, bA_size]) ?_) | (refine wpList_load_row rfl 23 (.tmp 5) rfl (w.heap.size + 1) rfl 23 (bA 8 nonce) (0, 0) _ HE6.out.bn Tryd.underlying23 rfl (by rw [b8_size, bA_size]) ?_) | (refine wpList_load_row rfl 72 (.tmp 10) rfl g2 rfl 72 (bA 256 sbx) (0, 0) _ HE6.out.bx Tryd.underlying72 rfl (by rw [b256_size, bA_size]) ?_))
        refine (rcblock_any W6 key nonce (p / 16) (by omega)).mono ?_
        rintro e W7 ⟨rfl, k⟩
        have HE7 := kept (HE6.out.below k)
        have HB7 := kept (HB6.out.below k HB6.out.lt)
        have HO7 := kept (HO.out.below k)
        have hBs7 : B ≤ W7.heap.size := Nat.le_trans hBs k.size
        clear k HE6 HB6 HO hBs HOB hqq hq2
        go_upto_region 11 with (refine wpList_store_row rfl 22 (.tmp 11) (.tmp 52) rfl g3 (bA 16 (cEnc key nonce (p / 16))) rfl rfl 22 (bA 16 (cEnc key nonce q)) HB7.out (by rw [b16_size, bA_size]) (by rw [bA_size, bA_size]) (bA_one _ _) ?_)
        go_name_world W8 hW8
        have HE8 := kept (show SEnv w g2 key nonce W8 by rw [← hW8]; exact HE7.out.row hg3 hg2 _)
        have HB8 := kept (show Blk W8 g3 22 (bA 16 (cEnc key nonce (p / 16))) by rw [← hW8]; exact setRow_heap _ _ _ _ _ _ HB7.out)
        have HO8 := kept (show Own W8 B (.slice A j c) l by rw [← hW8]; exact HO7.out.row hB _)
        have hBs8 : B ≤ W8.heap.size := by rw [← hW8]; simpa [World.setRow] using hBs7
        clear hW8 HE7 HB7 HO7 hBs7
        obtain ⟨D, hD⟩ : ∃ D, cEnc key nonce (p / 16) 0 = D := ⟨_, rfl⟩
        have cD : W8.cell? ⟨g3, 0, none⟩ = some (.int .u8 (D.toNat : Int)) := by rw [HB8.out.cell, ← hD]; exact bA_at _ _ hd16
        have HDD := kept hD
        clear hD
        have hm2 : Mem (W8.alloc (.cells #[.int .u8 (D.toNat : Int)] 5)) W8.heap.size (some ⟨W8.heap.size, 0, none⟩) [D] := mem_lit (l := [D]) rfl
        have hown := HO8.out.alloc (.cells #[.int .u8 (D.toNat : Int)] 5)
        have HE9 := kept (HE8.out.alloc (.cells #[.int .u8 (D.toNat : Int)] 5))
        have HB9 := kept (HB8.out.alloc (.cells #[.int .u8 (D.toNat : Int)] 5))
        have hB9 : B ≤ (W8.alloc (.cells #[.int .u8 (D.toNat : Int)] 5)).heap.size := by rw [World.size_alloc]; omega
        have HOL := kept (fun k hk => (World.ownsRow.lt hown k hk).1)
        clear HE8 HB8
        go_wp2_with (first | (at_builtin; refine wpList_append_bytes rfl _ _ 24 rfl B i0 Tryd.underlying24 hi0 hz0 hs0 hbb0 (.slice A j c) l rfl hown W8.heap.size _ 1 1 [D] rfl rfl hm2 (by rw [HLN.out]; simp; omega) hB9 ?_; intro v1 w2 hown1 hg1))
        go_wp2
        go_roundw
        case rel => exact ⟨j + 1, p / 16, l ++ [D], by omega, by have := HP.out; exact congrArg (Value.int .i64) (by omega), fun h => by have := HP.out; have := HD.out; omega, kept (by rw [sPart_succ, ← HL.out, HP.out]; exact congrArg (fun z => l ++ [z]) (by rw [← HDD.out, ← HD.out]; rfl)), kept (by rw [List.length_append, HLN.out]; rfl), kept hown1, kept (HE9.out.grown hg1 (fun k hk => by have := HOL.out k hk; omega) hg2), kept (HB9.out.grown hg1 (fun e => by have := HOL.out _ e.symm; omega)), Nat.le_trans hB9 hg1.size⟩
        case measure => have := HP.out; simp [intOf]; omega
      · have h0' : ((d : Int) == 0) = false := by rw [beq_eq_false_iff_ne]; omega
        obtain rfl : q = p / 16 := hq h0
        clear hq HOB
        go_upto_region 11 with (fail)
        have HO6 := HO
        obtain ⟨D, hD⟩ : ∃ D, cEnc key nonce (p / 16) d = D := ⟨_, rfl⟩
        have cD : W6.cell? ⟨g3, d, none⟩ = some (.int .u8 (D.toNat : Int)) := by rw [HB6.out.cell, ← hD]; exact bA_at _ _ hd16
        have HDD := kept hD
        clear hD
        have hm2 : Mem (W6.alloc (.cells #[.int .u8 (D.toNat : Int)] 5)) W6.heap.size (some ⟨W6.heap.size, 0, none⟩) [D] := mem_lit (l := [D]) rfl
        have hown := HO6.out.alloc (.cells #[.int .u8 (D.toNat : Int)] 5)
        have HE9 := kept (HE6.out.alloc (.cells #[.int .u8 (D.toNat : Int)] 5))
        have HB9 := kept (HB6.out.alloc (.cells #[.int .u8 (D.toNat : Int)] 5))
        have hB9 : B ≤ (W6.alloc (.cells #[.int .u8 (D.toNat : Int)] 5)).heap.size := by rw [World.size_alloc]; omega
        have HOL := kept (fun k hk => (World.ownsRow.lt hown k hk).1)
        clear HE6 HB6
        go_wp2_with (first | (at_builtin; refine wpList_append_bytes rfl _ _ 24 rfl B i0 Tryd.underlying24 hi0 hz0 hs0 hbb0 (.slice A j c) l rfl hown W6.heap.size _ 1 1 [D] rfl rfl hm2 (by rw [HLN.out]; simp; omega) hB9 ?_; intro v1 w2 hown1 hg1))
        go_wp2
        go_roundw
        case rel => exact ⟨j + 1, p / 16, l ++ [D], by omega, by have := HP.out; exact congrArg (Value.int .i64) (by omega), fun h => by have := HP.out; have := HD.out; omega, kept (by rw [sPart_succ, ← HL.out, HP.out]; exact congrArg (fun z => l ++ [z]) (by rw [← HDD.out, ← HD.out]; rfl)), kept (by rw [List.length_append, HLN.out]; rfl), kept hown1, kept (HE9.out.grown hg1 (fun k hk => by have := HOL.out k hk; omega) hg2), kept (HB9.out.grown hg1 (fun e => by have := HOL.out _ e.symm; omega)), Nat.le_trans hB9 hg1.size⟩
        case measure => have := HP.out; simp [intOf]; omega
    · obtain rfl : j = n := by omega
      have hpn : ¬ (p : Int) < (a : Int) + (j : Int) := by omega
      clear hq HOB
      go_wp2
      go_ret
      exact ⟨_, rfl, by rw [← HL.out]; exact HO.out.mono (by omega), HE6.out.bw⟩
end Go.Proofs.YtcjbplgjjhenkaaDoor
/-
  The reference's Crypt of package ctr, by a contract.
-/
namespace Go.Proofs.YtcjbplgjjhenkaaDoor
open Go.RowKit
set_option linter.unusedVariables false
set_option linter.unusedSimpArgs false

/-- The first k bytes combined, the others still the stream's. -/
def mixK (f : Nat → UInt8) (b : List UInt8) (k : Nat) : List UInt8 := (List.range b.length).map fun j => if j < k then gxr (f j) (b.getD j 0) else f j
theorem mixK_len (f : Nat → UInt8) (b : List UInt8) (k : Nat) : (mixK f b k).length = b.length := by simp [mixK]
theorem mixK_zero (f : Nat → UInt8) (b : List UInt8) : mixK f b 0 = sPart f 0 b.length := by
  unfold mixK sPart
  apply List.map_congr_left
  intro j _
  rw [if_neg (by omega), Nat.zero_add]
theorem mixK_all (f : Nat → UInt8) (b : List UInt8) : mixK f b b.length = sMix f 0 b := by
  unfold mixK sMix
  apply List.map_congr_left
  intro j hj
  rw [if_pos (List.mem_range.1 hj), Nat.zero_add]
theorem mixK_at (f : Nat → UInt8) (b : List UInt8) (k : Nat) (hk : k < b.length) : (mixK f b k)[k]'(by rw [mixK_len]; exact hk) = f k := by
  simp [mixK]
theorem mixK_set (f : Nat → UInt8) (b : List UInt8) (k : Nat) (hk : k < b.length) : (mixK f b k).set k (gxr (f k) (b[k]'hk)) = mixK f b (k + 1) := by
  apply List.ext_getElem?
  intro j
  rw [List.getElem?_set, mixK_len]
  unfold mixK
  by_cases e : k = j
  · subst e
    rw [if_pos rfl, if_pos hk, List.getElem?_map, List.getElem?_range hk]
    simp [List.getD, hk]
  · rw [if_neg e, List.getElem?_map, List.getElem?_map]
    by_cases hj : j < b.length
    · rw [List.getElem?_range hj]
      simp only [Option.map_some]
      congr 1
      by_cases h : j < k
      · rw [if_pos h, if_pos (by omega)]
      · rw [if_neg h, if_neg (by omega)]
    · rw [List.getElem?_eq_none (by simp; omega)]
      rfl
set_option maxHeartbeats 2000000 in
set_option maxRecDepth 100000 in
theorem rccrypt_any (w : World) (key nonce : Nat → UInt8) (q n c : Nat) (A : Option Addr) (b : List UInt8) (hn : n = b.length) (hm : Mem w q A b) (hl : b.length ≤ 1048576) : Calls Tryd.prog 20 #[.agg (bA 16 key), .agg (bA 8 nonce), .slice A n c] w fun e w' => ∃ v, e = .returned v ∧ Own w' w.heap.size v (sMix (cStr key nonce) 0 b) ∧ Below w.heap.size w w' := by
  subst hn
  have hm0 := kept hm
  clear hm
  have hl' : (b.length : Int) ≤ 1048576 := by omega
  go_enter Tryd.func20, Tryd.ntmps20
  go_upto_region 1 with (fail)
  go_name_world W0 hW0
  have n0 := Blk.new w 22 (bA 16 key)
  have n1 := Blk.new (w.alloc (.cells (bA 16 key) 22)) 23 (bA 8 nonce)
  simp only [World.size_alloc] at n1
  have HK0 := kept (show Blk W0 w.heap.size 22 (bA 16 key) by rw [← hW0]; exact n0.alloc _)
  have HN0 := kept (show Blk W0 (w.heap.size + 1) 23 (bA 8 nonce) by rw [← hW0]; exact n1)
  have HW0 := kept (show Below w.heap.size w W0 by rw [← hW0]; exact ((Below.refl w.heap.size w).alloc (Nat.le_refl _) (.cells (bA 16 key) 22)).alloc (by simp) (.cells (bA 8 nonce) 23))
  clear hW0 n0 n1
  go_wp2_with (first | (refine wpList_load_row rfl 22 (.tmp 3) rfl w.heap.size rfl 22 (bA 16 key) (0, 0) _ HK0.out Tryd.underlying22 rfl (by rw [b16_size, bA_size]) ?_) | (refine wpList_load_row rfl 23 (.tmp 4) rfl (w.heap.size + 1) rfl 23 (bA 8 nonce) (0, 0) _ HN0.out Tryd.underlying23 rfl (by rw [b8_size, bA_size]) ?_))
  refine (rcstream_in W0 key nonce 0 b.length (by omega) hl).mono ?_
  rintro e W1 ⟨v, rfl, o1, k⟩
  have HO1 := kept (show Own W1 w.heap.size v (mixK (cStr key nonce) b 0) by rw [mixK_zero]; exact o1.mono HW0.out.size)
  have HW1 := kept (below_next HW0.out k)
  obtain ⟨A1, q1, c1, hv, hc, hcm, _⟩ := o1.form
  subst hv
  rw [sPart_len] at hc HO1
  rw [sPart_len]
  clear o1 k HK0 HN0 HW0
  obtain ⟨f, hf⟩ : ∃ f, cStr key nonce = f := ⟨_, rfl⟩
  rw [hf] at HO1
  have HF := kept hf
  clear hf
  go_wp2_with fail
  go_loopw [8] (fun i wr => ∃ k : Nat, k ≤ b.length ∧ i = .int .i64 k ∧ Kept (Own wr w.heap.size (.slice A1 b.length c1) (mixK f b k)) ∧ Kept (Below w.heap.size w wr)) (fun i _ => b.length - (intOf i).toNat)
  case atStart => exact ⟨0, Nat.zero_le _, rfl, HO1, HW1⟩
  case round =>
    obtain ⟨k, hk, rfl, HO2, HW2⟩ := hrel
    rename World => W2
    clear HO1 HW1
    by_cases hlt : k < b.length
    · have hklt : (k : Int) < (b.length : Int) := by omega
      have hlk : k < (mixK f b k).length := by rw [mixK_len]; exact hlt
      obtain ⟨A2, q2, c2, hv2, _, _, _, hf2, _⟩ := HO2.out.form
      obtain ⟨_, hA2, _⟩ := hf2 (fun e => by rw [e] at hlk; cases hlk)
      injection hv2 with e1 _ _
      rw [hA2] at e1
      subst e1
      obtain ⟨cs, fs, hBq⟩ := own_at HO2.out k hlk
      rw [mixK_at f b k hlt] at cs
      obtain ⟨o, rfl, cb⟩ := (hm0.out.below0 HW2.out).at_ hlt
      have HS := kept (mixK_set f b k hlt)
      have HSET := kept (own_set HO2.out k (gxr (f k) (b[k]'hlt)) hlk)
      have hx := gx8 (f k) (b[k]'hlt)
      generalize gxr (f k) (b[k]'hlt) = Z at HS HSET hx
      generalize f k = x at cs hx
      generalize b[k]'hlt = y at cb hx
      clear hA2 hf2
      go_wp2
      go_region
      all_goals go_wp2
      go_roundw
      case rel => exact ⟨k + 1, by omega, by go_num, kept (by rw [← HS.out]; exact HSET.out.drew), kept ((HW2.out.setCell (p := ⟨q2, k, none⟩) hBq _).drew)⟩
      case measure => simp [intOf]; omega
    · obtain rfl : k = b.length := by omega
      go_wp2
      go_ret
      exact ⟨_, rfl, by rw [HF.out, ← mixK_all]; exact HO2.out, HW2.out⟩
end Go.Proofs.YtcjbplgjjhenkaaDoor
namespace Go.Proofs.YtcjbplgjjhenkaaDoor
open Go.RowKit
set_option linter.unusedVariables false
set_option linter.unusedSimpArgs false

/-- The first k bytes of b combined with a stream from the place u on. -/
def mxL (f : Nat → UInt8) (u : Nat) (b : List UInt8) (k : Nat) : List UInt8 := (List.range b.length).map fun j => if j < k then gxr (f (u + j)) (b.getD j 0) else b.getD j 0
theorem mxL_len (f : Nat → UInt8) (u : Nat) (b : List UInt8) (k : Nat) : (mxL f u b k).length = b.length := by simp [mxL]
theorem mxL_at (f : Nat → UInt8) (u : Nat) (b : List UInt8) (k j : Nat) (hj : j < b.length) : (mxL f u b k)[j]? = some (if j < k then gxr (f (u + j)) (b.getD j 0) else b.getD j 0) := by
  unfold mxL
  rw [List.getElem?_map, List.getElem?_range hj]
  rfl
theorem mxL_zero (f : Nat → UInt8) (u : Nat) (b : List UInt8) : mxL f u b 0 = b := by
  apply List.ext_getElem?
  intro j
  by_cases hj : j < b.length
  · rw [mxL_at _ _ _ _ _ hj, if_neg (by omega)]
    simp [List.getD, hj]
  · rw [List.getElem?_eq_none (by rw [mxL_len]; omega), List.getElem?_eq_none (by omega)]
theorem mxL_all (f : Nat → UInt8) (u : Nat) (b : List UInt8) (k : Nat) (hk : b.length ≤ k) : mxL f u b k = sMix f u b := by
  apply List.ext_getElem?
  intro j
  by_cases hj : j < b.length
  · rw [mxL_at _ _ _ _ _ hj, if_pos (by omega), sMix_at _ _ _ _ hj]
    simp [List.getD, hj]
  · rw [List.getElem?_eq_none (by rw [mxL_len]; omega), List.getElem?_eq_none (by rw [sMix_len]; omega)]
theorem mxL_set (f : Nat → UInt8) (u : Nat) (b : List UInt8) (k : Nat) (x y : UInt8) (hk : k < b.length) (hx : (mxL f u b k)[k]? = some x) (hy : y = f (u + k)) : (mxL f u b k).set k (gxr x y) = mxL f u b (k + 1) := by
  rw [mxL_at _ _ _ _ _ hk, if_neg (by omega)] at hx
  injection hx with hx
  apply List.ext_getElem?
  intro j
  by_cases hj : j < b.length
  · rw [mxL_at _ _ _ _ _ hj, List.getElem?_set]
    by_cases e : k = j
    · subst e
      rw [if_pos rfl, if_pos (by rw [mxL_len]; exact hk), if_pos (by omega), hx, hy]
      congr 1
      exact UInt8.xor_comm _ _
    · rw [if_neg e, mxL_at _ _ _ _ _ hj]
      by_cases h : j < k
      · rw [if_pos h, if_pos (by omega)]
      · rw [if_neg h, if_neg (by omega)]
  · rw [List.getElem?_eq_none (by rw [List.length_set, mxL_len]; omega), List.getElem?_eq_none (by rw [mxL_len]; omega)]
set_option maxHeartbeats 2000000 in
set_option maxRecDepth 100000 in
/-- The bytes of a slice of the call's own from a place on are combined with an array's, as many as both have. -/
theorem ccomb_any (w : World) (B g gb o p n m c cb L c0 r u : Nat) (tb : TypeId) (f e : Nat → UInt8) (b : List UInt8) (hr : r = min n m) (ho : o + n = b.length) (hp : p + m ≤ 16) (hN : b.length ≤ 140737488355328) (hO : Own w B (.slice (some ⟨g, 0, none⟩) L c0) (mxL f u b o)) (hb : Blk w gb tb (bA 16 e)) (hne : g ≠ gb) (he : ∀ j, j < m → e (p + j) = f (u + (o + j))) :
    Calls Tryd.prog 35 #[.slice (some ⟨g, o, none⟩) n c, .slice (some ⟨gb, p, none⟩) m cb] w fun x w' => x = .returned (.int .i64 (r : Int)) ∧ Own w' B (.slice (some ⟨g, 0, none⟩) L c0) (mxL f u b (o + r)) ∧ w.grownBy w' (some g) := by
  have hn1 : n ≤ 140737488355328 := by omega
  have hm1 : m ≤ 16 := by omega
  have hrn : r ≤ n := by omega
  have hrm : r ≤ m := by omega
  have ho2 : o + r ≤ b.length := by omega
  have hp2 : p + r ≤ 16 := by omega
  have HG0 := kept (show Own w B (.slice (some ⟨g, 0, none⟩) L c0) (mxL f u b (o + 0)) from hO)
  have HB0 := kept hb
  have HR := kept hr
  have HF := kept he
  clear hO hb ho hp hr he
  go_enter Tryd.func35, Tryd.ntmps35
  go_wp2_with fail
  case' inl => obtain rfl : r = m := by have := HR.out; omega
  case' inr => obtain rfl : r = n := by have := HR.out; omega
  all_goals clear HR
  all_goals go_loopw [13] (fun k wr => ∃ j : Nat, j ≤ r ∧ k = .int .i64 j ∧ Kept (Own wr B (.slice (some ⟨g, 0, none⟩) L c0) (mxL f u b (o + j))) ∧ Kept (Blk wr gb tb (bA 16 e)) ∧ Kept (w.grownBy wr (some g))) (fun k _ => r - (intOf k).toNat)
  case atStart => exact ⟨0, Nat.zero_le _, rfl, HG0, HB0, kept (World.grownBy.refl w _)⟩
  case atStart => exact ⟨0, Nat.zero_le _, rfl, HG0, HB0, kept (World.grownBy.refl w _)⟩
  all_goals
    obtain ⟨j, hj, rfl, HG, HB, HW⟩ := hrel
    rename World => W1
    clear HG0 HB0
    by_cases hlt : j < r
    · have hji : (j : Int) < (r : Int) := by omega
      try have hjn : (j : Int) < (n : Int) := by omega
      try have hjm : (j : Int) < (m : Int) := by omega
      have hlen : o + j < (mxL f u b (o + j)).length := by rw [mxL_len]; omega
      obtain ⟨c1, f1, _⟩ := own_at HG.out (o + j) hlen
      have HE := kept (HF.out j (by omega))
      have c2 : W1.cell? ⟨gb, p + j, none⟩ = some (.int .u8 ((e (p + j)).toNat : Int)) := by rw [HB.out.cell]; exact bA_at _ _ (by omega)
      have HX0 := kept (List.getElem?_eq_getElem hlen)
      generalize (mxL f u b (o + j))[o + j] = x at c1 HX0
      generalize e (p + j) = y at c2 HE
      have HX := kept (gx8 x y)
      go_upto_region 5 with (fail)
      go_region
      go_wp2_with fail
      refine ⟨⟨j + 1, by omega, by go_num, kept ?_, kept ((HB.out.far hne.symm _).drew_), kept (gb_drew (gb_setCell HW.out (.inl rfl) _))⟩, by simp [intOf]; omega⟩
      rw [HX.out, ← Nat.add_assoc, ← mxL_set f u b (o + j) x y (by omega) HX0.out HE.out]
      exact (own_set HG.out (o + j) (gxr x y) hlen).drew
    · obtain rfl : j = r := by omega
      go_wp2
      go_ret
      exact ⟨rfl, HG.out, HW.out⟩
end Go.Proofs.YtcjbplgjjhenkaaDoor
