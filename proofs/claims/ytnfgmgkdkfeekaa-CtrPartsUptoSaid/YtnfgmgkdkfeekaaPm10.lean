/-
  The reference's Block and Stream of package ctr, by contracts.
-/
import Derived.Test.YtnfgmgkdkfeekaaPm7
import Derived.Test.YtnfgmgkdkfeekaaPm9
namespace Go.Proofs.Ytnfgmgkdkfeekaa
open Go.RowKit
set_option linter.unusedVariables false
set_option linter.unusedSimpArgs false

/-- A block of a nonce and a number, filled from both ends. -/
def cFill (nonce : Nat → UInt8) (i k : Nat) : Nat → UInt8 := fun j => if j < k then nonce j else if 15 < j + k then UInt8.ofNat (i / 256 ^ (15 - j) % 256) else 0
theorem cFill_mid (nonce : Nat → UInt8) (i k j : Nat) (hk : k < 8) (hj : j < 16) : (if j = k then nonce k else cFill nonce i k j) = if j < k + 1 then nonce j else if 15 < j + k then UInt8.ofNat (i / 256 ^ (15 - j) % 256) else 0 := by
  unfold cFill
  by_cases e : j = k
  · subst e; rw [if_pos rfl, if_pos (by omega)]
  · rw [if_neg e]
    by_cases h : j < k
    · rw [if_pos h, if_pos (by omega)]
    · rw [if_neg h, if_neg (show ¬ j < k + 1 by omega)]
theorem cFill_set (nonce : Nat → UInt8) (i k j : Nat) (hk : k < 8) (hj : j < 16) : cFill nonce i (k + 1) j = if j = 15 - k then UInt8.ofNat (i / 256 ^ k % 256) else if j = k then nonce k else cFill nonce i k j := by
  rw [cFill_mid nonce i k j hk hj]
  unfold cFill
  by_cases e : j = 15 - k
  · subst e
    rw [if_pos rfl, if_neg (by omega), if_pos (by omega), show 15 - (15 - k) = k by omega]
  · rw [if_neg e]
    by_cases h : j < k + 1
    · rw [if_pos h, if_pos h]
    · rw [if_neg h, if_neg h]
      by_cases h2 : 15 < j + k
      · rw [if_pos h2, if_pos (by omega)]
      · rw [if_neg h2, if_neg (by omega)]
theorem cFill_zero (nonce : Nat → UInt8) (i : Nat) : bA 16 (cFill nonce i 0) = bA 16 fun _ => 0 := bA_ext fun j hj => by
  unfold cFill
  rw [if_neg (by omega), if_neg (by omega)]
theorem cFill_all (nonce : Nat → UInt8) (i : Nat) : bA 16 (cFill nonce i 8) = bA 16 (cBlk nonce i) := bA_ext fun j hj => by
  unfold cFill cBlk
  by_cases h : j < 8
  · rw [if_pos h, if_pos h]
  · rw [if_neg h, if_neg h, if_pos (by omega)]
structure RBEnv (w : World) (key nonce : Nat → UInt8) (W : World) : Prop where
  bk : Blk W w.heap.size 22 (bA 16 key)
  bn : Blk W (w.heap.size + 1) 23 (bA 8 nonce)
  bx : Blk W (w.heap.size + 1 + 1) 42 (bA 256 sbx)
  br : Blk W (w.heap.size + 1 + 1 + 1) 22 (bA 16 fun _ => 0)
  bw : Below w.heap.size w W
theorem RBEnv.set {w W : World} {key nonce : Nat → UInt8} (h : RBEnv w key nonce W) {g : Nat} (hg : w.heap.size + 4 ≤ g) (i : Nat) (u : Value) : RBEnv w key nonce (W.setCell ⟨g, i, none⟩ u) :=
  ⟨h.bk.far (by show w.heap.size ≠ g; omega) u, h.bn.far (by show w.heap.size + 1 ≠ g; omega) u, h.bx.far (by show w.heap.size + 1 + 1 ≠ g; omega) u, h.br.far (by show w.heap.size + 1 + 1 + 1 ≠ g; omega) u, h.bw.setCell (by show w.heap.size ≤ g; omega) u⟩
theorem RBEnv.below {w W W' : World} {key nonce : Nat → UInt8} (h : RBEnv w key nonce W) (k : Below W.heap.size W W') : RBEnv w key nonce W' :=
  ⟨h.bk.below k h.bk.lt, h.bn.below k h.bn.lt, h.bx.below k h.bx.lt, h.br.below k h.br.lt, below_next h.bw k⟩
theorem b8_size : (Try.prog.info? 23).map (·.size) = some 8 := by kernel_rfl
theorem cenv_start (w : World) (key nonce : Nat → UInt8) :
    RBEnv w key nonce (((((w.alloc (.cells (bA 16 key) 22)).alloc (.cells (bA 8 nonce) 23)).alloc (.cells (bA 256 sbx) 42)).alloc (.cells (bA 16 fun _ => 0) 22)).alloc (.cells (bA 16 fun _ => 0) 22)) ∧
    Blk (((((w.alloc (.cells (bA 16 key) 22)).alloc (.cells (bA 8 nonce) 23)).alloc (.cells (bA 256 sbx) 42)).alloc (.cells (bA 16 fun _ => 0) 22)).alloc (.cells (bA 16 fun _ => 0) 22)) (w.heap.size + 1 + 1 + 1 + 1) 22 (bA 16 fun _ => 0) := by
  have n0 := Blk.new w 22 (bA 16 key)
  have n1 := Blk.new (w.alloc (.cells (bA 16 key) 22)) 23 (bA 8 nonce)
  have n2 := Blk.new ((w.alloc (.cells (bA 16 key) 22)).alloc (.cells (bA 8 nonce) 23)) 42 (bA 256 sbx)
  have n3 := Blk.new (((w.alloc (.cells (bA 16 key) 22)).alloc (.cells (bA 8 nonce) 23)).alloc (.cells (bA 256 sbx) 42)) 22 (bA 16 fun _ => 0)
  have n4 := Blk.new ((((w.alloc (.cells (bA 16 key) 22)).alloc (.cells (bA 8 nonce) 23)).alloc (.cells (bA 256 sbx) 42)).alloc (.cells (bA 16 fun _ => 0) 22)) 22 (bA 16 fun _ => 0)
  simp only [World.size_alloc] at n1 n2 n3 n4
  exact ⟨⟨(((n0.alloc _).alloc _).alloc _).alloc _, ((n1.alloc _).alloc _).alloc _, (n2.alloc _).alloc _, n3.alloc _, (((((Below.refl _ _).alloc (Nat.le_refl _) _).alloc (by simp) _).alloc (by simp; omega) _).alloc (by simp; omega) _).alloc (by simp; omega) _⟩, n4⟩
set_option maxHeartbeats 2000000 in
set_option maxRecDepth 100000 in
theorem rcblock_any (w : World) (key nonce : Nat → UInt8) (i : Nat) (hi : i < 18446744073709551616) : Calls Try.prog 19 #[.agg (bA 16 key), .agg (bA 8 nonce), .int .u64 (i : Int), .agg (bA 256 sbx)] w fun e w' => e = .returned (.agg (bA 16 (cEnc key nonce i))) ∧ Below w.heap.size w w' := by
  go_enter Try.func19, Try.ntmps19
  go_upto_region 2 with (fail)
  go_name_world W0 hW0
  have hE := cenv_start w key nonce
  rw [show (bA 16 fun _ => 0) = #[Value.int .u8 0, .int .u8 0, .int .u8 0, .int .u8 0, .int .u8 0, .int .u8 0, .int .u8 0, .int .u8 0, .int .u8 0, .int .u8 0, .int .u8 0, .int .u8 0, .int .u8 0, .int .u8 0, .int .u8 0, .int .u8 0] from rfl] at hE
  rw [hW0] at hE
  clear hW0
  have HE0 := kept hE.1
  have HB0 := kept (show Blk W0 (w.heap.size + 1 + 1 + 1 + 1) 22 (bA 16 (cFill nonce i 0)) by rw [cFill_zero]; exact hE.2)
  clear hE
  go_wp2_with fail
  go_loopw [2, 10] (fun x k wr => ∃ n : Nat, n ≤ 8 ∧ k = .int .i64 n ∧ x = .int .u64 ((i / 256 ^ n : Nat) : Int) ∧ Kept (RBEnv w key nonce wr) ∧ Kept (Blk wr (w.heap.size + 1 + 1 + 1 + 1) 22 (bA 16 (cFill nonce i n)))) (fun _ k _ => 8 - (intOf k).toNat)
  case atStart => exact ⟨0, Nat.zero_le _, rfl, by rw [Nat.pow_zero, Nat.div_one], HE0, HB0⟩
  case round =>
    obtain ⟨n, hn, rfl, rfl, HE1, HB1⟩ := hrel
    rename World => W1
    clear HE0 HB0
    by_cases hlt : n < 8
    · have hn8 : (n : Int) < 8 := by omega
      have hs := fun j (hj : j < 16) => cFill_set nonce i n j hlt hj
      have HX := kept (show i / 256 ^ (n + 1) = i / 256 ^ n / 256 by rw [Nat.pow_succ, Nat.div_div_eq_div_mul])
      have hxl : i / 256 ^ n < 18446744073709551616 := Nat.lt_of_le_of_lt (Nat.div_le_self _ _) hi
      generalize i / 256 ^ n = x at hs HX hxl
      have hM : ((x : Int) % 256) = ((UInt8.ofNat (x % 256)).toNat : Int) := by
        rw [UInt8.toNat_ofNat']
        omega
      generalize UInt8.ofNat (x % 256) = M at hs hM
      have c1 : W1.cell? ⟨w.heap.size + 1, n, none⟩ = some (.int .u8 ((nonce n).toNat : Int)) := by rw [HE1.out.bn.cell]; exact bA_at _ _ hlt
      have c2 : ∃ o : UInt8, W1.cell? ⟨w.heap.size + 1 + 1 + 1 + 1, n, none⟩ = some (.int .u8 (o.toNat : Int)) := ⟨_, by rw [HB1.out.cell]; exact bA_at _ _ (by omega)⟩
      obtain ⟨o, c2⟩ := c2
      have f2 := HB1.out.frozen n
      have c3 : ∃ o : UInt8, W1.cell? ⟨w.heap.size + 1 + 1 + 1 + 1, 15 - n, none⟩ = some (.int .u8 (o.toNat : Int)) := ⟨_, by rw [HB1.out.cell]; exact bA_at _ _ (by omega)⟩
      obtain ⟨o3, c3⟩ := c3
      have f3 := HB1.out.frozen (15 - n)
      have h15 : (15 : Int) - (n : Int) = ((15 - n : Nat) : Int) := by omega
      have HS := kept hs
      clear hs
      generalize nonce n = y at c1 HS
      go_wp2
      go_roundw
      case rel => exact ⟨n + 1, by omega, by go_num, congrArg (Value.int .u64) (by rw [HX.out]; omega), kept ((HE1.out.set (by omega) _ _).set (by omega) _ _), kept ((HB1.out.putB n y (f' := fun j => if j = n then y else cFill nonce i n j) fun j _ => rfl).putB (15 - n) M HS.out)⟩
      case measure => simp [intOf]; omega
    · obtain rfl : n = 8 := by omega
      have HB2 := kept (show Blk W1 (w.heap.size + 1 + 1 + 1 + 1) 22 (bA 16 (cBlk nonce i)) by rw [← cFill_all]; exact HB1.out)
      clear HB1 hn hlt
      generalize i / 256 ^ 8 = x8
      go_wp2_with (first | (refine wpList_load_row rfl 22 (.tmp 4) rfl w.heap.size rfl 22 (bA 16 key) (0, 0) _ HE1.out.bk Try.underlying22 rfl (by rw [b16_size, bA_size]) ?_) | (refine wpList_load_row rfl 22 (.tmp 9) rfl (w.heap.size + 1 + 1 + 1 + 1) rfl 22 (bA 16 (cBlk nonce i)) (0, 0) _ HB2.out Try.underlying22 rfl (by rw [b16_size, bA_size]) ?_) | (refine wpList_load_row rfl 42 (.tmp 7) rfl (w.heap.size + 1 + 1) rfl 42 (bA 256 sbx) (0, 0) _ HE1.out.bx Try.underlying42 rfl (by rw [b256_size, bA_size]) ?_))
      refine (rencrypt_any W1 key (cBlk nonce i)).mono ?_
      rintro e w2 ⟨rfl, k⟩
      have HE2 := kept (HE1.out.below k)
      clear k HE1 HB2
      obtain ⟨R, hR⟩ : ∃ R, aEnc key (cBlk nonce i) = R := ⟨_, rfl⟩
      rw [hR]
      have HR := kept (show cEnc key nonce i = R from hR)
      clear hR
      go_wp2_with (refine wpList_store_row rfl 22 (.tmp 8) (.tmp 31) rfl (w.heap.size + 1 + 1 + 1) (bA 16 R) rfl rfl 22 (bA 16 (fun _ => 0)) HE2.out.br (by rw [b16_size, bA_size]) (by rw [bA_size, bA_size]) (bA_one _ _) ?_)
      exact bodyPost_ret (v := .agg (bA 16 R)) (results_cell_row Try.results19 _ _ (w.heap.size + 1 + 1 + 1) 22 (bA 16 R) (0, 0) _ rfl (setRow_heap _ _ _ _ _ _ HE2.out.br) Try.underlying22 rfl (by rw [b16_size, bA_size])) rfl ⟨by rw [HR.out], below_setRow HE2.out.bw (by omega) _⟩
end Go.Proofs.Ytnfgmgkdkfeekaa
