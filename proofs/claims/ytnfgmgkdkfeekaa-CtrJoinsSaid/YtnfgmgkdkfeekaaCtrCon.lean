/-
  Package ctr: the contracts that its laws use: Stream and Crypt, and Next and Used in the laws' words.
-/
import Derived.Test.YtnfgmgkdkfeekaaCcNext
namespace Go.Proofs.Ytnfgmgkdkfeekaa
open Go.RowKit
set_option linter.unusedVariables false
set_option linter.unusedSimpArgs false

theorem cnext_any (w : World) (key nonce : Nat → UInt8) (used g : Nat) (hc : CAt key nonce used g w) (q n c : Nat) (A : Option Addr) (b : List UInt8) (hn : n = b.length) (hm : Mem w q A b) (hl : b.length ≤ 1048576) (hu : used + b.length ≤ 1048576) : Calls Try.prog 16 #[.pointer (some ⟨g, 0, none⟩), .slice A n c] w fun e w' => ∃ v, e = .returned v ∧ Own w' w.heap.size v (sMix (cStr key nonce) used b) ∧ CAt key nonce (used + b.length) g w' ∧ w.grownBy w' (some g) := cnext_w w key nonce used g hc q n c A b hn hm hl (by omega)
theorem cused_any (w : World) (key nonce : Nat → UInt8) (used g : Nat) (hc : CAt key nonce used g w) (hu : used ≤ 1048576) : Calls Try.prog 17 #[.pointer (some ⟨g, 0, none⟩)] w fun e w' => e = .returned (.int .i64 (used : Int)) ∧ Below w.heap.size w w' := cused_w w key nonce used g hc
set_option maxHeartbeats 1000000 in
theorem ccrypt_any (w : World) (key nonce : Nat → UInt8) (q n c : Nat) (A : Option Addr) (b : List UInt8) (hn : n = b.length) (hm : Mem w q A b) (hl : b.length ≤ 1048576) : Calls Try.prog 12 #[.agg (bA 16 key), .agg (bA 8 nonce), .slice A n c] w fun e w' => ∃ v, e = .returned v ∧ Own w' w.heap.size v (sMix (cStr key nonce) 0 b) ∧ Below w.heap.size w w' := by
  have HN := kept hn
  clear hn
  go_enter Try.func12, Try.ntmps12
  go_upto_region 1 with (fail)
  go_name_world W0 hW0
  have HK := kept (show Blk W0 w.heap.size 22 (bA 16 key) by rw [← hW0]; exact (Blk.new w _ _).alloc _)
  have HN1 := kept (show Blk W0 (w.heap.size + 1) 23 (bA 8 nonce) by
    rw [← hW0]
    have n1 := Blk.new (w.alloc (.cells (bA 16 key) 22)) 23 (bA 8 nonce)
    simpa only [World.size_alloc] using n1)
  have HW := kept (show Below w.heap.size w W0 by rw [← hW0]; exact ((Below.refl _ w).alloc (Nat.le_refl _) _).alloc (by simp) _)
  clear hW0
  have HM := kept (hm.below0 HW.out)
  clear hm
  go_wp2_with (first | (refine wpList_load_row rfl 22 (.tmp 3) rfl w.heap.size rfl 22 (bA 16 key) (0, 0) _ HK.out Try.underlying22 rfl (by rw [b16_size, bA_size]) ?_) | (refine wpList_load_row rfl 23 (.tmp 4) rfl (w.heap.size + 1) rfl 23 (bA 8 nonce) (0, 0) _ HN1.out Try.underlying23 rfl (by rw [b8_size, bA_size]) ?_))
  refine (cnew_any W0 key nonce).mono ?_
  rintro e W1 ⟨g, rfl, hg, hc, k1⟩
  have HC := kept hc
  have HM1 := kept (HM.out.below0 k1)
  have HW1 := kept (below_next HW.out k1)
  have HG := kept (Nat.le_trans HW.out.size hg)
  clear hc k1 HM HK HN1 HW hg
  go_wp2_with fail
  refine (cnext_w W1 key nonce 0 g HC.out q n c A b HN.out HM1.out hl (by omega)).mono ?_
  rintro e W2 ⟨v, rfl, ho, _, hg2⟩
  have HO := kept ho
  have HW2 := kept (HW1.out.grown hg2 HW1.out.size (fun j hj => by cases hj; exact HG.out))
  clear ho hg2
  go_wp2_with fail
  go_ret
  exact ⟨v, rfl, HO.out.mono HW1.out.size, HW2.out⟩
theorem ci_built3 (key nonce : Nat → UInt8) (u : Int) : Try.prog.built 48 [(0, .agg (bA 16 key)), (1, .agg (bA 8 nonce)), (2, .int .i64 u)] = some (ciA key nonce u) := by kernel_rfl
theorem mix_zeros (f : Nat → UInt8) (u n : Nat) : sMix f u (List.replicate n 0) = sPart f u n := by
  apply List.ext_getElem?
  intro j
  by_cases hj : j < n
  · rw [sMix_at _ _ _ _ (by simpa using hj), sPart_at _ _ _ _ hj]
    simp [gxr]
  · rw [List.getElem?_eq_none (by rw [sMix_len]; simp; omega), List.getElem?_eq_none (by rw [sPart_len]; omega)]
set_option maxHeartbeats 1000000 in
set_option maxRecDepth 100000 in
theorem cstream_out (w : World) (key nonce : Nat → UInt8) (a n : Int) (h : ¬ (0 ≤ a ∧ a ≤ 1099511627776 ∧ 0 ≤ n ∧ n ≤ 1048576)) : Calls Try.prog 10 #[.agg (bA 16 key), .agg (bA 8 nonce), .int .i64 a, .int .i64 n] w fun e w' => e = .returned (.slice none 0 0) ∧ Below w.heap.size w w' := by
  have hw := fun (o1 o2 : Obj) => ((Below.refl w.heap.size w).alloc (Nat.le_refl _) o1).alloc (by simp) o2
  by_cases c1 : a < 0
  · have d1 : decide (a < 0) = true := by simpa using c1
    go_enter Try.func10, Try.ntmps10
    go_wp2
    go_ret
    exact ⟨rfl, hw _ _⟩
  · have d1 : decide (a < 0) = false := by simpa using c1
    by_cases c2 : 1099511627776 < a
    · have d2 : decide (1099511627776 < a) = true := by simpa using c2
      go_enter Try.func10, Try.ntmps10
      go_wp2
      go_ret
      exact ⟨rfl, hw _ _⟩
    · have d2 : decide (1099511627776 < a) = false := by simpa using c2
      by_cases c3 : n < 0
      · have d3 : decide (n < 0) = true := by simpa using c3
        go_enter Try.func10, Try.ntmps10
        go_wp2
        go_ret
        exact ⟨rfl, hw _ _⟩
      · have d3 : decide (n < 0) = false := by simpa using c3
        have c4 : 1048576 < n := by omega
        have d4 : decide (1048576 < n) = true := by simpa using c4
        go_enter Try.func10, Try.ntmps10
        go_wp2
        go_ret
        exact ⟨rfl, hw _ _⟩
set_option maxHeartbeats 1000000 in
set_option maxRecDepth 100000 in
theorem cstream_in (w : World) (key nonce : Nat → UInt8) (a n : Nat) (ha : a ≤ 1099511627776) (hn : n ≤ 1048576) : Calls Try.prog 10 #[.agg (bA 16 key), .agg (bA 8 nonce), .int .i64 (a : Int), .int .i64 (n : Int)] w fun e w' => ∃ v, e = .returned v ∧ Own w' w.heap.size v (sPart (cStr key nonce) a n) ∧ Below w.heap.size w w' := by
  have d1 : decide ((a : Int) < 0) = false := by rw [decide_eq_false_iff_not]; omega
  have d2 : decide (1099511627776 < (a : Int)) = false := by rw [decide_eq_false_iff_not]; omega
  have d3 : decide ((n : Int) < 0) = false := by rw [decide_eq_false_iff_not]; omega
  have d4 : decide (1048576 < (n : Int)) = false := by rw [decide_eq_false_iff_not]; omega
  go_enter Try.func10, Try.ntmps10
  go_upto_region 3 with (fail)
  go_name_world W0 hW0
  have HK := kept (show Blk W0 w.heap.size 22 (bA 16 key) by rw [← hW0]; exact (Blk.new w _ _).alloc _)
  have HN1 := kept (show Blk W0 (w.heap.size + 1) 23 (bA 8 nonce) by
    rw [← hW0]
    have n1 := Blk.new (w.alloc (.cells (bA 16 key) 22)) 23 (bA 8 nonce)
    simpa only [World.size_alloc] using n1)
  have HW := kept (show Below w.heap.size w W0 by rw [← hW0]; exact ((Below.refl _ w).alloc (Nat.le_refl _) _).alloc (by simp) _)
  clear hW0
  go_upto_region 4 with (first | (refine wpList_load_row rfl 22 (.tmp 4) rfl w.heap.size rfl 22 (bA 16 key) (0, 0) _ HK.out Try.underlying22 rfl (by rw [b16_size, bA_size]) ?_) | (refine wpList_load_row rfl 23 (.tmp 5) rfl (w.heap.size + 1) rfl 23 (bA 8 nonce) (0, 0) _ HN1.out Try.underlying23 rfl (by rw [b8_size, bA_size]) ?_) | (refine wpList_builtA rfl 48 _ rfl [(0, .agg (bA 16 key)), (1, .agg (bA 8 nonce)), (2, .int .i64 (a : Int))] (ciA key nonce (a : Int)) rfl (ci_built3 key nonce (a : Int)) ?_))
  go_name_world W1 hW1
  have HC := kept (show CAt key nonce a W0.heap.size W1 by rw [← hW1]; exact Blk.new W0 _ _)
  have HW1 := kept (show Below w.heap.size w W1 by rw [← hW1]; exact HW.out.alloc HW.out.size _)
  have HS := kept HW.out.size
  clear hW1 HK HN1 HW
  generalize W0.heap.size = g at HC HS ⊢
  have hmk := run_make_row' (P := Try.prog) 27 5 (.int .u8 0) 1 Try.underlying27 u8_info rfl .i64 .i64 n (by omega) (by omega)
  clear d1 d2 d3 d4
  go_wp2_with fail
  have hM : Mem (W1.alloc (.cells (madeCells #[.int .u8 0] n) 5)) W1.heap.size (some ⟨W1.heap.size, 0, none⟩) (List.replicate n 0) := mem_lit (by
    rw [← Array.toList_inj, toList_madeCells_one]
    simp [bv])
  have HC2 : CAt key nonce a g (W1.alloc (.cells (madeCells #[.int .u8 0] n) 5)) := HC.out.keep (Below.heap_alloc W1 _ g HC.out.lt)
  have HW2 := HW1.out.alloc HW1.out.size (.cells (madeCells #[.int .u8 0] n) 5)
  refine (cnext_w _ key nonce a g HC2 W1.heap.size n n _ (List.replicate n 0) (by simp) hM (by simpa using hn) ha).mono ?_
  rintro e W3 ⟨v, rfl, ho, _, hg2⟩
  rw [mix_zeros] at ho
  have HO := kept (ho.mono HW2.size)
  have HW3 := kept (HW2.grown hg2 HW2.size (fun j hj => by cases hj; exact HS.out))
  clear ho hg2 hM HC2 HW2 hmk
  go_wp2_with fail
  go_ret
  exact ⟨v, rfl, HO.out, HW3.out⟩
theorem cstream_any (w : World) (key nonce : Nat → UInt8) (a n : Int) (ha : -9223372036854775808 ≤ a ∧ a ≤ 9223372036854775807) (hn : -9223372036854775808 ≤ n ∧ n ≤ 9223372036854775807) : Calls Try.prog 10 #[.agg (bA 16 key), .agg (bA 8 nonce), .int .i64 a, .int .i64 n] w fun e w' => ∃ v, e = .returned v ∧ Own w' w.heap.size v (sStream (cStr key nonce) a n) ∧ Below w.heap.size w w' := by
  by_cases h : 0 ≤ a ∧ a ≤ 1099511627776 ∧ 0 ≤ n ∧ n ≤ 1048576
  · obtain ⟨a', rfl⟩ := Int.eq_ofNat_of_zero_le h.1
    obtain ⟨n', rfl⟩ := Int.eq_ofNat_of_zero_le h.2.2.1
    rw [sStream_in _ a' n' (by omega) (by omega)]
    exact cstream_in w key nonce a' n' (by omega) (by omega)
  · rw [show sStream (cStr key nonce) a n = [] from if_neg h]
    exact (cstream_out w key nonce a n h).mono fun e w' ⟨he, hb⟩ => ⟨_, he, Own.nil_ _ _, hb⟩
end Go.Proofs.Ytnfgmgkdkfeekaa
