/-
  The fixed examples that every statement of layer 7 checks first are met.
-/
import Derived.Test.YtapdcgfkmkkjaaaAesCon
import Derived.Test.YtapdcgfkmkkjaaaAesNum
import Derived.Test.YtapdcgfkmkkjaaaTailQ
import Derived.Deep.Cut
namespace Go.Proofs.Ytapdcgfkmkkjaaa
open Go.RowKit
set_option linter.unusedVariables false
set_option linter.unusedSimpArgs false

theorem fill_exK (n : Nat) (hn : n < 16) : ((exK n).toNat : Int) = (n : Int) := by
  unfold exK
  rw [UInt8.toNat_ofNat']
  omega
theorem fill_exB (n : Nat) (hn : n < 16) : ((exB n).toNat : Int) = 17 * (n : Int) := by
  unfold exB
  rw [UInt8.toNat_ofNat']
  omega
set_option maxHeartbeats 2000000 in
set_option maxRecDepth 100000 in
theorem aawake_any (w : World) : Calls Try.prog 8 #[] w fun e w' => e = .returned (.bool true) ∧ Below w.heap.size w w' := by
  go_enter Try.func8, Try.ntmps8
  go_upto_region 3 with (fail)
  go_name_world W0 hW0
  have HK0 := kept (show Blk W0 w.heap.size 22 (bA 16 (fillF exK 0)) by
    rw [← hW0]
    exact (Blk.new w 22 (bA 16 fun _ => 0)).alloc _)
  have HB0 := kept (show Blk W0 (w.heap.size + 1) 22 (bA 16 (fillF exB 0)) by
    rw [← hW0]
    have n2 := Blk.new (w.alloc (.cells (bA 16 fun _ => 0) 22)) 22 (bA 16 fun _ => 0)
    simp only [World.size_alloc] at n2
    exact n2)
  have HW0 := kept (show Below w.heap.size w W0 by
    rw [← hW0]
    exact ((Below.refl _ _).alloc (Nat.le_refl _) _).alloc (by simp) _)
  clear hW0
  go_wp2_with fail
  go_loopw [3] (fun i wr => ∃ n : Nat, n ≤ 16 ∧ i = .int .i64 n ∧ Kept (Blk wr w.heap.size 22 (bA 16 (fillF exK n))) ∧ Kept (Blk wr (w.heap.size + 1) 22 (bA 16 (fillF exB n))) ∧ Kept (Below w.heap.size w wr)) (fun i _ => 16 - (intOf i).toNat)
  case atStart => exact ⟨0, Nat.zero_le _, rfl, HK0, HB0, HW0⟩
  case round =>
    obtain ⟨n, hn, rfl, HK1, HB1, HW1⟩ := hrel
    rename World => W1
    clear HK0 HB0 HW0
    by_cases hlt : n < 16
    · have hn16 : (n : Int) < 16 := by omega
      have c1 : W1.cell? ⟨w.heap.size, n, none⟩ = some (.int .u8 0) := by rw [HK1.out.cell, bA_at _ _ hlt, fillF_at]; rfl
      have f1 := HK1.out.frozen n
      have c2 : W1.cell? ⟨w.heap.size + 1, n, none⟩ = some (.int .u8 0) := by rw [HB1.out.cell, bA_at _ _ hlt, fillF_at]; rfl
      have f2 := HB1.out.frozen n
      have K1 := kept (fill_exK n hlt)
      have K2 := kept (fill_exB n hlt)
      go_wp2
      go_roundw
      case rel =>
        have P1 := (HK1.out.putB n (exK n) (f' := fillF exK (n + 1)) fun j _ => fillF_set _ _ _ rfl j).far (p := ⟨w.heap.size + 1, n, none⟩) (by show w.heap.size ≠ w.heap.size + 1; omega) (.int .u8 (17 * (n : Int)))
        have P2 := (HB1.out.far (p := ⟨w.heap.size, n, none⟩) (by show w.heap.size + 1 ≠ w.heap.size; omega) (.int .u8 (n : Int))).putB n (exB n) (f' := fillF exB (n + 1)) fun j _ => fillF_set _ _ _ rfl j
        rw [K1.out] at P1
        rw [K2.out] at P2
        exact ⟨n + 1, by omega, by go_num, kept P1, kept P2, kept ((HW1.out.setCell (p := ⟨w.heap.size, n, none⟩) (by show w.heap.size ≤ w.heap.size; omega) _).setCell (p := ⟨w.heap.size + 1, n, none⟩) (by show w.heap.size ≤ w.heap.size + 1; omega) _)⟩
      case measure => simp [intOf]; omega
    · obtain rfl : n = 16 := by omega
      have HK2 := kept (show Blk W1 w.heap.size 22 (bA 16 exK) by rw [← fillF_all]; exact HK1.out)
      have HB2 := kept (show Blk W1 (w.heap.size + 1) 22 (bA 16 exB) by rw [← fillF_all]; exact HB1.out)
      clear HK1 HB1 hn hlt
      go_wp2_with (first | (refine wpList_load_row rfl 22 (.tmp 1) rfl w.heap.size rfl 22 (bA 16 exK) (0, 0) _ HK2.out Try.underlying22 rfl (by rw [b16_size, bA_size]) ?_) | (refine wpList_load_row rfl 22 (.tmp 2) rfl (w.heap.size + 1) rfl 22 (bA 16 exB) (0, 0) _ HB2.out Try.underlying22 rfl (by rw [b16_size, bA_size]) ?_))
      refine (aenc_any W1 exK exB).mono ?_
      rw [ex_enc.arr]
      rintro e w2 ⟨rfl, k⟩
      have HK3 := kept (HK2.out.below k HK2.out.lt)
      have HB3 := kept (HB2.out.below k HB2.out.lt)
      have HW3 := kept (below_next HW1.out k)
      have hlt3 : w.heap.size + 1 < w2.heap.size := HB3.out.lt
      clear k HK2 HB2 HW1
      go_upto_region 9 with (refine wpList_store_row rfl 22 (.tmp 4) (.tmp 20) rfl w2.heap.size (bA 16 (lf ex10)) rfl rfl 22 (bA 16 fun _ => 0) (Blk.new w2 _ _) (by rw [b16_size, bA_size]) (by rw [bA_size, bA_size]) (bA_one _ _) ?_)
      go_name_world W4 hW4
      have HK4 := kept (show Blk W4 w.heap.size 22 (bA 16 exK) by rw [← hW4]; exact (HK3.out.alloc _).row_far (by omega))
      have HB4 := kept (show Blk W4 (w.heap.size + 1) 22 (bA 16 exB) by rw [← hW4]; exact (HB3.out.alloc _).row_far (by omega))
      have HE4 := kept (show Blk W4 w2.heap.size 22 (bA 16 (lf ex10)) by rw [← hW4]; exact setRow_heap _ _ _ _ _ _ (Blk.new w2 _ _))
      have HW4 := kept (show Below w.heap.size w W4 by rw [← hW4]; exact below_setRow (HW3.out.alloc HW3.out.size _) HW3.out.size _)
      clear hW4 HK3 HB3 HW3
      generalize w2.heap.size = g4 at hlt3 HE4
      obtain ⟨C, hCd⟩ : ∃ C : World → Prop, C = fun w' => Below W4.heap.size W4 w' := ⟨_, rfl⟩
      have HC := kept (show ∀ w', C w' → Below W4.heap.size W4 w' from fun w' h => by rw [hCd] at h; exact h)
      have HC' := kept (show ∀ w', Below W4.heap.size W4 w' → C w' from fun w' h => by rw [hCd]; exact h)
      clear hCd
      have QK := kept (show ∀ w', C w' → w'.rangeAt w.heap.size 0 (bA 16 exK).toList from fun w' h => (HK4.out.below (HC.out _ h) HK4.out.lt).range)
      have QB := kept (show ∀ w', C w' → w'.rangeAt (w.heap.size + 1) 0 (bA 16 exB).toList from fun w' h => (HB4.out.below (HC.out _ h) HB4.out.lt).range)
      have QE := kept (show ∀ w', C w' → w'.rangeAt g4 0 (bA 16 (lf ex10)).toList from fun w' h => (HE4.out.below (HC.out _ h) HE4.out.lt).range)
      have D0 := kept (show ∀ w', C w' → w'.cell? ⟨g4, 0, none⟩ = some (.int .u8 105) from fun w' h => by rw [(HE4.out.below (HC.out _ h) HE4.out.lt).cell]; rfl)
      have D1 := kept (show ∀ w', C w' → w'.cell? ⟨g4, 1, none⟩ = some (.int .u8 196) from fun w' h => by rw [(HE4.out.below (HC.out _ h) HE4.out.lt).cell]; rfl)
      have D2 := kept (show ∀ w', C w' → w'.cell? ⟨g4, 2, none⟩ = some (.int .u8 224) from fun w' h => by rw [(HE4.out.below (HC.out _ h) HE4.out.lt).cell]; rfl)
      have D15 := kept (show ∀ w', C w' → w'.cell? ⟨g4, 15, none⟩ = some (.int .u8 90) from fun w' h => by rw [(HE4.out.below (HC.out _ h) HE4.out.lt).cell]; rfl)
      have HS16 := kept (show ∀ f : Nat → UInt8, (Try.prog.info? 22).map (·.size) = some (bA 16 f).toList.length from fun f => by rw [b16_size, Array.length_toList, bA_size])
      have hd := fun w' => adec_any w' exK (lf ex10)
      have hk := fun w' => akeys_any w' exK
      have hx := fun w' => axor_any w' exK exK
      rw [ex_dec.arr] at hd
      rw [show bA 16 (aXor exK exK) = bA 16 (fun _ => 0) from bA_ext fun j _ => gxr_self _] at hx
      have HD := kept hd
      have HKY := kept hk
      have HX := kept hx
      clear hd hk hx
      have e1 := fun w' => run_eql16 exB exB w'
      have e2 := fun w' => run_eql16 exK exK w'
      have e3 := fun w' => run_eql16 (fun _ => 0) (fun _ => 0) w'
      rw [eq16_yes (fun _ _ => rfl)] at e1 e2 e3
      have e4 : ∀ w', (binOp .eql 22 (.agg (bA 16 fun _ => 0)) (.agg #[Value.int .u8 0, Value.int .u8 0, Value.int .u8 0, Value.int .u8 0, Value.int .u8 0, Value.int .u8 0, Value.int .u8 0, Value.int .u8 0, Value.int .u8 0, Value.int .u8 0, Value.int .u8 0, Value.int .u8 0, Value.int .u8 0, Value.int .u8 0, Value.int .u8 0, Value.int .u8 0])).run Try.prog w' = .ok (.bool true) w' := e3
      clear e3
      have i1 : ∀ w', (Instr.index 32 (.agg (bA 176 (aKey exK))) (.int .i64 0)).run Try.prog w' = .ok (.agg (bA 16 (kRow (aKey exK) 0))) w' := fun w' => run_index_row (aKey exK) 0 (by omega) w'
      rw [(aKey_first exK).arr] at i1
      generalize aKey exK = ks at HKY i1
      refine wp_region_class C (by kernel_rfl) (by kernel_rfl) (HC'.out _ (Below.refl _ W4).drew) ?_
      quiet_step (exact fun _ => rfl)
      refine quiet_cell (by rfl) 5 (.tmp 21) rfl g4 0 rfl (.int .u8 105) _ (D0.out) Try.underlying5 rfl ?_
      quiet_step (exact fun _ => rfl)
      quiet_step (exact fun _ => rfl)
      quiet_step (exact fun _ => rfl)
      refine quiet_cell (by rfl) 5 (.tmp 25) rfl g4 1 rfl (.int .u8 196) _ (D1.out) Try.underlying5 rfl ?_
      quiet_step (exact fun _ => rfl)
      quiet_step (exact fun _ => rfl)
      quiet_step (exact fun _ => rfl)
      quiet_step (exact fun _ => rfl)
      refine quiet_cell (by rfl) 5 (.tmp 30) rfl g4 2 rfl (.int .u8 224) _ (D2.out) Try.underlying5 rfl ?_
      quiet_step (exact fun _ => rfl)
      quiet_step (exact fun _ => rfl)
      quiet_step (exact fun _ => rfl)
      quiet_step (exact fun _ => rfl)
      refine quiet_cell (by rfl) 5 (.tmp 35) rfl g4 15 rfl (.int .u8 90) _ (D15.out) Try.underlying5 rfl ?_
      quiet_step (exact fun _ => rfl)
      quiet_step (exact fun _ => rfl)
      quiet_step (exact fun _ => rfl)
      refine quiet_load (by rfl) 22 (.tmp 1) rfl w.heap.size 0 rfl (bA 16 exK).toList _ QK.out Try.underlying22 rfl (HS16.out _) ?_
      refine quiet_load (by rfl) 22 (.tmp 4) rfl g4 0 rfl (bA 16 (lf ex10)).toList _ QE.out Try.underlying22 rfl (HS16.out _) ?_
      quiet_step (exact fun hw' => (HD.out _).mono fun e w'' he => ⟨he.1, HC'.out _ ((HC.out _ hw').trans (he.2.mono (HC.out _ hw').size))⟩)
      refine quiet_load (by rfl) 22 (.tmp 2) rfl (w.heap.size + 1) 0 rfl (bA 16 exB).toList _ QB.out Try.underlying22 rfl (HS16.out _) ?_
      quiet_step (exact fun _ => rfl)
      quiet_step (exact fun _ => rfl)
      quiet_step (exact fun _ => rfl)
      refine quiet_load (by rfl) 22 (.tmp 1) rfl w.heap.size 0 rfl (bA 16 exK).toList _ QK.out Try.underlying22 rfl (HS16.out _) ?_
      quiet_step (exact fun hw' => (HKY.out _).mono fun e w'' he => ⟨he.1, HC'.out _ ((HC.out _ hw').trans (he.2.mono (HC.out _ hw').size))⟩)
      quiet_step (exact fun _ => rfl)
      refine quiet_load (by rfl) 22 (.tmp 1) rfl w.heap.size 0 rfl (bA 16 exK).toList _ QK.out Try.underlying22 rfl (HS16.out _) ?_
      quiet_step (exact fun _ => rfl)
      quiet_step (exact fun _ => rfl)
      quiet_step (exact fun _ => rfl)
      refine quiet_load (by rfl) 22 (.tmp 1) rfl w.heap.size 0 rfl (bA 16 exK).toList _ QK.out Try.underlying22 rfl (HS16.out _) ?_
      refine quiet_load (by rfl) 22 (.tmp 1) rfl w.heap.size 0 rfl (bA 16 exK).toList _ QK.out Try.underlying22 rfl (HS16.out _) ?_
      quiet_step (exact fun hw' => (HX.out _).mono fun e w'' he => ⟨he.1, HC'.out _ ((HC.out _ hw').trans (he.2.mono (HC.out _ hw').size))⟩)
      quiet_step (exact fun _ => rfl)
      quiet_step (exact fun _ => rfl)
      quiet_step (exact fun _ => rfl)
      quiet_step (exact fun _ => rfl)
      refine wpQuiet_nil ?_
      intro W5 hC5
      have b5 := kept (HW4.out.trans ((HC.out _ hC5).mono HW4.out.size))
      go_wp2_with fail
      go_ret
      exact ⟨rfl, b5.out⟩
end Go.Proofs.Ytapdcgfkmkkjaaa
