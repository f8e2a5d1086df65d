/-
  Package aes: encryption and decryption of a block, by contracts.
-/
import Derived.Test.YtnfgmgkdkfeekaaAcKeys
import Derived.Test.YtnfgmgkdkfeekaaAcRnd
namespace Go.Proofs.Ytnfgmgkdkfeekaa
open Go.RowKit
set_option linter.unusedVariables false
set_option linter.unusedSimpArgs false

structure FEnv (w : World) (g5 : Nat) (ks : Nat → UInt8) (W : World) : Prop where
  br : Blk W (w.heap.size + 1 + 1) 22 (bA 16 fun _ => 0)
  bs : Blk W g5 56 (bA 176 ks)
  bw : Below w.heap.size w W
theorem FEnv.below {w W W' : World} {g5 : Nat} {ks : Nat → UInt8} (h : FEnv w g5 ks W) (k : Below W.heap.size W W') : FEnv w g5 ks W' := ⟨h.br.below k h.br.lt, h.bs.below k h.bs.lt, h.bw.trans (k.mono h.bw.size)⟩
theorem FEnv.row {w W : World} {g5 : Nat} {ks : Nat → UInt8} (h : FEnv w g5 ks W) (hg : w.heap.size + 2 < g5) (ds : Array Value) : FEnv w g5 ks (W.setRow (w.heap.size + 1) ds) := ⟨h.br.row_far (by omega), h.bs.row_far (by omega), below_setRow h.bw (by omega) _⟩
theorem kRow_range {w : World} {g : Nat} {t : TypeId} {ks : Nat → UInt8} (h : Blk w g t (bA 176 ks)) : w.rangeAt g 0 (bA 16 (kRow ks 0)).toList := by
  have := h.row_range 0 (by omega)
  rwa [Nat.zero_mul] at this
set_option maxHeartbeats 4000000 in
set_option maxRecDepth 100000 in
theorem aenc_any (w : World) (key b : Nat → UInt8) : Calls Try.prog 24 #[.agg (bA 16 key), .agg (bA 16 b)] w fun e w' => e = .returned (.agg (bA 16 (aEnc key b))) ∧ Below w.heap.size w w' := by
  obtain ⟨ks, hks⟩ : ∃ ks, aKey key = ks := ⟨_, rfl⟩
  have HKY := kept (fun w => akeys_any w key)
  rw [hks] at HKY
  have HRES := kept (show aEnc key b = aSt ks b 10 by rw [← hks]; rfl)
  generalize aEnc key b = RES at HRES
  clear hks
  have hz1 := zero11
  go_enter Try.func24, Try.ntmps24
  go_upto_region 1 with (fail)
  go_name_world W0 hW0
  have HK0 := kept (show Blk W0 w.heap.size 22 (bA 16 key) by rw [← hW0]; exact ((Blk.new w _ _).alloc _).alloc _)
  have HB0 := kept (show Blk W0 (w.heap.size + 1) 22 (bA 16 b) by
    rw [← hW0]
    have n1 := Blk.new (w.alloc (.cells (bA 16 key) 22)) 22 (bA 16 b)
    simp only [World.size_alloc] at n1
    exact n1.alloc _)
  have HZ0 := kept (show Blk W0 (w.heap.size + 1 + 1) 22 (bA 16 fun _ => 0) by
    rw [← hW0]
    have n2 := Blk.new ((w.alloc (.cells (bA 16 key) 22)).alloc (.cells (bA 16 b) 22)) 22 (bA 16 fun _ => 0)
    simp only [World.size_alloc] at n2
    exact n2)
  have HW0 := kept (show Below w.heap.size w W0 by rw [← hW0]; exact (((Below.refl _ _).alloc (Nat.le_refl _) _).alloc (by simp) _).alloc (by simp; omega) _)
  clear hW0
  go_wp2_with (refine wpList_load_row rfl 22 (.tmp 2) rfl w.heap.size rfl 22 (bA 16 key) (0, 0) _ HK0.out Try.underlying22 rfl (by rw [b16_size, bA_size]) ?_)
  refine (HKY.out W0).mono ?_
  rintro e W1 ⟨rfl, kb⟩
  have HB1 := kept (HB0.out.below kb HB0.out.lt)
  have HZ1 := kept (HZ0.out.below kb HZ0.out.lt)
  have HW1 := kept (HW0.out.trans (kb.mono HW0.out.size))
  clear kb HK0 HB0 HZ0 HW0 HKY
  have hg5 : w.heap.size + 2 < W1.heap.size := HZ1.out.lt
  go_upto_region 2 with (refine wpList_store_row rfl 56 (.tmp 5) (.tmp 8) rfl W1.heap.size (bA 176 ks) rfl rfl 56 (bA 176 fun _ => 0) (Blk.new W1 _ _) (by rw [b176_size, bA_size]) (by rw [bA_size, bA_size]) (bA_one _ _) ?_)
  go_name_world W2 hW2
  have HB2 := kept (show Blk W2 (w.heap.size + 1) 22 (bA 16 b) by rw [← hW2]; exact (HB1.out.alloc _).row_far (by omega))
  have HE2 := kept (show FEnv w W1.heap.size ks W2 by
    rw [← hW2]
    exact ⟨(HZ1.out.alloc _).row_far (by omega), setRow_heap _ _ _ _ _ _ (Blk.new W1 _ _), below_setRow (HW1.out.alloc HW1.out.size _) (by omega) _⟩)
  clear hW2 hz1 HB1 HZ1 HW1
  generalize W1.heap.size = g5 at hg5 HE2
  have RG := kept (kRow_range HE2.out.bs)
  go_wp2_with (first | (refine wpList_load_row rfl 22 (.tmp 3) rfl (w.heap.size + 1) rfl 22 (bA 16 b) (0, 0) _ HB2.out Try.underlying22 rfl (by rw [b16_size, bA_size]) ?_) | (refine wpList_load_mid rfl 22 (.tmp 10) rfl g5 0 rfl (bA 16 (kRow ks 0)).toList _ RG.out Try.underlying22 rfl (s16_len _) ?_))
  refine (axor_any W2 b (kRow ks 0)).mono ?_
  rintro e W3 ⟨rfl, kb⟩
  have HE3 := kept (HE2.out.below kb)
  have HB3 := kept (HB2.out.below kb HB2.out.lt)
  clear HE2 HB2 kb RG
  obtain ⟨X, hX⟩ : ∃ X, aXor b (kRow ks 0) = X := ⟨_, rfl⟩
  rw [hX]
  have HX := kept (show aSt ks b 0 = X from hX)
  clear hX
  go_upto_region 3 with (refine wpList_store_row rfl 22 (.tmp 3) (.tmp 12) rfl (w.heap.size + 1) (bA 16 X) rfl rfl 22 (bA 16 b) HB3.out (by rw [b16_size, bA_size]) (by rw [bA_size, bA_size]) (bA_one _ _) ?_)
  go_name_world W4 hW4
  have HE4 := kept (show FEnv w g5 ks W4 by rw [← hW4]; exact HE3.out.row hg5 _)
  have HB4 := kept (show Blk W4 (w.heap.size + 1) 22 (bA 16 (aSt ks b 0)) by rw [← hW4, HX.out]; exact setRow_heap _ _ _ _ _ _ HB3.out)
  clear hW4 HE3 HB3 HX
  go_wp2_with fail
  go_loopw [6] (fun i wr => ∃ n : Nat, n ≤ 10 ∧ i = .int .i64 ((n + 1 : Nat) : Int) ∧ Kept (FEnv w g5 ks wr) ∧ Kept (Blk wr (w.heap.size + 1) 22 (bA 16 (aSt ks b n)))) (fun i _ => 11 - (intOf i).toNat)
  case atStart => exact ⟨0, Nat.zero_le _, rfl, HE4, HB4⟩
  case round =>
    obtain ⟨n, hn, rfl, HE5, HB5⟩ := hrel
    rename World => W5
    clear HE4 HB4
    by_cases hlt : n < 10
    · have hn10 : ((n + 1 : Nat) : Int) ≤ 10 := by omega
      have hn0 : 0 ≤ ((n + 1 : Nat) : Int) := by omega
      have hn11 : ((n + 1 : Nat) : Int) < 11 := by omega
      have hq : (((n + 1 : Nat) : Int) == 10) = (n + 1 == 10) := by
        rw [Bool.eq_iff_iff, beq_iff_eq, beq_iff_eq]
        omega
      have HN := kept (show aSt ks b (n + 1) = aRnd (n + 1 == 10) (aSt ks b n) (kRow ks (n + 1)) from rfl)
      have hm12 : n + 1 < 11 := by omega
      obtain ⟨m, hm⟩ : ∃ m, n + 1 = m := ⟨_, rfl⟩
      rw [hm] at HN hq hn10 hn0 hn11 hm12
      rw [hm]
      have HM := kept hm
      clear hm hlt hn
      obtain ⟨K, hK⟩ : ∃ K, kRow ks m = K := ⟨_, rfl⟩
      have HKR := kept hK
      rw [hK] at HN
      obtain ⟨S, hS⟩ : ∃ S, aSt ks b n = S := ⟨_, rfl⟩
      rw [hS] at HN HB5
      clear hK hS
      go_wp2_with fail
      obtain ⟨C, hCd⟩ : ∃ C : World → Prop, C = fun w' => Below W5.heap.size W5 w' := ⟨_, rfl⟩
      have HC := kept (show ∀ w', C w' → Below W5.heap.size W5 w' from fun w' h => by rw [hCd] at h; exact h)
      have HC' := kept (show ∀ w', Below W5.heap.size W5 w' → C w' from fun w' h => by rw [hCd]; exact h)
      clear hCd
      have Q1 := kept (show ∀ w', C w' → w'.rangeAt (w.heap.size + 1) 0 (bA 16 S).toList from fun w' h => (HB5.out.below (HC.out _ h) HB5.out.lt).range)
      have Q2 := kept (show ∀ w', C w' → w'.rangeAt g5 (m * 16) (bA 16 K).toList from fun w' h => by rw [← HKR.out]; exact (HE5.out.bs.below (HC.out _ h) HE5.out.bs.lt).row_range m hm12)
      refine wp_region_tail C 7 (by kernel_rfl) (by kernel_rfl) (HC'.out _ (Below.refl _ W5).drew) ?_
      simp only [List.take_succ_cons, List.take_zero, List.drop_succ_cons, List.drop_zero]
      refine quiet_load (by rfl) 22 (.tmp 3) rfl (w.heap.size + 1) 0 rfl (bA 16 S).toList _ Q1.out Try.underlying22 rfl (s16_len _) ?_
      quiet_step (exact fun _ => rfl)
      quiet_step (exact fun _ => rfl)
      refine quiet_load (by rfl) 22 (.tmp 19) rfl g5 (m * 16) (by rfl) (bA 16 K).toList _ Q2.out Try.underlying22 rfl (s16_len _) ?_
      quiet_step (exact fun _ => rfl)
      quiet_step (exact fun _ => rfl)
      quiet_step (exact fun hw' => (around_any _ S K (m == 10)).mono fun e w'' he => ⟨he.1, HC'.out _ ((HC.out _ hw').trans (he.2.mono (HC.out _ hw').size))⟩)
      refine wpQuiet_nil ?_
      intro W6 hC6
      have hb6 := HC.out _ hC6
      have HE6 := kept (HE5.out.below hb6)
      have HB6 := kept (HB5.out.below hb6 HB5.out.lt)
      clear hC6 hb6 HC HC' Q1 Q2 HE5 HB5
      obtain ⟨T, hT⟩ : ∃ T, aRnd (m == 10) S K = T := ⟨_, rfl⟩
      rw [hT] at HN
      rw [hT]
      clear hT
      go_wp2_with (refine wpList_store_row rfl 22 (.tmp 3) (.tmp 23) rfl (w.heap.size + 1) (bA 16 T) rfl rfl 22 (bA 16 S) HB6.out (by rw [b16_size, bA_size]) (by rw [bA_size, bA_size]) (bA_one _ _) ?_)
      go_roundw
      case rel => exact ⟨n + 1, by have := HM.out; omega, congrArg (Value.int .i64) (by have := HM.out; omega), kept (HE6.out.row hg5 _), kept (by rw [HM.out, HN.out]; exact setRow_heap _ _ _ _ _ _ HB6.out)⟩
      case measure => have := HM.out; simp [intOf]; omega
    · obtain rfl : n = 10 := by omega
      rw [← HRES.out] at HB5
      clear hn hlt HRES
      go_wp2_with (first | (refine wpList_load_row rfl 22 (.tmp 3) rfl (w.heap.size + 1) rfl 22 (bA 16 RES) (0, 0) _ HB5.out Try.underlying22 rfl (by rw [b16_size, bA_size]) ?_) | (refine wpList_store_row rfl 22 (.tmp 4) (.tmp 24) rfl (w.heap.size + 1 + 1) (bA 16 RES) rfl rfl 22 (bA 16 (fun _ => 0)) HE5.out.br (by rw [b16_size, bA_size]) (by rw [bA_size, bA_size]) (bA_one _ _) ?_))
      exact bodyPost_ret (v := .agg (bA 16 RES)) (results_cell_row Try.results24 _ _ (w.heap.size + 1 + 1) 22 (bA 16 RES) (0, 0) _ rfl (setRow_heap _ _ _ _ _ _ HE5.out.br) Try.underlying22 rfl (by rw [b16_size, bA_size])) rfl ⟨rfl, below_setRow HE5.out.bw (by omega) _⟩
end Go.Proofs.Ytnfgmgkdkfeekaa
