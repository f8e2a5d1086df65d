/-
  A round is that of the reference, and encryption consists of rounds: the law AesRounds returns true for every input. No condition.
-/
import Derived.Test.YtapdcgfkmkkjaaaAesLaw
namespace Go.Proofs.Ytapdcgfkmkkjaaa.aesRoundL
open Go.ChangeShapes Go.WideShapes Go.ChangeAt Go.RowKit
set_option linter.unusedVariables false
set_option linter.unusedSimpArgs false

set_option maxHeartbeats 4000000 in
set_option maxRecDepth 100000 in
theorem walk (w : World) (key b : Nat → UInt8) (last : Bool) (n : UInt8) :
    Calls Try.prog 6 #[.agg (bA 16 key), .agg (bA 16 b), .bool last, .int .u8 (n.toNat : Int)] w fun e w' => e = .returned (.bool true) ∧ Below w.heap.size w w' := by
  have hn := byte_lt n
  have hn' : (n.toNat : Int) < 256 := by omega
  have hr : (n.toNat : Int).tmod 11 = ((n.toNat % 11 : Nat) : Int) := by
    rw [Int.tmod_eq_emod_of_nonneg (by omega)]
    omega
  have hk0 : ((n.toNat % 11 : Nat) : Int) < 11 := by omega
  have hk1 : n.toNat % 11 < 11 := by omega
  generalize n.toNat % 11 = kk at hr hk0 hk1
  have hw : IntKind.i64.wrap (n.toNat : Int) = (n.toNat : Int) := IntWalk.i64_in _ (by omega)
  generalize n.toNat = n0 at hr hn hn' hw
  go_enter Try.func6, Try.ntmps6
  have hz1 := zero11
  go_upto_region 1 with (fail)
  go_name_world W0 hW0
  have n0 := Blk.new (w) 22 (bA 16 key)
  have n1 := Blk.new (w.alloc (.cells (bA 16 key) 22)) 22 (bA 16 b)
  simp only [World.size_alloc] at n1
  have H0 := kept (show Blk W0 w.heap.size 22 (bA 16 key) by rw [← hW0]; exact n0.alloc _)
  have H1 := kept (show Blk W0 (w.heap.size + 1) 22 (bA 16 b) by rw [← hW0]; exact n1)
  have HW := kept (show Below w.heap.size w W0 by rw [← hW0]; exact ((Below.refl _ w).alloc (Nat.le_refl _) _).alloc (by simp) _)
  clear hW0 n0 n1
  go_wp2_with fail
  refine (aawake_any W0).mono ?_
  rintro e W1 ⟨rfl, k⟩
  replace H0 := kept (H0.out.below k H0.out.lt)
  replace H1 := kept (H1.out.below k H1.out.lt)
  replace HW := kept (below_next HW.out k)
  clear k
  have hlt : w.heap.size + 1 < W1.heap.size := H1.out.lt
  go_wp2_with (refine wpList_load_row rfl 22 (.tmp 4) rfl w.heap.size rfl 22 (bA 16 key) (0, 0) _ H0.out Try.underlying22 rfl (by rw [b16_size, bA_size]) ?_)
  refine (akeys_any W1 key).mono ?_
  rintro e W2 ⟨rfl, k⟩
  replace H0 := kept (H0.out.below k H0.out.lt)
  replace H1 := kept (H1.out.below k H1.out.lt)
  replace HW := kept (below_next HW.out k)
  have hlt2 : w.heap.size + 1 < W2.heap.size := H1.out.lt
  clear k hlt
  go_upto_region 4 with (refine wpList_store_row rfl 32 (.tmp 9) (.tmp 15) rfl W2.heap.size (bA 176 (aKey key)) rfl rfl 32 (bA 176 fun _ => 0) (Blk.new W2 _ _) (by rw [b176_size, bA_size]) (by rw [bA_size, bA_size]) (bA_one _ _) ?_)
  go_name_world W3 hW3
  replace H0 := kept (show Blk W3 w.heap.size 22 (bA 16 key) by rw [← hW3]; exact (H0.out.alloc _).row_far (by omega))
  replace H1 := kept (show Blk W3 (w.heap.size + 1) 22 (bA 16 b) by rw [← hW3]; exact (H1.out.alloc _).row_far (by omega))
  have H2 := kept (show Blk W3 W2.heap.size 32 (bA 176 (aKey key)) by rw [← hW3]; exact setRow_heap _ _ _ _ _ _ (Blk.new W2 _ _))
  replace HW := kept (show Below w.heap.size w W3 by rw [← hW3]; exact below_setRow (HW.out.alloc HW.out.size _) HW.out.size _)
  clear hW3 hz1
  generalize W2.heap.size = g2 at hlt2 H2
  have hRK := fun w' => rkeys_any w' key sbx
  rw [show kW sbx key 44 = aKey key from rfl] at hRK
  have HRK := kept hRK
  have HENC := kept (fun w' => aenc_any w' key b)
  have hst : aEnc key b = aSt (aKey key) b 10 := rfl
  rw [hst] at HENC
  clear hRK hst
  generalize aKey key = ks at *
  have i1 : ∀ w', (Instr.index 32 (.agg (bA 176 ks)) (.int .i64 (kk : Int))).run Try.prog w' = .ok (.agg (bA 16 (kRow ks kk))) w' := fun w' => run_index_row ks kk hk1 w'
  have HA := kept (fun w' => around_any w' b (kRow ks kk) last)
  have HB := kept (fun w' => rround_any w' b (kRow ks kk) sbx last)
  have hsame : rndF last sbx b (kRow ks kk) = aRnd last b (kRow ks kk) := rfl
  rw [hsame] at HB
  clear hsame
  have q1 := fun w' => run_equalIn16 (aRnd last b (kRow ks kk)) (aRnd last b (kRow ks kk)) w'
  rw [eq16_yes (fun _ _ => rfl)] at q1
  generalize aRnd last b (kRow ks kk) = R at HA HB q1
  obtain ⟨C, hCd⟩ : ∃ C : World → Prop, C = fun w' => Below W3.heap.size W3 w' := ⟨_, rfl⟩
  have HC := kept (show ∀ w', C w' → Below W3.heap.size W3 w' from fun w' h => by rw [hCd] at h; exact h)
  have HC' := kept (show ∀ w', Below W3.heap.size W3 w' → C w' from fun w' h => by rw [hCd]; exact h)
  clear hCd
  have QK := kept (show ∀ w', C w' → w'.rangeAt w.heap.size 0 (bA 16 key).toList from fun w' h => (H0.out.below (HC.out _ h) H0.out.lt).range)
  have QB := kept (show ∀ w', C w' → w'.rangeAt (w.heap.size + 1) 0 (bA 16 b).toList from fun w' h => (H1.out.below (HC.out _ h) H1.out.lt).range)
  have QR := kept (show ∀ w', C w' → w'.rangeAt g2 (kk * 16) (bA 16 (kRow ks kk)).toList from fun w' h => (H2.out.below (HC.out _ h) H2.out.lt).row_range _ (hk1))
  refine wp_region_class C (by kernel_rfl) (by kernel_rfl) (HC'.out _ (Below.refl _ W3).drew) ?_
  refine quiet_load (by rfl) 22 (.tmp 5) rfl (w.heap.size + 1) 0 (by rfl) (bA 16 b).toList _ QB.out Try.underlying22 rfl (s16_len _) ?_
  quiet_step (exact fun _ => rfl)
  quiet_step (exact fun _ => rfl)
  quiet_step (exact fun _ => rfl)
  quiet_step (exact fun _ => rfl)
  refine quiet_load (by rfl) 22 (.tmp 20) rfl g2 (kk * 16) (by rfl) (bA 16 (kRow ks kk)).toList _ QR.out Try.underlying22 rfl (s16_len _) ?_
  quiet_step (exact fun _ => rfl)
  quiet_step (exact fun hw' => (HA.out _).mono fun e w'' he => ⟨he.1, HC'.out _ ((HC.out _ hw').trans (he.2.mono (HC.out _ hw').size))⟩)
  refine quiet_load (by rfl) 22 (.tmp 5) rfl (w.heap.size + 1) 0 (by rfl) (bA 16 b).toList _ QB.out Try.underlying22 rfl (s16_len _) ?_
  refine quiet_load (by rfl) 22 (.tmp 4) rfl w.heap.size 0 (by rfl) (bA 16 key).toList _ QK.out Try.underlying22 rfl (s16_len _) ?_
  quiet_step (exact fun hw' => (rbox7_any _).mono fun e w'' he => ⟨he.1, HC'.out _ ((HC.out _ hw').trans (he.2.mono (HC.out _ hw').size))⟩)
  quiet_step (exact fun hw' => (HRK.out _).mono fun e w'' he => ⟨he.1, HC'.out _ ((HC.out _ hw').trans (he.2.mono (HC.out _ hw').size))⟩)
  quiet_step (exact fun _ => rfl)
  quiet_step (exact fun _ => rfl)
  quiet_step (exact fun _ => rfl)
  quiet_step (exact fun _ => rfl)
  quiet_step (exact fun _ => rfl)
  quiet_step (exact fun hw' => (rbox7_any _).mono fun e w'' he => ⟨he.1, HC'.out _ ((HC.out _ hw').trans (he.2.mono (HC.out _ hw').size))⟩)
  quiet_step (exact fun hw' => (HB.out _).mono fun e w'' he => ⟨he.1, HC'.out _ ((HC.out _ hw').trans (he.2.mono (HC.out _ hw').size))⟩)
  quiet_step (exact fun _ => rfl)
  refine wpQuiet_nil ?_
  intro W4 hC4
  have hb4 := HC.out _ hC4
  replace H0 := kept (H0.out.below hb4 H0.out.lt)
  replace H1 := kept (H1.out.below hb4 H1.out.lt)
  replace H2 := kept (H2.out.below hb4 H2.out.lt)
  replace HW := kept (below_next HW.out hb4)
  clear hC4 hb4 HC HC' QK QB QR HRK HA HB i1 q1 hr hk0 hk1 hn hn' hw
  have RG := kept (H2.out.row_range 0 (by omega))
  go_wp2_with (first | (refine wpList_load_row rfl 22 (.tmp 5) rfl (w.heap.size + 1) rfl 22 (bA 16 b) (0, 0) _ H1.out Try.underlying22 rfl (by rw [b16_size, bA_size]) ?_) | (refine wpList_load_mid rfl 22 (.tmp 37) rfl g2 (0 * 16) rfl (bA 16 (kRow ks 0)).toList _ RG.out Try.underlying22 rfl (s16_len _) ?_))
  refine (axor_any W4 b (kRow ks 0)).mono ?_
  rintro e W5 ⟨rfl, k⟩
  replace H0 := kept (H0.out.below k H0.out.lt)
  replace H1 := kept (H1.out.below k H1.out.lt)
  replace H2 := kept (H2.out.below k H2.out.lt)
  replace HW := kept (below_next HW.out k)
  have hlt5 : g2 < W5.heap.size := H2.out.lt
  clear k RG
  have HS0 := kept (show aXor b (kRow ks 0) = aSt ks b 0 from rfl)
  rw [HS0.out]
  clear HS0
  go_upto_region 7 with (refine wpList_store_row rfl 22 (.tmp 10) (.tmp 39) rfl W5.heap.size (bA 16 (aSt ks b 0)) rfl rfl 22 (bA 16 fun _ => 0) (Blk.new W5 _ _) (by rw [b16_size, bA_size]) (by rw [bA_size, bA_size]) (bA_one _ _) ?_)
  go_name_world W6 hW6
  have A0 := kept (show Blk W6 w.heap.size 22 (bA 16 key) by rw [← hW6]; exact (H0.out.alloc _).row_far (by omega))
  have A1 := kept (show Blk W6 (w.heap.size + 1) 22 (bA 16 b) by rw [← hW6]; exact (H1.out.alloc _).row_far (by omega))
  have A2 := kept (show Blk W6 g2 32 (bA 176 ks) by rw [← hW6]; exact (H2.out.alloc _).row_far (by omega))
  have A3 := kept (show Blk W6 W5.heap.size 22 (bA 16 (aSt ks b 0)) by rw [← hW6]; exact setRow_heap _ _ _ _ _ _ (Blk.new W5 _ _))
  have AW := kept (show Below w.heap.size w W6 by rw [← hW6]; exact below_setRow (HW.out.alloc HW.out.size _) HW.out.size _)
  clear hW6 H0 H1 H2 HW
  generalize W5.heap.size = g3 at hlt5 A3
  go_wp2_with fail
  go_loopw [11] (fun i wr => ∃ n : Nat, n ≤ 10 ∧ i = .int .i64 ((n + 1 : Nat) : Int) ∧ Kept (Blk wr w.heap.size 22 (bA 16 key)) ∧ Kept (Blk wr (w.heap.size + 1) 22 (bA 16 b)) ∧ Kept (Blk wr g2 32 (bA 176 ks)) ∧ Kept (Blk wr g3 22 (bA 16 (aSt ks b n))) ∧ Kept (Below w.heap.size w wr)) (fun i _ => 11 - (intOf i).toNat)
  case atStart => exact ⟨0, Nat.zero_le _, rfl, A0, A1, A2, A3, AW⟩
  case round =>
    obtain ⟨n, hn, rfl, H0, H1, H2, H3, HW⟩ := hrel
    rename World => W7
    clear A0 A1 A2 A3 AW
    by_cases hlt : n < 10
    · have hn10 : ((n + 1 : Nat) : Int) ≤ 10 := by omega
      have hn0 : 0 ≤ ((n + 1 : Nat) : Int) := by omega
      have hn11 : ((n + 1 : Nat) : Int) < 11 := by omega
      have hm11 : n + 1 < 11 := by omega
      have hq : (((n + 1 : Nat) : Int) == 10) = (n + 1 == 10) := by
        rw [Bool.eq_iff_iff, beq_iff_eq, beq_iff_eq]
        omega
      have HN := kept (show aSt ks b (n + 1) = aRnd (n + 1 == 10) (aSt ks b n) (kRow ks (n + 1)) from rfl)
      obtain ⟨m, hm⟩ : ∃ m, n + 1 = m := ⟨_, rfl⟩
      rw [hm] at HN hq hn10 hn0 hn11 hm11
      rw [hm]
      have HM := kept hm
      clear hm hlt hn
      have HRD := kept (fun w' => around_any w' (aSt ks b n) (kRow ks m) (m == 10))
      rw [← HN.out] at HRD
      obtain ⟨T, hT⟩ : ∃ T, aSt ks b m = T := ⟨_, rfl⟩
      rw [hT] at HRD
      have HT := kept hT
      clear hT HN
      go_wp2_with fail
      obtain ⟨C, hCd⟩ : ∃ C : World → Prop, C = fun w' => Below W7.heap.size W7 w' := ⟨_, rfl⟩
      have HC := kept (show ∀ w', C w' → Below W7.heap.size W7 w' from fun w' h => by rw [hCd] at h; exact h)
      have HC' := kept (show ∀ w', Below W7.heap.size W7 w' → C w' from fun w' h => by rw [hCd]; exact h)
      clear hCd
      have QS := kept (show ∀ w', C w' → w'.rangeAt g3 0 (bA 16 (aSt ks b n)).toList from fun w' h => (H3.out.below (HC.out _ h) H3.out.lt).range)
      have QR := kept (show ∀ w', C w' → w'.rangeAt g2 (m * 16) (bA 16 (kRow ks m)).toList from fun w' h => (H2.out.below (HC.out _ h) H2.out.lt).row_range _ (hm11))
      refine wp_region_tail C 7 (by kernel_rfl) (by kernel_rfl) (HC'.out _ (Below.refl _ W7).drew) ?_
      simp only [List.take_succ_cons, List.take_zero, List.drop_succ_cons, List.drop_zero]
      refine quiet_load (by rfl) 22 (.tmp 10) rfl g3 0 (by rfl) (bA 16 (aSt ks b n)).toList _ QS.out Try.underlying22 rfl (s16_len _) ?_
      quiet_step (exact fun _ => rfl)
      quiet_step (exact fun _ => rfl)
      refine quiet_load (by rfl) 22 (.tmp 46) rfl g2 (m * 16) (by rfl) (bA 16 (kRow ks m)).toList _ QR.out Try.underlying22 rfl (s16_len _) ?_
      quiet_step (exact fun _ => rfl)
      quiet_step (exact fun _ => rfl)
      quiet_step (exact fun hw' => (HRD.out _).mono fun e w'' he => ⟨he.1, HC'.out _ ((HC.out _ hw').trans (he.2.mono (HC.out _ hw').size))⟩)
      refine wpQuiet_nil ?_
      intro W8 hC8
      have hb8 := HC.out _ hC8
      replace H0 := kept (H0.out.below hb8 H0.out.lt)
      replace H1 := kept (H1.out.below hb8 H1.out.lt)
      replace H2 := kept (H2.out.below hb8 H2.out.lt)
      replace H3 := kept (H3.out.below hb8 H3.out.lt)
      replace HW := kept (below_next HW.out hb8)
      clear hC8 hb8 HC HC' QS QR HRD
      generalize aSt ks b n = old at H3
      go_wp2_with (refine wpList_store_row rfl 22 (.tmp 10) (.tmp 50) rfl g3 (bA 16 T) rfl rfl 22 (bA 16 old) (H3.out) (by rw [b16_size, bA_size]) (by rw [bA_size, bA_size]) (bA_one _ _) ?_)
      go_roundw
      case rel =>
        exact ⟨n + 1, by have := HM.out; omega, congrArg (Value.int .i64) (by have := HM.out; omega), kept (H0.out.row_far (by omega)), kept (H1.out.row_far (by omega)), kept (H2.out.row_far (by omega)), kept (by rw [HM.out, HT.out]; exact setRow_heap _ _ _ _ _ _ H3.out), kept (below_setRow HW.out (by omega) _)⟩
      case measure => have := HM.out; simp [intOf]; omega
    · obtain rfl : n = 10 := by omega
      clear hn hlt
      generalize aSt ks b 10 = E at *
      have e1 := fun w' => run_eql16 E E w'
      rw [eq16_yes (fun _ _ => rfl)] at e1
      go_wp2_with fail
      obtain ⟨C, hCd⟩ : ∃ C : World → Prop, C = fun w' => Below W7.heap.size W7 w' := ⟨_, rfl⟩
      have HC := kept (show ∀ w', C w' → Below W7.heap.size W7 w' from fun w' h => by rw [hCd] at h; exact h)
      have HC' := kept (show ∀ w', Below W7.heap.size W7 w' → C w' from fun w' h => by rw [hCd]; exact h)
      clear hCd
      have QE := kept (show ∀ w', C w' → w'.rangeAt g3 0 (bA 16 E).toList from fun w' h => (H3.out.below (HC.out _ h) H3.out.lt).range)
      have QK := kept (show ∀ w', C w' → w'.rangeAt w.heap.size 0 (bA 16 key).toList from fun w' h => (H0.out.below (HC.out _ h) H0.out.lt).range)
      have QB := kept (show ∀ w', C w' → w'.rangeAt (w.heap.size + 1) 0 (bA 16 b).toList from fun w' h => (H1.out.below (HC.out _ h) H1.out.lt).range)
      refine wp_region_class C (by kernel_rfl) (by kernel_rfl) (HC'.out _ (Below.refl _ W7).drew) ?_
      refine quiet_load (by rfl) 22 (.tmp 10) rfl g3 0 (by rfl) (bA 16 E).toList _ QE.out Try.underlying22 rfl (s16_len _) ?_
      refine quiet_load (by rfl) 22 (.tmp 4) rfl w.heap.size 0 (by rfl) (bA 16 key).toList _ QK.out Try.underlying22 rfl (s16_len _) ?_
      refine quiet_load (by rfl) 22 (.tmp 5) rfl (w.heap.size + 1) 0 (by rfl) (bA 16 b).toList _ QB.out Try.underlying22 rfl (s16_len _) ?_
      quiet_step (exact fun hw' => (HENC.out _).mono fun e w'' he => ⟨he.1, HC'.out _ ((HC.out _ hw').trans (he.2.mono (HC.out _ hw').size))⟩)
      quiet_step (exact fun _ => rfl)
      quiet_step (exact fun _ => rfl)
      refine wpQuiet_nil ?_
      intro W9 hC9
      have b9 := kept (HW.out.trans ((HC.out _ hC9).mono HW.out.size))
      go_wp2_with fail
      go_ret
      exact ⟨rfl, b9.out⟩

set_option maxRecDepth 100000 in
theorem lifted (os : Os) (started : os.Started) (H : Type) (enc : TypeId × Value → H) :
    ReturnsInHanded {} Try.checked os 6 .any (Rows.aesRoundsSpec.pre6 enc Try.prog Try.f6 Rows.aesRoundsRow.domain false) (Rows.aesRoundsSpec.post enc Try.prog Try.f6 false true false false) := by
  refine returnsInHanded_of_change (C := Try.checked) own_knob started (by kernel_rfl) Try.func6
    (ChangeSpec.witness6 (enc := enc) (C := Try.checked) false ⟨#[], #[.agg #[.int .u8 0, .int .u8 0, .int .u8 0, .int .u8 0, .int .u8 0, .int .u8 0, .int .u8 0, .int .u8 0, .int .u8 0, .int .u8 0, .int .u8 0, .int .u8 0, .int .u8 0, .int .u8 0, .int .u8 0, .int .u8 0], .agg #[.int .u8 0, .int .u8 0, .int .u8 0, .int .u8 0, .int .u8 0, .int .u8 0, .int .u8 0, .int .u8 0, .int .u8 0, .int .u8 0, .int .u8 0, .int .u8 0, .int .u8 0, .int .u8 0, .int .u8 0, .int .u8 0], .bool false, .int .u8 0], []⟩ 8 (by kernel_rfl) (by kernel_rfl) (by kernel_rfl) (by kernel_rfl)) ?_
  intro W base args ds gs before hval0 hW hcnd _
  have hval : ∀ (j : Nat) t v, Try.f6.params[j]? = some t → args[j]? = some v → Value.okWide Try.prog W .any base t v := hval0
  have hW' := hW
  obtain ⟨p, q, hA0, hV, rfl, hfz, hnd⟩ := hW
  have hA : DataW.TrodAll enc Try.prog W 0 (fun _ => true) true Try.f6.params.toList args.toList ds p := hA0
  rw [Try.params6] at hA hval
  obtain ⟨v0, v1, v2, v3, d0, d1, d2, d3, p0, p1, p2, p3, rfl, rfl, rfl, h0, h1, h2, h3⟩ := trodAll_four hA
  obtain ⟨rfl, rfl⟩ := trodVars_none hV
  have hvl0 := hval 0 22 v0 rfl rfl
  have hvl1 := hval 1 22 v1 rfl rfl
  have hvl2 := hval 2 4 v2 rfl rfl
  have hvl3 := hval 3 5 v3 rfl rfl
  obtain ⟨f0, hv0, hw0⟩ := open_arrInt _ _ 16 Try.underlying22 .u8 Try.underlying5 (by kernel_rfl) (by kernel_rfl) hvl0 h0
  obtain ⟨a, hb0⟩ := bytes_of_arr 16 f0 hw0
  rw [hb0] at hv0
  subst hv0
  obtain ⟨f1, hv1, hw1⟩ := open_arrInt _ _ 16 Try.underlying22 .u8 Try.underlying5 (by kernel_rfl) (by kernel_rfl) hvl1 h1
  obtain ⟨b, hb1⟩ := bytes_of_arr 16 f1 hw1
  rw [hb1] at hv1
  subst hv1
  obtain ⟨last, rfl, rfl, rfl⟩ := open_bool Try.underlying4 hvl2 h2
  obtain ⟨z3, rfl, rfl, rfl, w3⟩ := open_int Try.underlying5 hvl3 h3
  obtain ⟨n, rfl⟩ := byte_of_lit w3
  clear hA0 hval0
  refine (walk W a b last n).mono fun e W' ⟨he, bel⟩ => ?_
  subst he
  exact ⟨_, rfl, _, _, _, [], _, [], hW', trodAll_mk1 (shut_bool Try.underlying4 _), trodAll_mk4 (keep_arg (by kernel_rfl) (of_decide_eq_true (by kernel_rfl)) h0 bel) (keep_arg (by kernel_rfl) (of_decide_eq_true (by kernel_rfl)) h1 bel) (shut_bool Try.underlying4 _) (shut_int Try.underlying5 w3), rfl, bel.frame _, fun h => by cases h⟩

theorem over : Rows.aesRoundsRow.holds Try.pinned (OpenSpec.ofChange Rows.aesRoundsSpec) :=
  OpenClaim.holds_of_wide 6 Try.f6 rfl rfl rfl rfl rfl rfl rfl ⟨rfl, rfl, rfl, rfl, rfl⟩ rfl rfl rfl rfl rfl (by kernel_rfl) Try.func6 (by kernel_rfl)
    (of_decide_eq_true (by kernel_rfl)) (by unfold Func.isWrapper; first | (rw [if_pos (by decide +kernel)]; kernel_rfl) | (rw [if_neg (by decide +kernel)]; exact ⟨rfl, rfl⟩))
    (fun os started H enc _ => lifted os started H enc)

/-- The statement. -/
theorem proved : Rows.AesRoundsSaid := over
#print axioms proved
end Go.Proofs.Ytapdcgfkmkkjaaa.aesRoundL
