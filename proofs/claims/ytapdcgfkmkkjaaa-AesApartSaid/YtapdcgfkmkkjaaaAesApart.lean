/-
  Different blocks have different encryptions under the same key, and one changed bit is enough: the law AesApart returns true for every input. No condition.
-/
import Derived.Test.YtapdcgfkmkkjaaaAesLaw
namespace Go.Proofs.Ytapdcgfkmkkjaaa.aesApart
open Go.ChangeShapes Go.WideShapes Go.ChangeAt Go.RowKit
set_option linter.unusedVariables false
set_option linter.unusedSimpArgs false

/-- A block with one bit changed. -/
def flip (b : Nat → UInt8) (r : Nat) (M : UInt8) : Nat → UInt8 := fun j => if j = r then gxr (b r) M else b j
theorem flip_ne (b : Nat → UInt8) (r : Nat) (M : UInt8) (hr : r < 16) (hM : M ≠ 0) : ¬ Eq16 b (flip b r M) := fun h => by
  have h1 := h r hr
  unfold flip at h1
  rw [if_pos rfl] at h1
  apply hM
  have h2 : gxr (b r) 0 = gxr (b r) M := by
    rw [← h1]
    exact UInt8.xor_zero
  exact (gxr_inj_l h2).symm
theorem bit_byte (s : Nat) (hs : s < 8) : ∃ M : UInt8, M ≠ 0 ∧ (2 : Int) ^ s % 256 = (M.toNat : Int) := by
  have h : ∀ s : Nat, s < 8 → UInt8.ofNat (2 ^ s) ≠ 0 ∧ (2 : Int) ^ s % 256 = ((UInt8.ofNat (2 ^ s)).toNat : Int) := by decide
  exact ⟨_, h s hs⟩
set_option maxHeartbeats 4000000 in
set_option maxRecDepth 100000 in
theorem walk (w : World) (key b : Nat → UInt8) (n : UInt8) :
    Calls Try.prog 7 #[.agg (bA 16 key), .agg (bA 16 b), .int .u8 (n.toNat : Int)] w fun e w' => e = .returned (.bool true) ∧ Below w.heap.size w w' := by
  have hn := byte_lt n
  have hn' : (n.toNat : Int) < 256 := by omega
  have hw : IntKind.i64.wrap (n.toNat : Int) = (n.toNat : Int) := IntWalk.i64_in _ (by omega)
  have hd : (n.toNat : Int).tmod 128 = ((n.toNat % 128 : Nat) : Int) := by
    rw [Int.tmod_eq_emod_of_nonneg (by omega)]
    omega
  have hd0 : n.toNat % 128 < 128 := by omega
  generalize n.toNat % 128 = d at hd hd0
  generalize n.toNat = n0 at hd hn hn' hw
  go_enter Try.func7, Try.ntmps7
  go_upto_region 1 with (fail)
  go_name_world W0 hW0
  have n0 := Blk.new (w) 22 (bA 16 key)
  have n1 := Blk.new (w.alloc (.cells (bA 16 key) 22)) 22 (bA 16 b)
  simp only [World.size_alloc] at n1
  have H0 := kept (show Blk W0 w.heap.size 22 (bA 16 key) by rw [← hW0]; exact n0.alloc _)
  have H1 := kept (show Blk W0 (w.heap.size + 1) 22 (bA 16 b) by rw [← hW0]; exact n1)
  have HW := kept (show Below w.heap.size w W0 by rw [← hW0]; exact ((Below.refl _ w).alloc (Nat.le_refl _) _).alloc (by simp) _)
  clear hW0 n0 n1
  go_wp2_with fail
  refine (aawake_any W0).mono ?_
  rintro e W1 ⟨rfl, k⟩
  replace H0 := kept (H0.out.below k H0.out.lt)
  replace H1 := kept (H1.out.below k H1.out.lt)
  replace HW := kept (below_next HW.out k)
  clear k
  have hlt : w.heap.size + 1 < W1.heap.size := H1.out.lt
  go_upto_region 4 with (first | (refine wpList_load_row rfl 22 (.tmp 4) rfl (w.heap.size + 1) rfl 22 (bA 16 b) (0, 0) _ H1.out Try.underlying22 rfl (by rw [b16_size, bA_size]) ?_) | (refine wpList_store_row rfl 22 (.tmp 7) (.tmp 11) rfl W1.heap.size (bA 16 b) rfl rfl 22 (bA 16 fun _ => 0) (Blk.new W1 _ _) (by rw [b16_size, bA_size]) (by rw [bA_size, bA_size]) (bA_one _ _) ?_))
  go_name_world W3 hW3
  replace H0 := kept (show Blk W3 w.heap.size 22 (bA 16 key) by rw [← hW3]; exact (H0.out.alloc _).row_far (by omega))
  replace H1 := kept (show Blk W3 (w.heap.size + 1) 22 (bA 16 b) by rw [← hW3]; exact (H1.out.alloc _).row_far (by omega))
  have H2 := kept (show Blk W3 W1.heap.size 22 (bA 16 b) by rw [← hW3]; exact setRow_heap _ _ _ _ _ _ (Blk.new W1 _ _))
  replace HW := kept (show Below w.heap.size w W3 by rw [← hW3]; exact below_setRow (HW.out.alloc HW.out.size _) HW.out.size _)
  clear hW3
  generalize W1.heap.size = g2 at hlt H2
  obtain ⟨M, hM0, hM⟩ := bit_byte (d % 8) (by omega)
  go_upto_region 5 with (fail)
  have hq8 : (d : Int).tdiv 8 = ((d / 8 : Nat) : Int) := by
    rw [Int.tdiv_eq_ediv_of_nonneg (by omega)]
    omega
  have hr8 : (d : Int).tmod 8 = ((d % 8 : Nat) : Int) := by
    rw [Int.tmod_eq_emod_of_nonneg (by omega)]
    omega
  have hl8 : d / 8 < 16 := by omega
  have hl8' : ((d / 8 : Nat) : Int) < 16 := by omega
  have hm8 : ((d % 8 : Nat) : Int) < 8 := by omega
  have c1 : W3.cell? ⟨g2, d / 8, none⟩ = some (.int .u8 ((b (d / 8)).toNat : Int)) := by rw [H2.out.cell]; exact bA_at _ _ hl8
  have f1 := H2.out.frozen (d / 8)
  have hx := gx8 (b (d / 8)) M
  have HF := kept (show ∀ j, flip b (d / 8) M j = if j = d / 8 then gxr (b (d / 8)) M else b j from fun j => rfl)
  generalize hz : gxr (b (d / 8)) M = Z at hx HF
  generalize b (d / 8) = x at c1 hx
  go_upto_region 6 with (fail)
  have hfl := H2.out.putB (d / 8) Z (fun j _ => HF.out j)
  generalize hW4 : W3.setCell ⟨g2, d / 8, none⟩ (.int .u8 (Z.toNat : Int)) = W4 at hfl
  replace H0 := kept (show Blk W4 w.heap.size 22 (bA 16 key) by rw [← hW4]; exact H0.out.far (by show w.heap.size ≠ g2; omega) _)
  replace H1 := kept (show Blk W4 (w.heap.size + 1) 22 (bA 16 b) by rw [← hW4]; exact H1.out.far (by show w.heap.size + 1 ≠ g2; omega) _)
  replace HW := kept (show Below w.heap.size w W4 by rw [← hW4]; exact HW.out.setCell (p := ⟨g2, d / 8, none⟩) (by show w.heap.size ≤ g2; omega) _)
  replace H2 := kept hfl
  have hne : ¬ Eq16 (aEnc key b) (aEnc key (flip b (d / 8) M)) := fun h => flip_ne b (d / 8) M hl8 hM0 (aEnc_inj key h)
  have hX2 := fun w' => axor_any w' (aXor b (flip b (d / 8) M)) (flip b (d / 8) M)
  rw [(aXor_back b (flip b (d / 8) M)).arr] at hX2
  have HX := kept (fun w' => axor_any w' b (flip b (d / 8) M))
  have HX2 := kept hX2
  have HE := kept (fun w' => aenc_any w' key b)
  have HE2 := kept (fun w' => aenc_any w' key (flip b (d / 8) M))
  clear hfl hW4 hX2 hx hz HF c1 f1 hq8 hr8 hl8 hl8' hm8 hM hM0 hd hd0 hn hn' hw
  generalize flip b (d / 8) M = F at *
  generalize aXor b F = X at *
  generalize aEnc key b = E at *
  generalize aEnc key F = E2 at *
  have q1 := fun w' => run_equalIn16 E E2 w'
  rw [eq16_no hne] at q1
  have e1 := fun w' => run_eql16 b b w'
  rw [eq16_yes (fun _ _ => rfl)] at e1
  clear hne
  obtain ⟨C, hCd⟩ : ∃ C : World → Prop, C = fun w' => Below W4.heap.size W4 w' := ⟨_, rfl⟩
  have HC := kept (show ∀ w', C w' → Below W4.heap.size W4 w' from fun w' h => by rw [hCd] at h; exact h)
  have HC' := kept (show ∀ w', Below W4.heap.size W4 w' → C w' from fun w' h => by rw [hCd]; exact h)
  clear hCd
  have QK := kept (show ∀ w', C w' → w'.rangeAt w.heap.size 0 (bA 16 key).toList from fun w' h => (H0.out.below (HC.out _ h) H0.out.lt).range)
  have QB := kept (show ∀ w', C w' → w'.rangeAt (w.heap.size + 1) 0 (bA 16 b).toList from fun w' h => (H1.out.below (HC.out _ h) H1.out.lt).range)
  have QF := kept (show ∀ w', C w' → w'.rangeAt g2 0 (bA 16 F).toList from fun w' h => (H2.out.below (HC.out _ h) H2.out.lt).range)
  refine wp_region_class C (by kernel_rfl) (by kernel_rfl) (HC'.out _ (Below.refl _ W4).drew) ?_
  refine quiet_load (by rfl) 22 (.tmp 3) rfl w.heap.size 0 (by rfl) (bA 16 key).toList _ QK.out Try.underlying22 rfl (s16_len _) ?_
  refine quiet_load (by rfl) 22 (.tmp 4) rfl (w.heap.size + 1) 0 (by rfl) (bA 16 b).toList _ QB.out Try.underlying22 rfl (s16_len _) ?_
  quiet_step (exact fun hw' => (HE.out _).mono fun e w'' he => ⟨he.1, HC'.out _ ((HC.out _ hw').trans (he.2.mono (HC.out _ hw').size))⟩)
  refine quiet_load (by rfl) 22 (.tmp 3) rfl w.heap.size 0 (by rfl) (bA 16 key).toList _ QK.out Try.underlying22 rfl (s16_len _) ?_
  refine quiet_load (by rfl) 22 (.tmp 7) rfl g2 0 (by rfl) (bA 16 F).toList _ QF.out Try.underlying22 rfl (s16_len _) ?_
  quiet_step (exact fun hw' => (HE2.out _).mono fun e w'' he => ⟨he.1, HC'.out _ ((HC.out _ hw').trans (he.2.mono (HC.out _ hw').size))⟩)
  quiet_step (exact fun _ => rfl)
  quiet_step (exact fun _ => rfl)
  refine quiet_load (by rfl) 22 (.tmp 4) rfl (w.heap.size + 1) 0 (by rfl) (bA 16 b).toList _ QB.out Try.underlying22 rfl (s16_len _) ?_
  refine quiet_load (by rfl) 22 (.tmp 7) rfl g2 0 (by rfl) (bA 16 F).toList _ QF.out Try.underlying22 rfl (s16_len _) ?_
  quiet_step (exact fun hw' => (HX.out _).mono fun e w'' he => ⟨he.1, HC'.out _ ((HC.out _ hw').trans (he.2.mono (HC.out _ hw').size))⟩)
  refine quiet_load (by rfl) 22 (.tmp 7) rfl g2 0 (by rfl) (bA 16 F).toList _ QF.out Try.underlying22 rfl (s16_len _) ?_
  quiet_step (exact fun hw' => (HX2.out _).mono fun e w'' he => ⟨he.1, HC'.out _ ((HC.out _ hw').trans (he.2.mono (HC.out _ hw').size))⟩)
  refine quiet_load (by rfl) 22 (.tmp 4) rfl (w.heap.size + 1) 0 (by rfl) (bA 16 b).toList _ QB.out Try.underlying22 rfl (s16_len _) ?_
  quiet_step (exact fun _ => rfl)
  quiet_step (exact fun _ => rfl)
  quiet_step (exact fun _ => rfl)
  refine wpQuiet_nil ?_
  intro W9 hC9
  have b9 := kept (HW.out.trans ((HC.out _ hC9).mono HW.out.size))
  go_wp2_with fail
  go_ret
  exact ⟨rfl, b9.out⟩

set_option maxRecDepth 100000 in
theorem lifted (os : Os) (started : os.Started) (H : Type) (enc : TypeId × Value → H) :
    ReturnsInHanded {} Try.checked os 7 .any (Rows.aesApartSpec.pre6 enc Try.prog Try.f7 Rows.aesApartRow.domain false) (Rows.aesApartSpec.post enc Try.prog Try.f7 false true false false) := by
  refine returnsInHanded_of_change (C := Try.checked) own_knob started (by kernel_rfl) Try.func7
    (ChangeSpec.witness6 (enc := enc) (C := Try.checked) false ⟨#[], #[.agg #[.int .u8 0, .int .u8 0, .int .u8 0, .int .u8 0, .int .u8 0, .int .u8 0, .int .u8 0, .int .u8 0, .int .u8 0, .int .u8 0, .int .u8 0, .int .u8 0, .int .u8 0, .int .u8 0, .int .u8 0, .int .u8 0], .agg #[.int .u8 0, .int .u8 0, .int .u8 0, .int .u8 0, .int .u8 0, .int .u8 0, .int .u8 0, .int .u8 0, .int .u8 0, .int .u8 0, .int .u8 0, .int .u8 0, .int .u8 0, .int .u8 0, .int .u8 0, .int .u8 0], .int .u8 0], []⟩ 8 (by kernel_rfl) (by kernel_rfl) (by kernel_rfl) (by kernel_rfl)) ?_
  intro W base args ds gs before hval0 hW hcnd _
  have hval : ∀ (j : Nat) t v, Try.f7.params[j]? = some t → args[j]? = some v → Value.okWide Try.prog W .any base t v := hval0
  have hW' := hW
  obtain ⟨p, q, hA0, hV, rfl, hfz, hnd⟩ := hW
  have hA : DataW.TrodAll enc Try.prog W 0 (fun _ => true) true Try.f7.params.toList args.toList ds p := hA0
  rw [Try.params7] at hA hval
  obtain ⟨v0, v1, v2, d0, d1, d2, p0, p1, p2, rfl, rfl, rfl, h0, h1, h2⟩ := trodAll_three hA
  obtain ⟨rfl, rfl⟩ := trodVars_none hV
  have hvl0 := hval 0 22 v0 rfl rfl
  have hvl1 := hval 1 22 v1 rfl rfl
  have hvl2 := hval 2 5 v2 rfl rfl
  obtain ⟨f0, hv0, hw0⟩ := open_arrInt _ _ 16 Try.underlying22 .u8 Try.underlying5 (by kernel_rfl) (by kernel_rfl) hvl0 h0
  obtain ⟨a, hb0⟩ := bytes_of_arr 16 f0 hw0
  rw [hb0] at hv0
  subst hv0
  obtain ⟨f1, hv1, hw1⟩ := open_arrInt _ _ 16 Try.underlying22 .u8 Try.underlying5 (by kernel_rfl) (by kernel_rfl) hvl1 h1
  obtain ⟨b, hb1⟩ := bytes_of_arr 16 f1 hw1
  rw [hb1] at hv1
  subst hv1
  obtain ⟨z2, rfl, rfl, rfl, w2⟩ := open_int Try.underlying5 hvl2 h2
  obtain ⟨n, rfl⟩ := byte_of_lit w2
  clear hA0 hval0
  refine (walk W a b n).mono fun e W' ⟨he, bel⟩ => ?_
  subst he
  exact ⟨_, rfl, _, _, _, [], _, [], hW', trodAll_mk1 (shut_bool Try.underlying4 _), trodAll_mk3 (keep_arg (by kernel_rfl) (of_decide_eq_true (by kernel_rfl)) h0 bel) (keep_arg (by kernel_rfl) (of_decide_eq_true (by kernel_rfl)) h1 bel) (shut_int Try.underlying5 w2), rfl, bel.frame _, fun h => by cases h⟩

theorem over : Rows.aesApartRow.holds Try.pinned (OpenSpec.ofChange Rows.aesApartSpec) :=
  OpenClaim.holds_of_wide 7 Try.f7 rfl rfl rfl rfl rfl rfl rfl ⟨rfl, rfl, rfl, rfl, rfl⟩ rfl rfl rfl rfl rfl (by kernel_rfl) Try.func7 (by kernel_rfl)
    (of_decide_eq_true (by kernel_rfl)) (by unfold Func.isWrapper; first | (rw [if_pos (by decide +kernel)]; kernel_rfl) | (rw [if_neg (by decide +kernel)]; exact ⟨rfl, rfl⟩))
    (fun os started H enc _ => lifted os started H enc)

/-- The statement. -/
theorem proved : Rows.AesApartSaid := over
#print axioms proved
end Go.Proofs.Ytapdcgfkmkkjaaa.aesApart
