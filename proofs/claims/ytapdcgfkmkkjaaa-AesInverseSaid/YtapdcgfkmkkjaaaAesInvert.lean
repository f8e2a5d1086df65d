/-
  Encryption and decryption invert each other: the law AesInverse returns true for every input. No condition.
-/
import Derived.Test.YtapdcgfkmkkjaaaAesLaw
namespace Go.Proofs.Ytapdcgfkmkkjaaa.aesInvert
open Go.ChangeShapes Go.WideShapes Go.ChangeAt Go.RowKit
set_option linter.unusedVariables false
set_option linter.unusedSimpArgs false

set_option maxHeartbeats 4000000 in
set_option maxRecDepth 100000 in
theorem walk (w : World) (key b : Nat → UInt8) :
    Calls Try.prog 4 #[.agg (bA 16 key), .agg (bA 16 b)] w fun e w' => e = .returned (.bool true) ∧ Below w.heap.size w w' := by
  go_enter Try.func4, Try.ntmps4
  go_upto_region 1 with (fail)
  go_name_world W0 hW0
  have n0 := Blk.new (w) 22 (bA 16 key)
  have n1 := Blk.new (w.alloc (.cells (bA 16 key) 22)) 22 (bA 16 b)
  simp only [World.size_alloc] at n1
  have H0 := kept (show Blk W0 w.heap.size 22 (bA 16 key) by rw [← hW0]; exact n0.alloc _)
  have H1 := kept (show Blk W0 (w.heap.size + 1) 22 (bA 16 b) by rw [← hW0]; exact n1)
  have HW := kept (show Below w.heap.size w W0 by rw [← hW0]; exact ((Below.refl _ w).alloc (Nat.le_refl _) _).alloc (by simp) _)
  clear hW0 n0 n1
  go_wp2_with fail
  refine (aawake_any W0).mono ?_
  rintro e W1 ⟨rfl, k⟩
  replace H0 := kept (H0.out.below k H0.out.lt)
  replace H1 := kept (H1.out.below k H1.out.lt)
  replace HW := kept (below_next HW.out k)
  clear k
  go_wp2_with fail
  have hE := fun w' => aenc_any w' key b
  have hD := fun w' => adec_any w' key (aEnc key b)
  rw [(aDec_aEnc key b).arr] at hD
  have hD2 := fun w' => adec_any w' key b
  have hE2 := fun w' => aenc_any w' key (aDec key b)
  rw [(aEnc_aDec key b).arr] at hE2
  have e1 := fun w' => run_eql16 b b w'
  rw [eq16_yes (fun _ _ => rfl)] at e1
  have HE := kept hE
  have HD := kept hD
  have HD2 := kept hD2
  have HE2 := kept hE2
  clear hE hD hD2 hE2
  generalize aEnc key b = E at HE HD
  generalize aDec key b = D at HD2 HE2
  obtain ⟨C, hCd⟩ : ∃ C : World → Prop, C = fun w' => Below W1.heap.size W1 w' := ⟨_, rfl⟩
  have HC := kept (show ∀ w', C w' → Below W1.heap.size W1 w' from fun w' h => by rw [hCd] at h; exact h)
  have HC' := kept (show ∀ w', Below W1.heap.size W1 w' → C w' from fun w' h => by rw [hCd]; exact h)
  clear hCd
  have QK := kept (show ∀ w', C w' → w'.rangeAt w.heap.size 0 (bA 16 key).toList from fun w' h => (H0.out.below (HC.out _ h) H0.out.lt).range)
  have QB := kept (show ∀ w', C w' → w'.rangeAt (w.heap.size + 1) 0 (bA 16 b).toList from fun w' h => (H1.out.below (HC.out _ h) H1.out.lt).range)
  refine wp_region_class C (by kernel_rfl) (by kernel_rfl) (HC'.out _ (Below.refl _ W1).drew) ?_
  refine quiet_load (by rfl) 22 (.tmp 2) rfl w.heap.size 0 (by rfl) (bA 16 key).toList _ QK.out Try.underlying22 rfl (s16_len _) ?_
  refine quiet_load (by rfl) 22 (.tmp 2) rfl w.heap.size 0 (by rfl) (bA 16 key).toList _ QK.out Try.underlying22 rfl (s16_len _) ?_
  refine quiet_load (by rfl) 22 (.tmp 3) rfl (w.heap.size + 1) 0 (by rfl) (bA 16 b).toList _ QB.out Try.underlying22 rfl (s16_len _) ?_
  quiet_step (exact fun hw' => (HE.out _).mono fun e w'' he => ⟨he.1, HC'.out _ ((HC.out _ hw').trans (he.2.mono (HC.out _ hw').size))⟩)
  quiet_step (exact fun hw' => (HD.out _).mono fun e w'' he => ⟨he.1, HC'.out _ ((HC.out _ hw').trans (he.2.mono (HC.out _ hw').size))⟩)
  refine quiet_load (by rfl) 22 (.tmp 3) rfl (w.heap.size + 1) 0 (by rfl) (bA 16 b).toList _ QB.out Try.underlying22 rfl (s16_len _) ?_
  quiet_step (exact fun _ => rfl)
  quiet_step (exact fun _ => rfl)
  refine quiet_load (by rfl) 22 (.tmp 2) rfl w.heap.size 0 (by rfl) (bA 16 key).toList _ QK.out Try.underlying22 rfl (s16_len _) ?_
  refine quiet_load (by rfl) 22 (.tmp 2) rfl w.heap.size 0 (by rfl) (bA 16 key).toList _ QK.out Try.underlying22 rfl (s16_len _) ?_
  refine quiet_load (by rfl) 22 (.tmp 3) rfl (w.heap.size + 1) 0 (by rfl) (bA 16 b).toList _ QB.out Try.underlying22 rfl (s16_len _) ?_
  quiet_step (exact fun hw' => (HD2.out _).mono fun e w'' he => ⟨he.1, HC'.out _ ((HC.out _ hw').trans (he.2.mono (HC.out _ hw').size))⟩)
  quiet_step (exact fun hw' => (HE2.out _).mono fun e w'' he => ⟨he.1, HC'.out _ ((HC.out _ hw').trans (he.2.mono (HC.out _ hw').size))⟩)
  refine quiet_load (by rfl) 22 (.tmp 3) rfl (w.heap.size + 1) 0 (by rfl) (bA 16 b).toList _ QB.out Try.underlying22 rfl (s16_len _) ?_
  quiet_step (exact fun _ => rfl)
  quiet_step (exact fun _ => rfl)
  quiet_step (exact fun _ => rfl)
  refine wpQuiet_nil ?_
  intro W9 hC9
  have b9 := kept (HW.out.trans ((HC.out _ hC9).mono HW.out.size))
  go_wp2_with fail
  go_ret
  exact ⟨rfl, b9.out⟩

set_option maxRecDepth 100000 in
theorem lifted (os : Os) (started : os.Started) (H : Type) (enc : TypeId × Value → H) :
    ReturnsInHanded {} Try.checked os 4 .any (Rows.aesInverseSpec.pre6 enc Try.prog Try.f4 Rows.aesInverseRow.domain false) (Rows.aesInverseSpec.post enc Try.prog Try.f4 false true false false) := by
  refine returnsInHanded_of_change (C := Try.checked) own_knob started (by kernel_rfl) Try.func4
    (ChangeSpec.witness6 (enc := enc) (C := Try.checked) false ⟨#[], #[.agg #[.int .u8 0, .int .u8 0, .int .u8 0, .int .u8 0, .int .u8 0, .int .u8 0, .int .u8 0, .int .u8 0, .int .u8 0, .int .u8 0, .int .u8 0, .int .u8 0, .int .u8 0, .int .u8 0, .int .u8 0, .int .u8 0], .agg #[.int .u8 0, .int .u8 0, .int .u8 0, .int .u8 0, .int .u8 0, .int .u8 0, .int .u8 0, .int .u8 0, .int .u8 0, .int .u8 0, .int .u8 0, .int .u8 0, .int .u8 0, .int .u8 0, .int .u8 0, .int .u8 0]], []⟩ 8 (by kernel_rfl) (by kernel_rfl) (by kernel_rfl) (by kernel_rfl)) ?_
  intro W base args ds gs before hval0 hW hcnd _
  have hval : ∀ (j : Nat) t v, Try.f4.params[j]? = some t → args[j]? = some v → Value.okWide Try.prog W .any base t v := hval0
  have hW' := hW
  obtain ⟨p, q, hA0, hV, rfl, hfz, hnd⟩ := hW
  have hA : DataW.TrodAll enc Try.prog W 0 (fun _ => true) true Try.f4.params.toList args.toList ds p := hA0
  rw [Try.params4] at hA hval
  obtain ⟨v0, v1, d0, d1, p0, p1, rfl, rfl, rfl, h0, h1⟩ := trodAll_two hA
  obtain ⟨rfl, rfl⟩ := trodVars_none hV
  have hvl0 := hval 0 22 v0 rfl rfl
  have hvl1 := hval 1 22 v1 rfl rfl
  obtain ⟨f0, hv0, hw0⟩ := open_arrInt _ _ 16 Try.underlying22 .u8 Try.underlying5 (by kernel_rfl) (by kernel_rfl) hvl0 h0
  obtain ⟨a, hb0⟩ := bytes_of_arr 16 f0 hw0
  rw [hb0] at hv0
  subst hv0
  obtain ⟨f1, hv1, hw1⟩ := open_arrInt _ _ 16 Try.underlying22 .u8 Try.underlying5 (by kernel_rfl) (by kernel_rfl) hvl1 h1
  obtain ⟨b, hb1⟩ := bytes_of_arr 16 f1 hw1
  rw [hb1] at hv1
  subst hv1
  clear hA0 hval0
  refine (walk W a b).mono fun e W' ⟨he, bel⟩ => ?_
  subst he
  exact ⟨_, rfl, _, _, _, [], _, [], hW', trodAll_mk1 (shut_bool Try.underlying4 _), trodAll_mk2 (keep_arg (by kernel_rfl) (of_decide_eq_true (by kernel_rfl)) h0 bel) (keep_arg (by kernel_rfl) (of_decide_eq_true (by kernel_rfl)) h1 bel), rfl, bel.frame _, fun h => by cases h⟩

theorem over : Rows.aesInverseRow.holds Try.pinned (OpenSpec.ofChange Rows.aesInverseSpec) :=
  OpenClaim.holds_of_wide 4 Try.f4 rfl rfl rfl rfl rfl rfl rfl ⟨rfl, rfl, rfl, rfl, rfl⟩ rfl rfl rfl rfl rfl (by kernel_rfl) Try.func4 (by kernel_rfl)
    (of_decide_eq_true (by kernel_rfl)) (by unfold Func.isWrapper; first | (rw [if_pos (by decide +kernel)]; kernel_rfl) | (rw [if_neg (by decide +kernel)]; exact ⟨rfl, rfl⟩))
    (fun os started H enc _ => lifted os started H enc)

/-- The statement. -/
theorem proved : Rows.AesInverseSaid := over
#print axioms proved
end Go.Proofs.Ytapdcgfkmkkjaaa.aesInvert
