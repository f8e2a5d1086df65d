/-
  The round keys of a key are those of the reference, and two keys with the same last round key are the same: the law AesKeys returns true for every input. No condition.
-/
import Derived.Test.YtapdcgfkmkkjaaaAesLaw
namespace Go.Proofs.Ytapdcgfkmkkjaaa.aesKeyL
open Go.ChangeShapes Go.WideShapes Go.ChangeAt Go.RowKit
set_option linter.unusedVariables false
set_option linter.unusedSimpArgs false

set_option maxHeartbeats 4000000 in
set_option maxRecDepth 100000 in
theorem walk (w : World) (key b : Nat → UInt8) :
    Calls Try.prog 5 #[.agg (bA 16 key), .agg (bA 16 b)] w fun e w' => e = .returned (.bool true) ∧ Below w.heap.size w w' := by
  go_enter Try.func5, Try.ntmps5
  have hz1 := zero11
  go_upto_region 1 with (fail)
  go_name_world W0 hW0
  have n0 := Blk.new (w) 22 (bA 16 key)
  have n1 := Blk.new (w.alloc (.cells (bA 16 key) 22)) 22 (bA 16 b)
  simp only [World.size_alloc] at n1
  have H0 := kept (show Blk W0 w.heap.size 22 (bA 16 key) by rw [← hW0]; exact n0.alloc _)
  have H1 := kept (show Blk W0 (w.heap.size + 1) 22 (bA 16 b) by rw [← hW0]; exact n1)
  have HW := kept (show Below w.heap.size w W0 by rw [← hW0]; exact ((Below.refl _ w).alloc (Nat.le_refl _) _).alloc (by simp) _)
  clear hW0 n0 n1
  go_wp2_with fail
  refine (aawake_any W0).mono ?_
  rintro e W1 ⟨rfl, k⟩
  replace H0 := kept (H0.out.below k H0.out.lt)
  replace H1 := kept (H1.out.below k H1.out.lt)
  replace HW := kept (below_next HW.out k)
  clear k
  have hlt : w.heap.size + 1 < W1.heap.size := H1.out.lt
  go_wp2_with (refine wpList_load_row rfl 22 (.tmp 2) rfl w.heap.size rfl 22 (bA 16 key) (0, 0) _ H0.out Try.underlying22 rfl (by rw [b16_size, bA_size]) ?_)
  refine (akeys_any W1 key).mono ?_
  rintro e W2 ⟨rfl, k⟩
  replace H0 := kept (H0.out.below k H0.out.lt)
  replace H1 := kept (H1.out.below k H1.out.lt)
  replace HW := kept (below_next HW.out k)
  have hlt2 : w.heap.size + 1 < W2.heap.size := H1.out.lt
  clear k hlt
  go_upto_region 4 with (refine wpList_store_row rfl 32 (.tmp 5) (.tmp 10) rfl W2.heap.size (bA 176 (aKey key)) rfl rfl 32 (bA 176 fun _ => 0) (Blk.new W2 _ _) (by rw [b176_size, bA_size]) (by rw [bA_size, bA_size]) (bA_one _ _) ?_)
  go_name_world W3 hW3
  replace H0 := kept (show Blk W3 w.heap.size 22 (bA 16 key) by rw [← hW3]; exact (H0.out.alloc _).row_far (by omega))
  replace H1 := kept (show Blk W3 (w.heap.size + 1) 22 (bA 16 b) by rw [← hW3]; exact (H1.out.alloc _).row_far (by omega))
  have H2 := kept (show Blk W3 W2.heap.size 32 (bA 176 (aKey key)) by rw [← hW3]; exact setRow_heap _ _ _ _ _ _ (Blk.new W2 _ _))
  replace HW := kept (show Below w.heap.size w W3 by rw [← hW3]; exact below_setRow (HW.out.alloc HW.out.size _) HW.out.size _)
  clear hW3
  generalize W2.heap.size = g2 at hlt2 H2
  have hlt3 : g2 < W3.heap.size := H2.out.lt
  go_wp2_with (refine wpList_load_row rfl 22 (.tmp 3) rfl (w.heap.size + 1) rfl 22 (bA 16 b) (0, 0) _ H1.out Try.underlying22 rfl (by rw [b16_size, bA_size]) ?_)
  refine (akeys_any W3 b).mono ?_
  rintro e W4 ⟨rfl, k⟩
  replace H0 := kept (H0.out.below k H0.out.lt)
  replace H1 := kept (H1.out.below k H1.out.lt)
  replace H2 := kept (H2.out.below k H2.out.lt)
  replace HW := kept (below_next HW.out k)
  have hlt4 : g2 < W4.heap.size := H2.out.lt
  clear k hlt3
  go_upto_region 5 with (refine wpList_store_row rfl 32 (.tmp 6) (.tmp 12) rfl W4.heap.size (bA 176 (aKey b)) rfl rfl 32 (bA 176 fun _ => 0) (Blk.new W4 _ _) (by rw [b176_size, bA_size]) (by rw [bA_size, bA_size]) (bA_one _ _) ?_)
  go_name_world W5 hW5
  replace H0 := kept (show Blk W5 w.heap.size 22 (bA 16 key) by rw [← hW5]; exact (H0.out.alloc _).row_far (by omega))
  replace H1 := kept (show Blk W5 (w.heap.size + 1) 22 (bA 16 b) by rw [← hW5]; exact (H1.out.alloc _).row_far (by omega))
  replace H2 := kept (show Blk W5 g2 32 (bA 176 (aKey key)) by rw [← hW5]; exact (H2.out.alloc _).row_far (by omega))
  have H3 := kept (show Blk W5 W4.heap.size 32 (bA 176 (aKey b)) by rw [← hW5]; exact setRow_heap _ _ _ _ _ _ (Blk.new W4 _ _))
  replace HW := kept (show Below w.heap.size w W5 by rw [← hW5]; exact below_setRow (HW.out.alloc HW.out.size _) HW.out.size _)
  clear hW5 hz1
  generalize W4.heap.size = g3 at hlt4 H3
  have hR := fun w' => rkeys_any w' key sbx
  have hlast : eq16 (kRow (aKey key) 10) (kRow (aKey b) 10) = eq16 key b := by
    by_cases h : Eq16 key b
    · rw [eq16_yes h, eq16_yes (kRow_cong (aKey_cong h) 10 (by omega))]
    · rw [eq16_no h, eq16_no (fun e => h (aKey_last key b e))]
  have e1 := fun w' => run_eql16 (kRow (aKey key) 10) (kRow (aKey b) 10) w'
  rw [hlast] at e1
  have e2 := fun w' => run_eql16 key b w'
  have e3 := fun w' => run_eql176_same (aKey key) w'
  rw [show kW sbx key 44 = aKey key from rfl] at hR
  have HR := kept hR
  clear hR hlast
  generalize eq16 key b = same at e1 e2
  have S176 := kept (s176_len (aKey key))
  obtain ⟨C, hCd⟩ : ∃ C : World → Prop, C = fun w' => Below W5.heap.size W5 w' := ⟨_, rfl⟩
  have HC := kept (show ∀ w', C w' → Below W5.heap.size W5 w' from fun w' h => by rw [hCd] at h; exact h)
  have HC' := kept (show ∀ w', Below W5.heap.size W5 w' → C w' from fun w' h => by rw [hCd]; exact h)
  clear hCd
  have QK := kept (show ∀ w', C w' → w'.rangeAt w.heap.size 0 (bA 16 key).toList from fun w' h => (H0.out.below (HC.out _ h) H0.out.lt).range)
  have QB := kept (show ∀ w', C w' → w'.rangeAt (w.heap.size + 1) 0 (bA 16 b).toList from fun w' h => (H1.out.below (HC.out _ h) H1.out.lt).range)
  have QA := kept (show ∀ w', C w' → w'.rangeAt g2 0 (bA 176 (aKey key)).toList from fun w' h => (H2.out.below (HC.out _ h) H2.out.lt).range)
  have QA10 := kept (show ∀ w', C w' → w'.rangeAt g2 (10 * 16) (bA 16 (kRow (aKey key) 10)).toList from fun w' h => (H2.out.below (HC.out _ h) H2.out.lt).row_range _ (by omega))
  have QB10 := kept (show ∀ w', C w' → w'.rangeAt g3 (10 * 16) (bA 16 (kRow (aKey b) 10)).toList from fun w' h => (H3.out.below (HC.out _ h) H3.out.lt).row_range _ (by omega))
  generalize aKey key = ka at *
  generalize aKey b = kb at *
  refine wp_region_class C (by kernel_rfl) (by kernel_rfl) (HC'.out _ (Below.refl _ W5).drew) ?_
  refine quiet_load (by rfl) 32 (.tmp 5) rfl g2 0 (by rfl) (bA 176 ka).toList _ QA.out Try.underlying32 rfl S176.out ?_
  refine quiet_load (by rfl) 22 (.tmp 2) rfl w.heap.size 0 (by rfl) (bA 16 key).toList _ QK.out Try.underlying22 rfl (s16_len _) ?_
  quiet_step (exact fun hw' => (rbox7_any _).mono fun e w'' he => ⟨he.1, HC'.out _ ((HC.out _ hw').trans (he.2.mono (HC.out _ hw').size))⟩)
  quiet_step (exact fun hw' => (HR.out _).mono fun e w'' he => ⟨he.1, HC'.out _ ((HC.out _ hw').trans (he.2.mono (HC.out _ hw').size))⟩)
  quiet_step (exact fun _ => rfl)
  quiet_step (exact fun _ => rfl)
  quiet_step (exact fun _ => rfl)
  refine quiet_load (by rfl) 22 (.tmp 19) rfl g2 (10 * 16) (by rfl) (bA 16 (kRow ka 10)).toList _ QA10.out Try.underlying22 rfl (s16_len _) ?_
  quiet_step (exact fun _ => rfl)
  refine quiet_load (by rfl) 22 (.tmp 21) rfl g3 (10 * 16) (by rfl) (bA 16 (kRow kb 10)).toList _ QB10.out Try.underlying22 rfl (s16_len _) ?_
  quiet_step (exact fun _ => rfl)
  refine quiet_load (by rfl) 22 (.tmp 2) rfl w.heap.size 0 (by rfl) (bA 16 key).toList _ QK.out Try.underlying22 rfl (s16_len _) ?_
  refine quiet_load (by rfl) 22 (.tmp 3) rfl (w.heap.size + 1) 0 (by rfl) (bA 16 b).toList _ QB.out Try.underlying22 rfl (s16_len _) ?_
  quiet_step (exact fun _ => rfl)
  quiet_step (exact fun _ => rfl)
  quiet_step (exact fun _ => rfl)
  quiet_step (exact fun _ => rfl)
  refine wpQuiet_nil ?_
  intro W9 hC9
  have b9 := kept (HW.out.trans ((HC.out _ hC9).mono HW.out.size))
  go_wp2_with fail
  go_ret
  exact ⟨rfl, b9.out⟩

set_option maxRecDepth 100000 in
theorem lifted (os : Os) (started : os.Started) (H : Type) (enc : TypeId × Value → H) :
    ReturnsInHanded {} Try.checked os 5 .any (Rows.aesKeysSpec.pre6 enc Try.prog Try.f5 Rows.aesKeysRow.domain false) (Rows.aesKeysSpec.post enc Try.prog Try.f5 false true false false) := by
  refine returnsInHanded_of_change (C := Try.checked) own_knob started (by kernel_rfl) Try.func5
    (ChangeSpec.witness6 (enc := enc) (C := Try.checked) false ⟨#[], #[.agg #[.int .u8 0, .int .u8 0, .int .u8 0, .int .u8 0, .int .u8 0, .int .u8 0, .int .u8 0, .int .u8 0, .int .u8 0, .int .u8 0, .int .u8 0, .int .u8 0, .int .u8 0, .int .u8 0, .int .u8 0, .int .u8 0], .agg #[.int .u8 0, .int .u8 0, .int .u8 0, .int .u8 0, .int .u8 0, .int .u8 0, .int .u8 0, .int .u8 0, .int .u8 0, .int .u8 0, .int .u8 0, .int .u8 0, .int .u8 0, .int .u8 0, .int .u8 0, .int .u8 0]], []⟩ 8 (by kernel_rfl) (by kernel_rfl) (by kernel_rfl) (by kernel_rfl)) ?_
  intro W base args ds gs before hval0 hW hcnd _
  have hval : ∀ (j : Nat) t v, Try.f5.params[j]? = some t → args[j]? = some v → Value.okWide Try.prog W .any base t v := hval0
  have hW' := hW
  obtain ⟨p, q, hA0, hV, rfl, hfz, hnd⟩ := hW
  have hA : DataW.TrodAll enc Try.prog W 0 (fun _ => true) true Try.f5.params.toList args.toList ds p := hA0
  rw [Try.params5] at hA hval
  obtain ⟨v0, v1, d0, d1, p0, p1, rfl, rfl, rfl, h0, h1⟩ := trodAll_two hA
  obtain ⟨rfl, rfl⟩ := trodVars_none hV
  have hvl0 := hval 0 22 v0 rfl rfl
  have hvl1 := hval 1 22 v1 rfl rfl
  obtain ⟨f0, hv0, hw0⟩ := open_arrInt _ _ 16 Try.underlying22 .u8 Try.underlying5 (by kernel_rfl) (by kernel_rfl) hvl0 h0
  obtain ⟨a, hb0⟩ := bytes_of_arr 16 f0 hw0
  rw [hb0] at hv0
  subst hv0
  obtain ⟨f1, hv1, hw1⟩ := open_arrInt _ _ 16 Try.underlying22 .u8 Try.underlying5 (by kernel_rfl) (by kernel_rfl) hvl1 h1
  obtain ⟨b, hb1⟩ := bytes_of_arr 16 f1 hw1
  rw [hb1] at hv1
  subst hv1
  clear hA0 hval0
  refine (walk W a b).mono fun e W' ⟨he, bel⟩ => ?_
  subst he
  exact ⟨_, rfl, _, _, _, [], _, [], hW', trodAll_mk1 (shut_bool Try.underlying4 _), trodAll_mk2 (keep_arg (by kernel_rfl) (of_decide_eq_true (by kernel_rfl)) h0 bel) (keep_arg (by kernel_rfl) (of_decide_eq_true (by kernel_rfl)) h1 bel), rfl, bel.frame _, fun h => by cases h⟩

theorem over : Rows.aesKeysRow.holds Try.pinned (OpenSpec.ofChange Rows.aesKeysSpec) :=
  OpenClaim.holds_of_wide 5 Try.f5 rfl rfl rfl rfl rfl rfl rfl ⟨rfl, rfl, rfl, rfl, rfl⟩ rfl rfl rfl rfl rfl (by kernel_rfl) Try.func5 (by kernel_rfl)
    (of_decide_eq_true (by kernel_rfl)) (by unfold Func.isWrapper; first | (rw [if_pos (by decide +kernel)]; kernel_rfl) | (rw [if_neg (by decide +kernel)]; exact ⟨rfl, rfl⟩))
    (fun os started H enc _ => lifted os started H enc)

/-- The statement. -/
theorem proved : Rows.AesKeysSaid := over
#print axioms proved
end Go.Proofs.Ytapdcgfkmkkjaaa.aesKeyL
