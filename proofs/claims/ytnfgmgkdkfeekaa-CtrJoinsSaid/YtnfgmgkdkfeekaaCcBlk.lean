/-
  Package ctr: a block of a stream, by a contract.
-/
import Derived.Test.YtnfgmgkdkfeekaaCtrRef
import Derived.Test.YtnfgmgkdkfeekaaAesCon
import Derived.Test.YtnfgmgkdkfeekaaAcMixd
namespace Go.Proofs.Ytnfgmgkdkfeekaa
open Go.RowKit
set_option linter.unusedVariables false
set_option linter.unusedSimpArgs false

/-- A nonce, and the last k bytes of a number behind it. -/
def bFill (nonce : Nat → UInt8) (i k : Nat) : Nat → UInt8 := fun j => if j < 8 then nonce j else if 15 < j + k then UInt8.ofNat (i / 256 ^ (15 - j) % 256) else 0
theorem bFill_set (nonce : Nat → UInt8) (i k j : Nat) (hk : k < 8) (hj : j < 16) : bFill nonce i (k + 1) j = if j = 15 - k then UInt8.ofNat (i / 256 ^ k % 256) else bFill nonce i k j := by
  unfold bFill
  by_cases e : j = 15 - k
  · subst e
    rw [if_pos rfl, if_neg (by omega), if_pos (by omega), show 15 - (15 - k) = k by omega]
  · rw [if_neg e]
    by_cases h : j < 8
    · rw [if_pos h, if_pos h]
    · rw [if_neg h, if_neg h]
      by_cases h2 : 15 < j + k
      · rw [if_pos h2, if_pos (by omega)]
      · rw [if_neg h2, if_neg (by omega)]
theorem bFill_zero (nonce : Nat → UInt8) (i : Nat) : (splice (bA 16 fun _ => 0).toList 0 (bA 8 nonce).toList).toArray = bA 16 (bFill nonce i 0) := by
  rw [splice_bA _ _ 16 0 8 (by omega)]
  refine bA_ext fun j hj => ?_
  unfold bFill
  by_cases h : j < 8
  · rw [if_pos (by omega), if_pos h, Nat.sub_zero]
  · rw [if_neg (by omega), if_neg h, if_neg (by omega)]
theorem bFill_all (nonce : Nat → UInt8) (i : Nat) : bA 16 (bFill nonce i 8) = bA 16 (cBlk nonce i) := bA_ext fun j hj => by
  unfold bFill cBlk
  by_cases h : j < 8
  · rw [if_pos h, if_pos h]
  · rw [if_neg h, if_neg h, if_pos (by omega)]
theorem al8 : Try.prog.arrayLen 23 = 8 := by simp [Program.arrayLen, Try.underlying23]
theorem el8 : Try.prog.elem 23 = 5 := by simp [Program.elem, Try.underlying23]
theorem slice8_all (w : World) (g : Nat) : (Instr.sliceAt 23 (.pointer (some ⟨g, 0, none⟩)) none none none).run Try.prog w = .ok (.slice (some ⟨g, 0, none⟩) 8 8) w := by
  rw [run_sliceAt_array_all w 23 ⟨g, 0, none⟩ (by simp [Program.arrayLen, Program.elem, Try.underlying23])]
  rw [al8, el8, size_u8]
  show Result.ok (slicedAt _ _ _ _ _) w = _
  unfold slicedAt
  rw [if_neg (by omega), Addr.add_mid]
theorem slice16_all (w : World) (g : Nat) : (Instr.sliceAt 22 (.pointer (some ⟨g, 0, none⟩)) none none none).run Try.prog w = .ok (.slice (some ⟨g, 0, none⟩) 16 16) w := by
  rw [run_sliceAt_array_all w 22 ⟨g, 0, none⟩ (by simp [Program.arrayLen, Program.elem, Try.underlying22])]
  rw [al16, el16, size_u8]
  show Result.ok (slicedAt _ _ _ _ _) w = _
  unfold slicedAt
  rw [if_neg (by omega), Addr.add_mid]
structure BEnv (w : World) (key : Nat → UInt8) (W : World) : Prop where
  bk : Blk W w.heap.size 22 (bA 16 key)
  br : Blk W (w.heap.size + 1 + 1) 22 (bA 16 fun _ => 0)
  bw : Below w.heap.size w W
theorem BEnv.set {w W : World} {key : Nat → UInt8} (h : BEnv w key W) {g : Nat} (hg : w.heap.size + 3 ≤ g) (i : Nat) (u : Value) : BEnv w key (W.setCell ⟨g, i, none⟩ u) :=
  ⟨h.bk.far (by show w.heap.size ≠ g; omega) u, h.br.far (by show w.heap.size + 1 + 1 ≠ g; omega) u, h.bw.setCell (by show w.heap.size ≤ g; omega) u⟩
theorem BEnv.row {w W : World} {key : Nat → UInt8} (h : BEnv w key W) {g : Nat} (hg : w.heap.size + 3 ≤ g) (ds : Array Value) : BEnv w key (W.setRow g ds) :=
  ⟨h.bk.row_far (by omega), h.br.row_far (by omega), below_setRow h.bw (by omega) _⟩
theorem BEnv.below {w W W' : World} {key : Nat → UInt8} (h : BEnv w key W) (k : Below W.heap.size W W') : BEnv w key W' :=
  ⟨h.bk.below k h.bk.lt, h.br.below k h.br.lt, below_next h.bw k⟩
theorem BEnv.drew {w W : World} {key : Nat → UInt8} (h : BEnv w key W) : BEnv w key W.drew := ⟨h.bk.drew_, h.br.drew_, h.bw.drew⟩
set_option maxHeartbeats 2000000 in
set_option maxRecDepth 100000 in
theorem cblock_any (w : World) (key nonce : Nat → UInt8) (i : Nat) (hi : i < 18446744073709551616) : Calls Try.prog 18 #[.agg (bA 16 key), .agg (bA 8 nonce), .int .u64 (i : Int)] w fun e w' => e = .returned (.agg (bA 16 (cEnc key nonce i))) ∧ Below w.heap.size w w' := by
  go_enter Try.func18, Try.ntmps18
  go_upto_region 2 with (fail)
  go_name_world W0 hW0
  have n0 := Blk.new w 22 (bA 16 key)
  have n1 := Blk.new (w.alloc (.cells (bA 16 key) 22)) 23 (bA 8 nonce)
  have n2 := Blk.new ((w.alloc (.cells (bA 16 key) 22)).alloc (.cells (bA 8 nonce) 23)) 22 (bA 16 fun _ => 0)
  have n3 := Blk.new (((w.alloc (.cells (bA 16 key) 22)).alloc (.cells (bA 8 nonce) 23)).alloc (.cells (bA 16 fun _ => 0) 22)) 22 (bA 16 fun _ => 0)
  simp only [World.size_alloc] at n1 n2 n3
  have HE0 := kept (show BEnv w key W0 by
    rw [← hW0]
    exact ⟨((n0.alloc _).alloc _).alloc _, n2.alloc _, ((((Below.refl _ _).alloc (Nat.le_refl _) _).alloc (by simp) _).alloc (by simp; omega) _).alloc (by simp; omega) _⟩)
  have HN0 := kept (show Blk W0 (w.heap.size + 1) 23 (bA 8 nonce) by rw [← hW0]; exact (n1.alloc _).alloc _)
  have HB0 := kept (show Blk W0 (w.heap.size + 1 + 1 + 1) 22 (bA 16 fun _ => 0) by rw [← hW0]; exact n3)
  clear hW0 n0 n1 n2 n3
  have hs1 := fun w' => slice16_all w' (w.heap.size + 1 + 1 + 1)
  have hs2 := fun w' => slice8_all w' (w.heap.size + 1)
  have HSRC := kept (show ∀ j v, (bA 8 nonce).toList[j]? = some v → W0.drew.cell? ((⟨w.heap.size + 1, 0, none⟩ : Addr).add j) = some v from fun j v hv => by
    rw [Addr.add_mid, Nat.zero_add]
    show W0.cell? _ = _
    rw [HN0.out.cell]
    simpa using hv)
  have HLM := kept (show (bA 8 nonce).toList.length = 8 by rw [Array.length_toList, bA_size])
  have HONE := kept (show ∀ v ∈ (bA 8 nonce).toList, v.oneCell' = true from fun v hv => by
    have := bA_one 8 nonce
    rw [Array.all_eq_true_iff_forall_mem] at this
    exact this v (by simpa using hv))
  obtain ⟨CC, hCd⟩ : ∃ CC : World → Prop, CC = fun w' => w' = W0.drew := ⟨_, rfl⟩
  have HC := kept (show ∀ w', CC w' → w' = W0.drew from fun w' h => by rw [hCd] at h; exact h)
  have hC0 : CC W0.drew := by rw [hCd]
  clear hCd
  refine wp_region_tail CC 2 (by kernel_rfl) (by kernel_rfl) hC0 ?_
  simp only [List.take_succ_cons, List.take_zero, List.drop_succ_cons, List.drop_zero]
  quiet_step (exact fun _ => rfl)
  quiet_step (exact fun _ => rfl)
  refine wpQuiet_nil ?_
  intro W5 hC5
  rw [HC.out _ hC5]
  clear hC5 hC0 HC
  go_wp2_with (refine wpList_copy_own rfl (.tmp 9) (.tmp 10) 27 27 rfl 5 Try.underlying27 u8_size (w.heap.size + 1 + 1 + 1) 0 16 16 ⟨w.heap.size + 1, 0, none⟩ 8 8 rfl rfl (bA 16 fun _ => 0) 22 HB0.out (bA 8 nonce).toList (by rw [HLM.out]; show _ = min _ _; omega) HSRC.out (by rw [HLM.out, bA_size]; omega) HONE.out ?_)
  go_name_world W6 hW6
  have HE6 := kept (show BEnv w key W6 by rw [← hW6]; exact HE0.out.drew.row (by omega) _)
  have HB6 := kept (show Blk W6 (w.heap.size + 1 + 1 + 1) 22 (bA 16 (bFill nonce i 0)) by
    rw [← hW6, ← bFill_zero, show (splice (bA 16 fun _ => 0).toList 0 (bA 8 nonce).toList).toArray = ((bA 8 nonce).toList ++ List.drop (bA 8 nonce).size (bA 16 fun _ => 0).toList).toArray by simp [splice]]
    exact setRow_heap _ _ _ _ _ _ HB0.out.drew_)
  clear hW6 HE0 HB0 HN0 hs1 hs2 HSRC HLM HONE
  generalize (bA 8 nonce).size = sz
  go_loopw [12] (fun k wr => ∃ n : Nat, n ≤ 8 ∧ k = .int .i64 n ∧ Kept (BEnv w key wr) ∧ Kept (Blk wr (w.heap.size + 1 + 1 + 1) 22 (bA 16 (bFill nonce i n)))) (fun k _ => 8 - (intOf k).toNat)
  case atStart => exact ⟨0, Nat.zero_le _, rfl, HE6, HB6⟩
  case round =>
    obtain ⟨n, hn, rfl, HE1, HB1⟩ := hrel
    rename World => W1
    clear HE6 HB6
    by_cases hlt : n < 8
    · have hn8 : (n : Int) < 8 := by omega
      have HS := kept fun j (hj : j < 16) => bFill_set nonce i n j hlt hj
      have HM := kept (digit n i)
      have c3 : ∃ o : UInt8, W1.cell? ⟨w.heap.size + 1 + 1 + 1, 15 - n, none⟩ = some (.int .u8 (o.toNat : Int)) := ⟨_, by rw [HB1.out.cell]; exact bA_at _ _ (by omega)⟩
      obtain ⟨o3, c3⟩ := c3
      have f3 := HB1.out.frozen (15 - n)
      have h15 : (15 : Int) - (n : Int) = ((15 - n : Nat) : Int) := by omega
      go_wp2_with fail
      refine ⟨⟨n + 1, by omega, by go_num, kept (HE1.out.set (by omega) _ _), kept ?_⟩, by simp [intOf]; omega⟩
      rw [HM.out]
      exact HB1.out.putB (15 - n) _ HS.out
    · obtain rfl : n = 8 := by omega
      have HB2 := kept (show Blk W1 (w.heap.size + 1 + 1 + 1) 22 (bA 16 (cBlk nonce i)) by rw [← bFill_all]; exact HB1.out)
      clear HB1 hn hlt
      go_wp2_with (first | (refine wpList_load_row rfl 22 (.tmp 3) rfl w.heap.size rfl 22 (bA 16 key) (0, 0) _ HE1.out.bk Try.underlying22 rfl (by rw [b16_size, bA_size]) ?_) | (refine wpList_load_row rfl 22 (.tmp 7) rfl (w.heap.size + 1 + 1 + 1) rfl 22 (bA 16 (cBlk nonce i)) (0, 0) _ HB2.out Try.underlying22 rfl (by rw [b16_size, bA_size]) ?_))
      refine (aenc_any W1 key (cBlk nonce i)).mono ?_
      rintro e w2 ⟨rfl, k⟩
      have HE2 := kept (HE1.out.below k)
      clear k HE1 HB2
      obtain ⟨R, hR⟩ : ∃ R, aEnc key (cBlk nonce i) = R := ⟨_, rfl⟩
      rw [hR]
      have HR := kept (show cEnc key nonce i = R from hR)
      clear hR
      go_wp2_with (refine wpList_store_row rfl 22 (.tmp 6) (.tmp 26) rfl (w.heap.size + 1 + 1) (bA 16 R) rfl rfl 22 (bA 16 (fun _ => 0)) HE2.out.br (by rw [b16_size, bA_size]) (by rw [bA_size, bA_size]) (bA_one _ _) ?_)
      exact bodyPost_ret (v := .agg (bA 16 R)) (results_cell_row Try.results18 _ _ (w.heap.size + 1 + 1) 22 (bA 16 R) (0, 0) _ rfl (setRow_heap _ _ _ _ _ _ HE2.out.br) Try.underlying22 rfl (by rw [b16_size, bA_size])) rfl ⟨by rw [HR.out], below_setRow HE2.out.bw (by omega) _⟩
end Go.Proofs.Ytnfgmgkdkfeekaa
