/-
  The reference's Crypt of package ctr, by a contract.
-/
import Derived.Test.YtnfgmgkdkfeekaaCtrStr
namespace Go.Proofs.Ytnfgmgkdkfeekaa
open Go.RowKit
set_option linter.unusedVariables false
set_option linter.unusedSimpArgs false

/-- The first k bytes combined, the others still the stream's. -/
def mixK (f : Nat → UInt8) (b : List UInt8) (k : Nat) : List UInt8 := (List.range b.length).map fun j => if j < k then gxr (f j) (b.getD j 0) else f j
theorem mixK_len (f : Nat → UInt8) (b : List UInt8) (k : Nat) : (mixK f b k).length = b.length := by simp [mixK]
theorem mixK_zero (f : Nat → UInt8) (b : List UInt8) : mixK f b 0 = sPart f 0 b.length := by
  unfold mixK sPart
  apply List.map_congr_left
  intro j _
  rw [if_neg (by omega), Nat.zero_add]
theorem mixK_all (f : Nat → UInt8) (b : List UInt8) : mixK f b b.length = sMix f 0 b := by
  unfold mixK sMix
  apply List.map_congr_left
  intro j hj
  rw [if_pos (List.mem_range.1 hj), Nat.zero_add]
theorem mixK_at (f : Nat → UInt8) (b : List UInt8) (k : Nat) (hk : k < b.length) : (mixK f b k)[k]'(by rw [mixK_len]; exact hk) = f k := by
  simp [mixK]
theorem mixK_set (f : Nat → UInt8) (b : List UInt8) (k : Nat) (hk : k < b.length) : (mixK f b k).set k (gxr (f k) (b[k]'hk)) = mixK f b (k + 1) := by
  apply List.ext_getElem?
  intro j
  rw [List.getElem?_set, mixK_len]
  unfold mixK
  by_cases e : k = j
  · subst e
    rw [if_pos rfl, if_pos hk, List.getElem?_map, List.getElem?_range hk]
    simp [List.getD, hk]
  · rw [if_neg e, List.getElem?_map, List.getElem?_map]
    by_cases hj : j < b.length
    · rw [List.getElem?_range hj]
      simp only [Option.map_some]
      congr 1
      by_cases h : j < k
      · rw [if_pos h, if_pos (by omega)]
      · rw [if_neg h, if_neg (by omega)]
    · rw [List.getElem?_eq_none (by simp; omega)]
      rfl
set_option maxHeartbeats 2000000 in
set_option maxRecDepth 100000 in
theorem rccrypt_any (w : World) (key nonce : Nat → UInt8) (q n c : Nat) (A : Option Addr) (b : List UInt8) (hn : n = b.length) (hm : Mem w q A b) (hl : b.length ≤ 1048576) : Calls Try.prog 13 #[.agg (bA 16 key), .agg (bA 8 nonce), .slice A n c] w fun e w' => ∃ v, e = .returned v ∧ Own w' w.heap.size v (sMix (cStr key nonce) 0 b) ∧ Below w.heap.size w w' := by
  subst hn
  have hm0 := kept hm
  clear hm
  have hl' : (b.length : Int) ≤ 1048576 := by omega
  go_enter Try.func13, Try.ntmps13
  go_upto_region 1 with (fail)
  go_name_world W0 hW0
  have n0 := Blk.new w 22 (bA 16 key)
  have n1 := Blk.new (w.alloc (.cells (bA 16 key) 22)) 23 (bA 8 nonce)
  simp only [World.size_alloc] at n1
  have HK0 := kept (show Blk W0 w.heap.size 22 (bA 16 key) by rw [← hW0]; exact n0.alloc _)
  have HN0 := kept (show Blk W0 (w.heap.size + 1) 23 (bA 8 nonce) by rw [← hW0]; exact n1)
  have HW0 := kept (show Below w.heap.size w W0 by rw [← hW0]; exact ((Below.refl w.heap.size w).alloc (Nat.le_refl _) (.cells (bA 16 key) 22)).alloc (by simp) (.cells (bA 8 nonce) 23))
  clear hW0 n0 n1
  go_wp2_with (first | (refine wpList_load_row rfl 22 (.tmp 3) rfl w.heap.size rfl 22 (bA 16 key) (0, 0) _ HK0.out Try.underlying22 rfl (by rw [b16_size, bA_size]) ?_) | (refine wpList_load_row rfl 23 (.tmp 4) rfl (w.heap.size + 1) rfl 23 (bA 8 nonce) (0, 0) _ HN0.out Try.underlying23 rfl (by rw [b8_size, bA_size]) ?_))
  refine (rcstream_in W0 key nonce 0 b.length (by omega) hl).mono ?_
  rintro e W1 ⟨v, rfl, o1, k⟩
  have HO1 := kept (show Own W1 w.heap.size v (mixK (cStr key nonce) b 0) by rw [mixK_zero]; exact o1.mono HW0.out.size)
  have HW1 := kept (below_next HW0.out k)
  obtain ⟨A1, q1, c1, hv, hc, hcm, _⟩ := o1.form
  subst hv
  rw [sPart_len] at hc HO1
  rw [sPart_len]
  clear o1 k HK0 HN0 HW0
  obtain ⟨f, hf⟩ : ∃ f, cStr key nonce = f := ⟨_, rfl⟩
  rw [hf] at HO1
  have HF := kept hf
  clear hf
  go_wp2_with fail
  go_loopw [8] (fun i wr => ∃ k : Nat, k ≤ b.length ∧ i = .int .i64 k ∧ Kept (Own wr w.heap.size (.slice A1 b.length c1) (mixK f b k)) ∧ Kept (Below w.heap.size w wr)) (fun i _ => b.length - (intOf i).toNat)
  case atStart => exact ⟨0, Nat.zero_le _, rfl, HO1, HW1⟩
  case round =>
    obtain ⟨k, hk, rfl, HO2, HW2⟩ := hrel
    rename World => W2
    clear HO1 HW1
    by_cases hlt : k < b.length
    · have hklt : (k : Int) < (b.length : Int) := by omega
      have hlk : k < (mixK f b k).length := by rw [mixK_len]; exact hlt
      obtain ⟨A2, q2, c2, hv2, _, _, _, hf2, _⟩ := HO2.out.form
      obtain ⟨_, hA2, _⟩ := hf2 (fun e => by rw [e] at hlk; cases hlk)
      injection hv2 with e1 _ _
      rw [hA2] at e1
      subst e1
      obtain ⟨cs, fs, hBq⟩ := own_at HO2.out k hlk
      rw [mixK_at f b k hlt] at cs
      obtain ⟨o, rfl, cb⟩ := (hm0.out.below0 HW2.out).at_ hlt
      have HS := kept (mixK_set f b k hlt)
      have HSET := kept (own_set HO2.out k (gxr (f k) (b[k]'hlt)) hlk)
      have hx := gx8 (f k) (b[k]'hlt)
      generalize gxr (f k) (b[k]'hlt) = Z at HS HSET hx
      generalize f k = x at cs hx
      generalize b[k]'hlt = y at cb hx
      clear hA2 hf2
      go_wp2
      go_region
      all_goals go_wp2
      go_roundw
      case rel => exact ⟨k + 1, by omega, by go_num, kept (by rw [← HS.out]; exact HSET.out.drew), kept ((HW2.out.setCell (p := ⟨q2, k, none⟩) hBq _).drew)⟩
      case measure => simp [intOf]; omega
    · obtain rfl : k = b.length := by omega
      go_wp2
      go_ret
      exact ⟨_, rfl, by rw [HF.out, ← mixK_all]; exact HO2.out, HW2.out⟩
end Go.Proofs.Ytnfgmgkdkfeekaa
