/-
  The padding of a number of bytes: of the reference, of package sha.
-/
import Derived.Test.YtgplkdnffbappaaDoorSha
namespace Go.Proofs.YtgplkdnffbappaaDoor
open Go.RowKit
set_option linter.unusedVariables false

/-- How many zero bytes; the byte i; all of them. -/
def padZ (n : Nat) : Nat := (119 - n % 64) % 64
def padJ (n j i : Nat) : UInt8 := if i = 0 then 128 else if i < 9 + padZ n - j then 0 else UInt8.ofNat (8 * n / 256 ^ (8 + padZ n - i) % 256)
def padB (n i : Nat) : UInt8 := padJ n 8 i
def padL (n : Nat) : List UInt8 := (List.range (9 + padZ n)).map (padB n)
theorem padL_len (n : Nat) : (padL n).length = 9 + padZ n := by simp [padL]
theorem padZ_lt (n : Nat) : padZ n < 64 := by unfold padZ; omega
theorem padZ_u64 (n : Nat) (h : n < 18446744073709551616) : IntKind.i64.wrap ((IntKind.u64.wrap (55 - (n : Int))).tmod 64) = (padZ n : Int) := by
  rw [IntKind.wrap_u64, Int.tmod_eq_emod_of_nonneg (by omega)]
  have : (55 - (n : Int)) % 18446744073709551616 % 64 = (padZ n : Int) := by unfold padZ; omega
  rw [this]
  have := padZ_lt n
  exact IntWalk.i64_in _ (by omega)
theorem pow8i (x j : Nat) : ((x : Int) / 2 ^ (8 * j)) = ((x / 256 ^ j : Nat) : Int) := by
  rw [← pow8, Int.natCast_ediv, Int.natCast_pow]
  rfl
set_option maxHeartbeats 1000000 in
theorem spad_any (w : World) (n : Nat) (hn : n ≤ 1152921504606846975) : Calls Tryd.prog 32 #[.int .i64 n] w fun e w' => ∃ v, e = .returned v ∧ Own w' w.heap.size v (padL n) ∧ Below w.heap.size w w' := by
  obtain ⟨z, hz⟩ : ∃ z, padZ n = z := ⟨_, rfl⟩
  have hz64 := padZ_lt n
  have hu := padZ_u64 n (by omega)
  rw [hz] at hu hz64
  have hw : IntKind.u64.wrap (n : Int) = (n : Int) := by rw [IntKind.wrap_u64]; omega
  have hw8 : IntKind.u64.wrap (8 * (n : Int)) = 8 * (n : Int) := by rw [IntKind.wrap_u64]; omega
  have hmk := run_make_row' (P := Tryd.prog) 22 5 (.int .u8 0) 1 Tryd.underlying22 u8_info rfl .i64 .i64 (1 + z + 8) (by omega) (by omega)
  have ec : ((1 + z + 8 : Nat) : Int) = 1 + (z : Int) + 8 := by omega
  rw [ec, madeCells_gA] at hmk
  clear ec
  have HZ := kept hz
  clear hz
  have hc0 : ((w.alloc (.cells (gA (1 + z + 8) fun _ => .int .u8 0) 5)).cell? ⟨w.heap.size, 0, none⟩) = some (.int .u8 0) := by
    rw [(Blk.new w _ _).cell]
    exact gA_at _ _ (by omega)
  go_enter Tryd.func32, Tryd.ntmps32
  go_wp2
  go_name_world W0 hW0
  have hB : Blk W0 w.heap.size 5 (gA (1 + z + 8) fun i => bv (padJ n 0 i)) := by
    rw [← hW0, gA_set]
    have e : gA (1 + z + 8) (fun j => if j = 0 then Value.int .u8 128 else .int .u8 0) = gA (1 + z + 8) fun i => bv (padJ n 0 i) := gA_ext fun j hj => by
      unfold padJ bv
      rw [HZ.out]
      by_cases h0 : j = 0
      · rw [if_pos h0, if_pos h0]; rfl
      · rw [if_neg h0, if_neg h0, if_pos (by omega)]; rfl
    rw [e]
    exact Blk.new _ _ _
  have hbw : Below w.heap.size w W0 := by rw [← hW0]; exact (Below.refl _ _).alloc (Nat.le_refl _) _
  have HB := kept hB
  clear hB hW0 hmk hc0 hu
  obtain ⟨T, hT⟩ : ∃ T, 1 + z + 8 = T := ⟨_, rfl⟩
  rw [hT] at HB
  rw [hT]
  go_loopw [17] (fun i wr => ∃ j : Nat, j ≤ 8 ∧ i = .int .i64 j ∧ Kept (Blk wr w.heap.size 5 (gA T fun i => bv (padJ n j i))) ∧ Below w.heap.size w wr) (fun i _ => 8 - (intOf i).toNat)
  case atStart => exact ⟨0, Nat.zero_le _, rfl, HB, hbw⟩
  case round =>
    obtain ⟨j, hj, rfl, HB1, hbw1⟩ := hrel
    rename World => W1
    clear HB hbw
    by_cases hlt : j < 8
    · have hc : W1.cell? ⟨w.heap.size, T - 1 - j, none⟩ = some (bv (padJ n j (T - 1 - j))) := by rw [HB1.out.cell, gA_at _ _ (by omega)]
      rw [bv_def] at hc
      have hf := HB1.out.frozen (T - 1 - j)
      have hdig := digit j (8 * n)
      have HD := kept hdig
      clear hdig
      go_wp2
      go_roundw
      case rel =>
        refine ⟨j + 1, by omega, by go_num, kept (HB1.out.putG _ _ fun i hi => ?_), hbw1.setCell (p := ⟨w.heap.size, T - 1 - j, none⟩) (Nat.le_refl _) _⟩
        have e : Value.int .u8 (8 * (n : Int) / 2 ^ (8 * j) % 256) = bv (UInt8.ofNat (8 * n / 256 ^ j % 256)) := by
          have := HD.out
          rw [bv_def, ← this, Int.natCast_mul]
          rfl
        rw [e]
        unfold padJ
        rw [HZ.out]
        by_cases e1 : i = T - 1 - j
        · rw [if_pos e1, if_neg (by omega), if_neg (by omega), show 8 + z - i = j by omega]
        · rw [if_neg e1]
          by_cases e0 : i = 0
          · rw [if_pos e0, if_pos e0]
          · rw [if_neg e0, if_neg e0]
            by_cases e2 : i < 9 + z - j
            · rw [if_pos e2, if_pos (by omega)]
            · rw [if_neg e2, if_neg (by omega)]
      case measure => simp [intOf]; omega
    · obtain rfl : j = 8 := by omega
      go_wp2
      go_ret
      have hl : (padL n).length = T := by rw [padL_len, HZ.out]; omega
      have hb : Blk W1 w.heap.size 5 ((padL n).map bv).toArray := by
        unfold padL
        rw [gA_map, HZ.out, show 9 + z = T by omega]
        exact HB1.out
      have := own_of_blk (B := w.heap.size) hb (Nat.le_refl _) (by omega)
      rw [hl] at this
      exact ⟨_, rfl, this, hbw1⟩

def lenV : Value → Nat
  | .slice _ n _ => n
  | _ => 0
theorem range_succ_map {α : Type} (f : Nat → α) (j : Nat) : (List.range (j + 1)).map f = (List.range j).map f ++ [f j] := by
  rw [List.range_succ, List.map_append, List.map_singleton]
set_option maxHeartbeats 1000000 in
theorem rpad_any (w : World) (n : Nat) (hn : n ≤ 1152921504606846975) : Calls Tryd.prog 26 #[.int .i64 n] w fun e w' => ∃ v, e = .returned v ∧ Own w' w.heap.size v (padL n) ∧ Below w.heap.size w w' := by
  obtain ⟨i0, hi0, hz0, hs0, hbb0⟩ := info_parts u8_info
  obtain ⟨z, hz⟩ : ∃ z, padZ n = z := ⟨_, rfl⟩
  have hz64 := padZ_lt n
  have hmod : (n + 9 + z) % 64 = 0 := by rw [← hz]; unfold padZ; omega
  rw [hz] at hz64
  have HZ := kept hz
  have HM := kept hmod
  clear hz hmod
  have hw : IntKind.u64.wrap (n : Int) = (n : Int) := by rw [IntKind.wrap_u64]; omega
  have hw8 : IntKind.u64.wrap ((n : Int) * 8) = (n : Int) * 8 := by rw [IntKind.wrap_u64]; omega
  go_enter Tryd.func26, Tryd.ntmps26
  go_wp2_with fail
  have hst : Own (w.alloc (.cells #[.int .u8 128] 5)) w.heap.size (.slice (some ⟨w.heap.size, 0, none⟩) 1 1) ((List.range (1 + 0)).map (padB n)) :=
    own_of_blk (l := [128]) (show Blk _ _ _ _ from Blk.new _ _ _) (Nat.le_refl _) (by simp)
  have hbw : Below w.heap.size w (w.alloc (.cells #[.int .u8 128] 5)) := (Below.refl _ _).alloc (Nat.le_refl _) _
  have HS := kept hst
  clear hst
  go_loopw [3] (fun v wr => ∃ j : Nat, j ≤ z ∧ Kept (Own wr w.heap.size v ((List.range (1 + j)).map (padB n))) ∧ Below w.heap.size w wr) (fun v _ => 1 + z - lenV v)
  case atStart => exact ⟨0, Nat.zero_le _, HS, hbw⟩
  case round =>
    obtain ⟨j, hj, HO, hbw1⟩ := hrel
    rename World => W1
    clear HS hbw
    obtain ⟨A, q, c, rfl, hc, hcm, hm, _⟩ := HO.out.form
    have hlen : ((List.range (1 + j)).map (padB n)).length = 1 + j := by simp
    have hsnoc : (List.range (1 + j + 1)).map (padB n) = (List.range (1 + j)).map (padB n) ++ [padB n (1 + j)] := range_succ_map _ _
    generalize hgen : (List.range (1 + j)).map (padB n) = bs at *
    have HG := kept hgen
    clear hgen
    rw [hlen] at HO hc
    rw [hlen]
    have HSN := kept hsnoc
    have HL := kept hlen
    clear hsnoc hlen hm
    have hbl : Blk (W1.alloc (.cells #[.int .u8 0] 5)) W1.heap.size 5 ([(0 : UInt8)].map bv).toArray := Blk.new _ _ _
    have hm2 : Mem (W1.alloc (.cells #[.int .u8 0] 5)) W1.heap.size (some ⟨W1.heap.size, 0, none⟩) [0] := mem_lit rfl
    by_cases hlt : j < z
    · have ht : (((n : Int) + (1 + (j : Int)) + 8) % 64 != 0) = true := by
        have := HM.out
        rw [bne_iff_ne]
        omega
      have hpad : padB n (1 + j) = 0 := by unfold padB padJ; rw [HZ.out, if_neg (by omega), if_pos (by omega)]
      have HP := kept hpad
      have hown := HO.out.alloc (.cells #[.int .u8 0] 5)
      have hbx := hbw1.alloc hbw1.size (.cells #[.int .u8 0] 5)
      clear hpad hbl
      go_wp2_with (first | (at_builtin; refine wpList_append_bytes rfl _ _ 22 rfl w.heap.size i0 Tryd.underlying22 hi0 hz0 hs0 hbb0 (.slice A (1 + j) c) bs rfl hown W1.heap.size _ 1 1 [0] rfl rfl hm2 (by rw [HL.out]; simp; omega) (by have := hbx.size; exact this) ?_; intro v1 w2 hown1 hg1))
      have hbw2 : Below w.heap.size w w2 := hbx.grown hg1 hbx.size (fun k hk => (World.ownsRow.lt hown k hk).1)
      obtain ⟨A1, q1, c1, rfl, hc1, hcm1, hm1, _⟩ := hown1.form
      have hl1 : (bs ++ [0]).length = 1 + j + 1 := by rw [List.length_append, HL.out]; rfl
      have HO1 := kept hown1
      clear hown hown1 hm1 hc1
      rw [hl1] at HO1
      rw [hl1]
      clear hl1
      go_wp2
      go_roundw
      case rel => exact ⟨j + 1, by omega, kept (by rw [show 1 + (j + 1) = 1 + j + 1 by omega, HSN.out, HP.out]; exact HO1.out), hbw2⟩
      case measure => simp [lenV]; omega
    · obtain rfl : j = z := by omega
      have ht : (((n : Int) + (1 + (j : Int)) + 8) % 64 != 0) = false := by
        have := HM.out
        rw [bne_eq_false_iff_eq]
        omega
      clear hbl hm2
      go_wp2_with fail
      have HO0 := kept (show Own W1 w.heap.size (.slice A (1 + j) c) ((List.range (1 + j + (8 - 8))).map (padB n)) by rw [show 1 + j + (8 - 8) = 1 + j by omega, HG.out]; exact HO.out)
      go_loopw [3, 5] (fun v i wr => ∃ k : Nat, k ≤ 8 ∧ i = .int .i64 ((k : Int) - 1) ∧ Kept (Own wr w.heap.size v ((List.range (1 + j + (8 - k))).map (padB n))) ∧ Below w.heap.size w wr) (fun _ i _ => (intOf i + 1).toNat)
      case atStart => exact ⟨8, by omega, by go_num, HO0, hbw1⟩
      case round =>
        obtain ⟨k, hk, rfl, HO2, hbw2⟩ := hrel
        rename World => W2
        clear HO0 HO hbw1
        rcases k with _ | k
        · have e : (List.range (1 + j + (8 - 0))).map (padB n) = padL n := by unfold padL; rw [HZ.out, show 1 + j + (8 - 0) = 9 + j by omega]
          go_wp2
          go_ret
          exact ⟨_, rfl, by rw [← e]; exact HO2.out, hbw2⟩
        · obtain ⟨A2, q2, c2, rfl, hc2, hcm2, hm2', _⟩ := HO2.out.form
          have ek : (((k + 1 : Nat) : Int) - 1) = (k : Int) := by omega
          obtain ⟨m, hm⟩ : ∃ m, 1 + j + (8 - (k + 1)) = m := ⟨_, rfl⟩
          have hm72 : m < 80 := by omega
          have hmk : 1 + j + (8 - k) = m + 1 := by omega
          have hlen : ((List.range (1 + j + (8 - (k + 1)))).map (padB n)).length = 1 + j + (8 - (k + 1)) := by simp
          have hsnoc : (List.range (1 + j + (8 - k))).map (padB n) = (List.range (1 + j + (8 - (k + 1)))).map (padB n) ++ [UInt8.ofNat (n * 8 / 256 ^ k % 256)] := by
            rw [show 1 + j + (8 - k) = 1 + j + (8 - (k + 1)) + 1 by omega, range_succ_map]
            congr 2
            unfold padB padJ
            rw [HZ.out, if_neg (by omega), if_neg (by omega), show 8 + j - (1 + j + (8 - (k + 1))) = k by omega, Nat.mul_comm 8 n]
          generalize (List.range (1 + j + (8 - (k + 1)))).map (padB n) = bs2 at *
          rw [hlen, hm] at HO2 hc2
          rw [hlen, hm, ek]
          rw [hm] at hlen
          have HMK := kept hmk
          clear hm hmk
          have HSN2 := kept hsnoc
          have HL2 := kept hlen
          have hdig := digit k (n * 8)
          rw [Int.natCast_mul] at hdig
          change ((n : Int) * 8) / 2 ^ (8 * k) % 256 = _ at hdig
          clear hsnoc hlen hm2' ek
          obtain ⟨D, hD⟩ : ∃ D, UInt8.ofNat (n * 8 / 256 ^ k % 256) = D := ⟨_, rfl⟩
          rw [hD] at hdig HSN2
          have hbl : Blk (W2.alloc (.cells #[.int .u8 (D.toNat : Int)] 5)) W2.heap.size 5 ([D].map bv).toArray := Blk.new _ _ _
          have hm2 : Mem (W2.alloc (.cells #[.int .u8 (D.toNat : Int)] 5)) W2.heap.size (some ⟨W2.heap.size, 0, none⟩) [D] := mem_lit rfl
          have hown := HO2.out.alloc (.cells #[.int .u8 (D.toNat : Int)] 5)
          have hbx := hbw2.alloc hbw2.size (.cells #[.int .u8 (D.toNat : Int)] 5)
          clear hbl hD
          go_wp2_with (first | (at_builtin; refine wpList_append_bytes rfl _ _ 22 rfl w.heap.size i0 Tryd.underlying22 hi0 hz0 hs0 hbb0 (.slice A2 m c2) bs2 rfl hown W2.heap.size _ 1 1 [D] rfl rfl hm2 (by rw [HL2.out]; simp; omega) (by have := hbx.size; exact this) ?_; intro v1 w2 hown1 hg1))
          have hbw3 : Below w.heap.size w w2 := hbx.grown hg1 hbx.size (fun k hk => (World.ownsRow.lt hown k hk).1)
          go_wp2
          go_roundw
          case rel => exact ⟨k, by omega, by go_num, kept (by rw [HSN2.out]; exact hown1), hbw3⟩
          case measure => simp [intOf]
end Go.Proofs.YtgplkdnffbappaaDoor
