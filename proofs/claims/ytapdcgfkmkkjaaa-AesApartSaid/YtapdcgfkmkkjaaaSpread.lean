/-
  The reference's Spread: some bytes, as many as were asked for.
-/
import Derived.Test.YtapdcgfkmkkjaaaBytes
namespace Go.Proofs.Ytapdcgfkmkkjaaa
open Go.RowKit
set_option linter.unusedVariables false
set_option linter.unusedSimpArgs false

theorem byte_of_int (z : Int) (h0 : 0 ≤ z) (h1 : z < 256) : ∃ b : UInt8, z = (b.toNat : Int) := by
  refine ⟨UInt8.ofNat (z.toNat % 256), ?_⟩
  rw [UInt8.toNat_ofNat']
  omega
/-- The numbers that Spread goes through, and its bytes. -/
def sprX (s : Int) : Nat → Int
  | 0 => s
  | j + 1 => IntKind.u64.wrap (IntKind.u64.wrap (sprX s j * 6364136223846793005) + 1442695040888963407)
def sprB (y : Int) : UInt8 := UInt8.ofNat ((y / 8589934592 % 256).toNat % 256)
def sprL (s : Int) : Nat → List UInt8
  | 0 => []
  | j + 1 => sprL s j ++ [sprB (sprX s (j + 1))]
theorem sprL_len (s : Int) (n : Nat) : (sprL s n).length = n := by
  induction n with
  | zero => rfl
  | succ n ih => rw [sprL, List.length_append, ih]; rfl
theorem sprB_num (y : Int) (h0 : 0 ≤ y) : y / 8589934592 % 256 = ((sprB y).toNat : Int) := by
  unfold sprB
  rw [UInt8.toNat_ofNat']
  omega
set_option maxHeartbeats 1000000 in
theorem rspread_l (w : World) (s : Int) (n : Nat) (h0 : 0 ≤ s) (h1 : s < 18446744073709551616) (hn : n ≤ 1000000) : Calls Try.prog 19 #[.int .u64 s, .int .i64 (n : Int)] w fun e w' => ∃ v : Value, e = .returned v ∧ Own w' w.heap.size v (sprL s n) ∧ Below w.heap.size w w' := by
  obtain ⟨i0, hi0, hz0, hs0, hbb0⟩ := info_parts u8_info
  go_enter Try.func19, Try.ntmps19
  go_wp2_with fail
  go_loopw [5, 6, 7] (fun v x i wr => ∃ (j : Nat) (z : Int) (l : List UInt8), j ≤ n ∧ i = .int .i64 j ∧ x = .int .u64 z ∧ 0 ≤ z ∧ z < 18446744073709551616 ∧ Kept (l.length = j) ∧ Kept (z = sprX s j) ∧ Kept (l = sprL s j) ∧ Kept (Own wr w.heap.size v l) ∧ Kept (Below w.heap.size w wr)) (fun _ _ i _ => n - (intOf i).toNat)
  case atStart => exact ⟨0, s, [], Nat.zero_le _, rfl, rfl, h0, h1, kept rfl, kept rfl, kept rfl, kept (Own.nil_ _ _), kept (Below.refl _ _)⟩
  case round =>
    obtain ⟨j, z, l, hj, rfl, rfl, hz0', hz1, HL, HZ, HLL, HO, HB⟩ := hrel
    rename World => W1
    obtain ⟨A, q, c, rfl, hc, hcm, hm, _⟩ := HO.out.form
    rw [HL.out] at HO hc
    rw [HL.out]
    clear hm
    by_cases hlt : j < n
    · obtain ⟨y, hy⟩ : ∃ y, IntKind.u64.wrap (IntKind.u64.wrap (z * 6364136223846793005) + 1442695040888963407) = y := ⟨_, rfl⟩
      have hy0 : 0 ≤ y ∧ y < 18446744073709551616 := by
        rw [← hy, IntKind.wrap_u64 (IntKind.u64.wrap (z * 6364136223846793005) + 1442695040888963407)]
        omega
      obtain ⟨hy1, hy2⟩ := hy0
      have HYX := kept (show y = sprX s (j + 1) by rw [sprX, ← HZ.out]; exact hy.symm)
      have hD0 := sprB_num y hy1
      obtain ⟨D, hDD⟩ : ∃ D, sprB y = D := ⟨_, rfl⟩
      have hD : y / 8589934592 % 256 = (D.toNat : Int) := by rw [hD0, hDD]
      have HD := kept hDD
      clear hD0 hDD
      have hbl : Blk (W1.alloc (.cells #[.int .u8 (D.toNat : Int)] 5)) W1.heap.size 5 ([D].map bv).toArray := Blk.new _ _ _
      have hm2 : Mem (W1.alloc (.cells #[.int .u8 (D.toNat : Int)] 5)) W1.heap.size (some ⟨W1.heap.size, 0, none⟩) [D] := mem_lit rfl
      have hown := HO.out.alloc (.cells #[.int .u8 (D.toNat : Int)] 5)
      have hbx := HB.out.alloc HB.out.size (.cells #[.int .u8 (D.toNat : Int)] 5)
      clear hbl
      go_wp2_with (first | (at_builtin; refine wpList_append_bytes rfl _ _ 40 rfl w.heap.size i0 Try.underlying40 hi0 hz0 hs0 hbb0 (.slice A j c) l rfl hown W1.heap.size _ 1 1 [D] rfl rfl hm2 (by rw [HL.out]; simp; omega) (by have := hbx.size; exact this) ?_; intro v1 w2 hown1 hg1))
      have hbw2 : Below w.heap.size w w2 := hbx.grown hg1 hbx.size (fun k hk => (World.ownsRow.lt hown k hk).1)
      go_wp2
      go_roundw
      case rel => exact ⟨j + 1, y, l ++ [D], by omega, by go_num, rfl, hy1, hy2, kept (by rw [List.length_append, HL.out]; rfl), kept HYX.out, kept (by rw [sprL, ← HLL.out, ← HYX.out, HD.out]), kept hown1, kept hbw2⟩
      case measure => simp [intOf]; omega
    · obtain rfl : j = n := by omega
      go_wp2
      go_ret
      exact ⟨_, rfl, by rw [← HLL.out]; exact HO.out, HB.out⟩
theorem rspread_any (w : World) (s : Int) (n : Nat) (h0 : 0 ≤ s) (h1 : s < 18446744073709551616) (hn : n ≤ 1000000) : Calls Try.prog 19 #[.int .u64 s, .int .i64 (n : Int)] w fun e w' => ∃ (l : List UInt8) (v : Value), l.length = n ∧ e = .returned v ∧ Own w' w.heap.size v l ∧ Below w.heap.size w w' :=
  (rspread_l w s n h0 h1 hn).mono fun e w' ⟨v, h⟩ => ⟨sprL s n, v, sprL_len s n, h⟩
end Go.Proofs.Ytapdcgfkmkkjaaa
