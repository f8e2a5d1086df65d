/-
  Contracts of the reading methods of package wire.
-/
import Derived.Test.YtnejidaplbonoaaLeaf
namespace Go.Proofs.Ytnejidaplbonoaa
open Go.RowKit
set_option linter.unusedVariables false

theorem rTake_out_le (s : RS) (n : Int) (h : 0 ≤ n) : ((rTake s n).2.length : Int) ≤ n := by
  unfold rTake
  split
  · simp only [List.length_take]; omega
  · simp; omega
theorem beNum_u64 (l : List UInt8) (h : l.length ≤ 8) : beNum l < 18446744073709551616 := by
  have h1 := beNum_lt l
  have h2 : 256 ^ l.length ≤ 256 ^ 8 := Nat.pow_le_pow_right (by omega) h
  have h3 : (256 : Nat) ^ 8 = 18446744073709551616 := by decide
  omega
theorem beNum_u56 (l : List UInt8) (h : l.length < 8) : beNum l < 72057594037927936 := by
  have h1 := beNum_lt l
  have h2 : 256 ^ l.length ≤ 256 ^ 7 := Nat.pow_le_pow_right (by omega) (by omega)
  have h3 : (256 : Nat) ^ 7 = 72057594037927936 := by decide
  omega
theorem shl_or (x b : Nat) (hx : x < 72057594037927936) (hb : b < 256) :
    bits .or .u64 (IntKind.u64.wrap ((x : Int) * 256)) (IntKind.u64.wrap (b : Int)) = ((x * 256 + b : Nat) : Int) := by
  have e1 : IntKind.u64.wrap ((x : Int) * 256) = ((x * 256 : Nat) : Int) := by rw [IntKind.wrap_u64]; omega
  have e2 : IntKind.u64.wrap (b : Int) = (b : Int) := by rw [IntKind.wrap_u64]; omega
  rw [e1, e2, u64_or_nat _ _ (by omega) (by omega)]
  have h := Nat.two_pow_add_eq_or_of_lt (i := 8) (b := b) (by omega) x
  simp only [show (2 : Nat) ^ 8 = 256 from rfl] at h
  rw [Nat.mul_comm x 256, ← h]
theorem take_snoc (l : List UInt8) (k : Nat) (h : k < l.length) : l.take (k + 1) = l.take k ++ [l[k]'h] := List.take_succ_eq_append_getElem h

theorem num_ok (w : World) (k : Int) {g q : Nat} {bad : Bool} {l : List UInt8} (h : Rd w g q bad l) (h1 : 1 ≤ k) (h2 : k ≤ 8) : Calls Try.prog 36 #[.pointer (some ⟨g, 0, none⟩), .int .i64 k] w fun e w' => e = .returned (.int .u64 (beNum (rTake (bad, l) k).2)) ∧ Rd w' g q (rTake (bad, l) k).1.1 (rTake (bad, l) k).1.2 ∧ w.grownBy w' (some g) := by
  have hlen := rTake_out_le (bad, l) k (by omega)
  have hn := next_any w k h
  generalize (rTake (bad, l) k).2 = out at *
  generalize (rTake (bad, l) k).1 = st at *
  have HN := Lib.hid hn
  clear hn
  go_enter Try.func36, Try.ntmps36
  go_wp2_with (first | (go_at_call 47; refine (isWidth_yes k _ h1 h2).mono ?_; rintro e w' ⟨rfl, rfl⟩) | (go_at_call 51; refine HN.out.mono ?_; rintro e w' ⟨A, c, rfl, hm, hr, hg⟩))
  go_loop [5, 17] (fun x i => ∃ j : Nat, j ≤ out.length ∧ i = .int .i64 j ∧ x = .int .u64 (beNum (out.take j))) (fun _ i => out.length - (intOf i).toNat)
  case atStart => exact ⟨0, Nat.zero_le _, rfl, by simp [beNum]⟩
  case round =>
    obtain ⟨j, hj, rfl, rfl⟩ := hrel
    by_cases hlt : j < out.length
    · obtain ⟨o, rfl, hc⟩ := hm.at_ hlt
      have hs := shl_or (beNum (out.take j)) (out[j]'hlt).toNat (beNum_u56 _ (by rw [List.length_take]; omega)) (byte_lt _)
      rw [← beNum_snoc, ← take_snoc out j hlt] at hs
      have HS := Lib.hid hs
      clear hs
      go_wp2
      go_round
      case rel => exact ⟨j + 1, by omega, by go_num, by rw [HS.out]⟩
      case measure => simp [intOf]; omega
    · go_wp2
      go_ret
      have : out.take j = out := List.take_of_length_le (by omega)
      rw [this]
      exact ⟨rfl, hr, hg⟩
theorem num_no (w : World) (k : Int) {g q : Nat} {bad : Bool} {l : List UInt8} (h : Rd w g q bad l) (h1 : k < 1 ∨ 8 < k) : Calls Try.prog 36 #[.pointer (some ⟨g, 0, none⟩), .int .i64 k] w fun e w' => e = .returned (.int .u64 0) ∧ Rd w' g q true [] ∧ w.grownBy w' (some g) := by
  go_enter Try.func36, Try.ntmps36
  go_wp2_with (first | (go_at_call 47; refine (isWidth_no k _ h1).mono ?_; rintro e w' ⟨rfl, rfl⟩) | (go_at_call 49; refine (fail_any _ h).mono ?_; rintro e w' ⟨rfl, hr, hg⟩))
  go_ret
  exact ⟨rfl, hr, hg⟩
theorem num_any (w : World) (k : Int) {g q : Nat} {bad : Bool} {l : List UInt8} (h : Rd w g q bad l) : Calls Try.prog 36 #[.pointer (some ⟨g, 0, none⟩), .int .i64 k] w fun e w' => e = .returned (.int .u64 (rNum (bad, l) k).2) ∧ Rd w' g q (rNum (bad, l) k).1.1 (rNum (bad, l) k).1.2 ∧ w.grownBy w' (some g) := by
  by_cases hk : 1 ≤ k ∧ k ≤ 8
  · have e : rNum (bad, l) k = ((rTake (bad, l) k).1, beNum (rTake (bad, l) k).2) := by unfold rNum; rw [if_pos hk]
    rw [e]
    exact num_ok w k h hk.1 hk.2
  · have e : rNum (bad, l) k = ((true, []), 0) := by unfold rNum; rw [if_neg hk]
    rw [e]
    exact num_no w k h (by omega)
theorem rNum_lt (s : RS) (k : Int) : (rNum s k).2 < 18446744073709551616 := by
  unfold rNum
  split
  · rename_i hk
    have := rTake_out_le s k (by omega)
    exact beNum_u64 _ (by omega)
  · show 0 < _
    omega
theorem take_any (w : World) (k : Int) {g q : Nat} {bad : Bool} {l : List UInt8} (h : Rd w g q bad l) : Calls Try.prog 50 #[.pointer (some ⟨g, 0, none⟩), .int .i64 k] w fun e w' => ∃ v, e = .returned v ∧ Own w' w.heap.size v (rTake (bad, l) k).2 ∧ Rd w' g q (rTake (bad, l) k).1.1 (rTake (bad, l) k).1.2 ∧ w.grownBy w' (some g) := by
  have hlen := rTake_out (bad, l) k
  have hll := h.len
  have hn := next_any w k h
  generalize (rTake (bad, l) k).2 = out at *
  generalize (rTake (bad, l) k).1 = st at *
  have HN := Lib.hid hn
  clear hn
  go_enter Try.func50, Try.ntmps50
  go_wp2_with (first | (go_at_call 51; refine HN.out.mono ?_; rintro e w1 ⟨A, c, rfl, hm, hr, hg⟩) | (go_at_call 34; refine (clone_any _ q A _ c out rfl hm (Nat.le_trans hlen hll)).mono ?_; rintro e w2 ⟨v, rfl, hown, hb⟩))
  go_ret
  refine ⟨v, rfl, hown.mono hg.size, hr.below hb, gb_then hg (gb_of_below hb Option.none) (.inr (by simp))⟩
theorem str_any (w : World) (k : Int) {g q : Nat} {bad : Bool} {l : List UInt8} (h : Rd w g q bad l) : Calls Try.prog 35 #[.pointer (some ⟨g, 0, none⟩), .int .i64 k] w fun e w' => ∃ v, e = .returned v ∧ Own w' w.heap.size v (rStr (bad, l) k).2 ∧ Rd w' g q (rStr (bad, l) k).1.1 (rStr (bad, l) k).1.2 ∧ w.grownBy w' (some g) := by
  have hx := rNum_lt (bad, l) k
  have hnum := num_any w k h
  have hstr : rStr (bad, l) k = if (rNum (bad, l) k).1.1 = false ∧ (rNum (bad, l) k).2 ≤ (rNum (bad, l) k).1.2.length then rTake (rNum (bad, l) k).1 (rNum (bad, l) k).2 else ((true, []), []) := rfl
  generalize rStr (bad, l) k = rs at *
  generalize rNum (bad, l) k = r at *
  obtain ⟨⟨b1, l1⟩, x⟩ := r
  simp only at hx hnum hstr
  have HS := Lib.hid hstr
  have HN := Lib.hid hnum
  clear hnum hstr
  by_cases hle : x ≤ l1.length
  · go_enter Try.func35, Try.ntmps35
    go_wp2_with (first | (go_at_call 36; refine HN.out.mono ?_; rintro e w1 ⟨rfl, hr1, hg1⟩; have hl1 := hr1.len; have hw1 : IntKind.u64.wrap (l1.length : Int) = (l1.length : Int) := by { rw [IntKind.wrap_u64]; omega }) | (go_at_call 23; refine (left_any _ hr1).mono ?_; rintro e w2 ⟨rfl, rfl⟩) | (go_at_call 50; refine (take_any _ x hr1).mono ?_; rintro e w2 ⟨v, rfl, hown, hr2, hg2⟩))
    go_ret
    have e : rs = rTake (b1, l1) x := by
      rw [HS.out]
      cases b1 with
      | false => rw [if_pos ⟨rfl, hle⟩]
      | true => rw [if_neg (by simp)]; simp [rTake]
    rw [e]
    exact ⟨v, rfl, hown.mono hg1.size, hr2, hg1.trans hg2⟩
  · go_enter Try.func35, Try.ntmps35
    go_wp2_with (first | (go_at_call 36; refine HN.out.mono ?_; rintro e w1 ⟨rfl, hr1, hg1⟩; have hl1 := hr1.len; have hw1 : IntKind.u64.wrap (l1.length : Int) = (l1.length : Int) := by { rw [IntKind.wrap_u64]; omega }) | (go_at_call 23; refine (left_any _ hr1).mono ?_; rintro e w2 ⟨rfl, rfl⟩) | (go_at_call 49; refine (fail_any _ hr1).mono ?_; rintro e w2 ⟨rfl, hr2, hg2⟩))
    go_ret
    have e : rs = ((true, []), []) := by rw [HS.out, if_neg (fun h => hle h.2)]
    rw [e]
    exact ⟨_, rfl, Own.nil_ _ _, hr2, hg1.trans hg2⟩

end Go.Proofs.Ytnejidaplbonoaa
