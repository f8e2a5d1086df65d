/-
  Contracts of New, Done, and of the writing functions of package wire.
-/
import Derived.Test.YtnejidaplbonoaaConcat
import Derived.Test.YtnejidaplbonoaaMath
import Derived.Deep.OwnRows
namespace Go.Proofs.Ytnejidaplbonoaa
open Go.RowKit
set_option linter.unusedVariables false

/-- A number in k bytes, or nothing if it does not fit. -/
def rPut (k : Int) (x : Nat) : List UInt8 × Bool := if 1 ≤ k ∧ k ≤ 8 ∧ x < 256 ^ k.toNat then (beBytes k.toNat x, true) else ([], false)

theorem putnum_ok (w : World) (k x : Nat) (h1 : 1 ≤ k) (h2 : k ≤ 8) (hx : x < 256 ^ k) : Calls Try.prog 28 #[.int .i64 k, .int .u64 x] w fun e w' => ∃ v, e = .returned (.tuple #[v, .bool true]) ∧ Own w' w.heap.size v (beBytes k x) ∧ Below w.heap.size w w' := by
  have hmk := run_make_row' (P := Try.prog) 28 5 (.int .u8 0) 1 Try.underlying28 u8_info rfl .i64 .i64 k (by omega) (by omega)
  have ht := fits_test k x hx
  have hx8 : x < 18446744073709551616 := by
    have h3 : 256 ^ k ≤ 256 ^ 8 := Nat.pow_le_pow_right (by omega) h2
    have h4 : (256 : Nat) ^ 8 = 18446744073709551616 := by decide
    omega
  have hst : Blk (w.alloc (.cells (madeCells #[.int .u8 0] k) 5)) w.heap.size 5 ((putRow k 0 x).map bv).toArray := by
    have e : ((putRow k 0 x).map bv).toArray = madeCells #[.int .u8 0] k := by
      rw [← Array.toList_inj, toList_madeCells_one]
      simp [putRow, beBytes, bv]
    rw [e]
    exact Blk.new _ _ _
  go_enter Try.func28, Try.ntmps28
  go_wp2_with (first | (go_at_call 47; refine (isWidth_yes k _ (by omega) (by omega)).mono ?_; rintro e w' ⟨rfl, rfl⟩))
  go_loopw [7, 22] (fun y i wr => ∃ j : Nat, j ≤ k ∧ i = .int .i64 j ∧ Blk wr w.heap.size 5 ((putRow k j x).map bv).toArray ∧ Below w.heap.size w wr) (fun _ i _ => k - (intOf i).toNat)
  case atStart => exact ⟨0, Nat.zero_le _, rfl, hst, (Below.refl _ _).alloc (Nat.le_refl _) _⟩
  case round =>
    obtain ⟨j, hj, rfl, hb, hbw⟩ := hrel
    by_cases hlt : j < k
    · have hc : wr.cell? ⟨w.heap.size, k - 1 - j, none⟩ = some (.int .u8 0) := by
        rw [hb.cell]
        have := putRow_get k j x (k - 1 - j) (by omega)
        simp [this, bv]
      have hf := hb.frozen (k - 1 - j)
      have hs : Blk (wr.setCell ⟨w.heap.size, k - 1 - j, none⟩ (.int .u8 ((x : Int) / 2 ^ (8 * j) % 256))) w.heap.size 5 ((putRow k (j + 1) x).map bv).toArray := by
        have h3 := hb.put (k - 1 - j) (bv (UInt8.ofNat (x / 256 ^ j % 256)))
        rw [← putRow_step k j x hlt, List.map_set, digit]
        simpa [bv] using h3
      have hbw2 : Below w.heap.size w (wr.setCell ⟨w.heap.size, k - 1 - j, none⟩ (.int .u8 ((x : Int) / 2 ^ (8 * j) % 256))) := hbw.setCell (p := ⟨w.heap.size, k - 1 - j, none⟩) (Nat.le_refl _) _
      clear hb hbw
      go_wp2
      go_roundw
      case rel => exact ⟨j + 1, by omega, by go_num, hs, hbw2⟩
      case measure => simp [intOf]; omega
    · go_wp2
      go_ret2
      have e : j = k := by omega
      subst e
      have e2 : putRow j j x = beBytes j x := by simp [putRow]
      rw [e2] at hb
      have := own_of_blk (B := w.heap.size) hb (Nat.le_refl _) (by rw [beBytes_len]; omega)
      rw [beBytes_len] at this
      exact ⟨_, rfl, this, hbw⟩
theorem putnum_no (w : World) (k : Int) (x : Nat) (hx : x < 18446744073709551616) (h : k < 1 ∨ 8 < k ∨ (1 ≤ k ∧ k ≤ 8 ∧ ¬ x < 256 ^ k.toNat)) : Calls Try.prog 28 #[.int .i64 k, .int .u64 x] w fun e w' => e = .returned (.tuple #[.slice none 0 0, .bool false]) ∧ w = w' := by
  by_cases hk : k < 1 ∨ 8 < k
  · go_enter Try.func28, Try.ntmps28
    go_wp2_with (first | (go_at_call 47; refine (isWidth_no k _ hk).mono ?_; rintro e w' ⟨rfl, rfl⟩))
    go_ret2
    exact ⟨rfl, rfl⟩
  · obtain ⟨n, rfl⟩ := Int.eq_ofNat_of_zero_le (show 0 ≤ k by omega)
    have hn1 : 1 ≤ n := by omega
    have hn8 : n ≤ 8 := by omega
    have hb : ¬ x < 256 ^ n := by
      rcases h with h | h | h
      · omega
      · omega
      · simpa using h.2.2
    have ht := fits_test_no n x hb
    clear h hk hb
    go_enter Try.func28, Try.ntmps28
    go_wp2_with (first | (go_at_call 47; refine (isWidth_yes n _ (by omega) (by omega)).mono ?_; rintro e w' ⟨rfl, rfl⟩))
    go_ret2
    exact ⟨rfl, rfl⟩
theorem putnum_any (w : World) (k : Int) (x : Nat) (hx : x < 18446744073709551616) : Calls Try.prog 28 #[.int .i64 k, .int .u64 x] w fun e w' => ∃ v, e = .returned (.tuple #[v, .bool (rPut k x).2]) ∧ Own w' w.heap.size v (rPut k x).1 ∧ Below w.heap.size w w' := by
  by_cases hk : 1 ≤ k ∧ k ≤ 8 ∧ x < 256 ^ k.toNat
  · have e : rPut k x = (beBytes k.toNat x, true) := by unfold rPut; rw [if_pos hk]
    rw [e]
    obtain ⟨n, rfl⟩ := Int.eq_ofNat_of_zero_le (show 0 ≤ k by omega)
    exact putnum_ok w n x (by omega) (by omega) (by simpa using hk.2.2)
  · have e : rPut k x = ([], false) := by unfold rPut; rw [if_neg hk]
    rw [e]
    refine (putnum_no w k x hx (by omega)).mono fun e w' ⟨he, hw⟩ => ?_
    subst hw
    exact ⟨_, he, Own.nil_ _ _, Below.refl _ _⟩

/-! ### Lists of byte slices, and their join -/
/-- A string with a length of k bytes, or nothing. -/
def rPutS (k : Int) (b : List UInt8) : List UInt8 × Bool := if (rPut k b.length).2 then ((rPut k b.length).1 ++ b, true) else ([], false)

theorem putstr_any (w : World) (k : Int) (q : Nat) (A : Option Addr) (n c : Nat) (b : List UInt8) (hn : n = b.length) (hm : Mem w q A b) (hb : b.length ≤ 140737488355320) (hcb : b.length ≤ c) :
    Calls Try.prog 27 #[.int .i64 k, .slice A n c] w fun e w' => ∃ v, e = .returned (.tuple #[v, .bool (rPutS k b).2]) ∧ Own w' w.heap.size v (rPutS k b).1 ∧ Below w.heap.size w w' := by
  subst hn
  have hput := putnum_any w k b.length (by omega)
  have hl8 : (rPut k b.length).1.length ≤ 8 := by
    unfold rPut
    split
    · rename_i h; rw [beBytes_len]; omega
    · simp
  unfold rPutS
  generalize rPut k b.length = r at *
  obtain ⟨hd, ok⟩ := r
  simp only at hput hl8 ⊢
  have HP := Lib.hid hput
  clear hput
  cases ok with
  | false =>
    go_enter Try.func27, Try.ntmps27
    go_wp2_with (first | (go_at_call 28; refine HP.out.mono ?_; rintro e w1 ⟨v, rfl, hown, hb1⟩; obtain ⟨A1, q1, c1, rfl, hc1, hcm1, hm1, _⟩ := hown.form))
    go_ret2
    exact ⟨_, rfl, Own.nil_ _ _, hb1⟩
  | true =>
    go_enter Try.func27, Try.ntmps27
    go_wp2_with (first | (go_at_call 28; refine HP.out.mono ?_; rintro e w1 ⟨v, rfl, hown, hb1⟩; obtain ⟨A1, q1, c1, rfl, hc1, hcm1, hm1, _⟩ := hown.form))
    have hb2 : Below w1.heap.size w1 (w1.alloc (.cells #[.slice A1 hd.length c1, .slice A b.length c] 28)) := (Below.refl _ _).alloc (Nat.le_refl _) _
    have hmm : MemM (w1.alloc (.cells #[.slice A1 hd.length c1, .slice A b.length c] 28)) w1.heap.size (some ⟨w1.heap.size, 0, none⟩) [hd, b] := by
      refine .inr ⟨0, rfl, fun j l hj => ?_⟩
      have hbk := Blk.new w1 28 #[.slice A1 hd.length c1, .slice A b.length c]
      match j, hj with
      | 0, hj =>
        simp only [List.getElem?_cons_zero, Option.some.injEq] at hj
        subst hj
        exact ⟨A1, q1, c1, by rw [hbk.cell]; rfl, hm1.alloc _, hc1⟩
      | 1, hj =>
        simp only [List.getElem?_cons_succ, List.getElem?_cons_zero, Option.some.injEq] at hj
        subst hj
        exact ⟨A, q, c, by rw [hbk.cell]; rfl, (hm.below0 hb1).alloc _, hcb⟩
    go_wp2_with (first | (go_at_call 29; refine (join_any _ w1.heap.size _ 2 2 [hd, b] rfl hmm (by simp) (by simp; omega)).mono ?_; rintro e w2 ⟨v2, rfl, hown2, hb3⟩))
    go_ret2
    have hbb : Below w.heap.size w w2 := (hb1.trans (hb2.mono hb1.size)).trans (hb3.mono (by have := hb1.size; simp; omega))
    refine ⟨v2, rfl, ?_, hbb⟩
    have e : hd ++ b = [hd, b].flatten := by simp
    rw [e]
    exact hown2.mono (by have := hb1.size; simp; omega)

theorem new_any (w : World) (q : Nat) (A : Option Addr) (n c : Nat) (l : List UInt8) (hn : n = l.length) (hm : Mem w q A l) (hl : l.length ≤ 140737488355328) :
    Calls Try.prog 15 #[.slice A n c] w fun e w' => ∃ g q', e = .returned (.pointer (some ⟨g, 0, none⟩)) ∧ Rd w' g q' false l ∧ w.heap.size ≤ g ∧ g < w'.heap.size ∧ (l = [] ∨ (w.heap.size ≤ q' ∧ q' < w'.heap.size)) ∧ Below w.heap.size w w' := by
  subst hn
  go_enter Try.func15, Try.ntmps15
  go_wp2_with (first | (go_at_call 34; refine (clone_any _ q A _ c l rfl hm hl).mono ?_; rintro e w1 ⟨v, rfl, hown, hb⟩; obtain ⟨A1, q1, c1, rfl, hc1, hcm1, hm1, hi1, _⟩ := hown.form))
  go_ret
  have hz := hb.size
  have hbk := Blk.new w1 57 #[.slice A1 l.length c1, .bool false]
  have hbw := hb.alloc (a := w) hz (.cells #[.slice A1 l.length c1, .bool false] 57)
  by_cases hne : l = []
  · subst hne
    exact ⟨w1.heap.size, w1.heap.size + 1, rfl, ⟨⟨A1, c1, hbk, Mem.nil_ _ _ _, hc1, hcm1⟩, by omega, hl⟩, hz, by simp, .inl rfl, hbw⟩
  · have hlt := hm1.lt hne
    exact ⟨w1.heap.size, q1, rfl, ⟨⟨A1, c1, hbk, hm1.alloc _, hc1, hcm1⟩, by omega, hl⟩, hz, by simp, .inr ⟨(hi1 hne).1, by simp; omega⟩, hbw⟩

theorem done_any (w : World) {g q : Nat} {bad : Bool} {l : List UInt8} (h : Rd w g q bad l) : Calls Try.prog 20 #[.pointer (some ⟨g, 0, none⟩)] w fun e w' => e = .returned (.bool (!bad && l.isEmpty)) ∧ w = w' := by
  cases bad with
  | true =>
    go_enter Try.func20, Try.ntmps20
    go_wp2_with (first | (go_at_call 37; refine (bad_any _ h).mono ?_; rintro e w' ⟨rfl, rfl⟩))
    go_ret
    exact ⟨rfl, rfl⟩
  | false =>
    cases l with
    | nil =>
      go_enter Try.func20, Try.ntmps20
      go_wp2_with (first | (go_at_call 37; refine (bad_any _ h).mono ?_; rintro e w' ⟨rfl, rfl⟩) | (go_at_call 23; refine (left_any _ h).mono ?_; rintro e w' ⟨rfl, rfl⟩))
      go_ret
      exact ⟨rfl, rfl⟩
    | cons b r =>
      have hz : (((b :: r).length : Int) == 0) = false := by simp; omega
      have HZ := hz
      simp only [List.length_cons] at HZ
      go_enter Try.func20, Try.ntmps20
      go_wp2_with (first | (go_at_call 37; refine (bad_any _ h).mono ?_; rintro e w' ⟨rfl, rfl⟩) | (go_at_call 23; refine (left_any _ h).mono ?_; rintro e w' ⟨rfl, rfl⟩))
      go_ret
      exact ⟨rfl, rfl⟩

/-! ### A nil reader -/
theorem next_nil (w : World) (k : Int) : Calls Try.prog 51 #[.pointer none, .int .i64 k] w fun e w' => e = .returned (.slice none 0 0) ∧ w = w' := by
  go_enter Try.func51, Try.ntmps51
  go_wp2_with (first | (go_at_call 37; refine (bad_nil _).mono ?_; rintro e w' ⟨rfl, rfl⟩) | (go_at_call 49; refine (fail_nil _).mono ?_; rintro e w' ⟨rfl, rfl⟩))
  go_ret
  exact ⟨rfl, rfl⟩
theorem take_nil (w : World) (k : Int) : Calls Try.prog 50 #[.pointer none, .int .i64 k] w fun e w' => ∃ v, e = .returned v ∧ Own w' w.heap.size v [] ∧ Below w.heap.size w w' := by
  go_enter Try.func50, Try.ntmps50
  go_wp2_with (first | (go_at_call 51; refine (next_nil _ k).mono ?_; rintro e w' ⟨rfl, rfl⟩) | (go_at_call 34; refine (clone_any _ 0 none 0 0 [] rfl (Mem.nil_ _ _ _) (by simp)).mono ?_; rintro e w1 ⟨v, rfl, hown, hb⟩))
  go_ret
  exact ⟨v, rfl, hown, hb⟩
theorem num_nil (w : World) (k : Int) (h1 : 1 ≤ k) (h2 : k ≤ 8) : Calls Try.prog 36 #[.pointer none, .int .i64 k] w fun e w' => e = .returned (.int .u64 0) ∧ w = w' := by
  go_enter Try.func36, Try.ntmps36
  go_wp2_with (first | (go_at_call 47; refine (isWidth_yes k _ h1 h2).mono ?_; rintro e w' ⟨rfl, rfl⟩) | (go_at_call 51; refine (next_nil _ k).mono ?_; rintro e w' ⟨rfl, rfl⟩))
  refine wp_loop_rounds 1 ?_
  rw [rounds_succ]
  go_wp2
  go_ret
  exact ⟨rfl, rfl⟩
theorem str_nil (w : World) (k : Int) (h1 : 1 ≤ k) (h2 : k ≤ 8) : Calls Try.prog 35 #[.pointer none, .int .i64 k] w fun e w' => ∃ v, e = .returned v ∧ Own w' w.heap.size v [] ∧ Below w.heap.size w w' := by
  go_enter Try.func35, Try.ntmps35
  go_wp2_with (first | (go_at_call 36; refine (num_nil _ k h1 h2).mono ?_; rintro e w' ⟨rfl, rfl⟩) | (go_at_call 23; refine (left_nil _).mono ?_; rintro e w' ⟨rfl, rfl⟩) | (go_at_call 50; refine (take_nil _ 0).mono ?_; rintro e w1 ⟨v, rfl, hown, hb⟩))
  go_ret
  exact ⟨v, rfl, hown, hb⟩
theorem done_nil (w : World) : Calls Try.prog 20 #[.pointer none] w fun e w' => e = .returned (.bool false) ∧ w = w' := by
  go_enter Try.func20, Try.ntmps20
  go_wp2_with (first | (go_at_call 37; refine (bad_nil _).mono ?_; rintro e w' ⟨rfl, rfl⟩))
  go_ret
  exact ⟨rfl, rfl⟩

end Go.Proofs.Ytnejidaplbonoaa
