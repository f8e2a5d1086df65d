/-
  slices.Grow and slices.Concat over bytes, and package wire's Join, by contracts.
-/
import Derived.Test.YtnejidaplbonoaaBytes
import Derived.Deep.Onto
namespace Go.Proofs.Ytnejidaplbonoaa
open Go.RowKit
set_option linter.unusedVariables false
set_option linter.unusedSimpArgs false

theorem grow_nil (w : World) (n : Nat) (hn : n ≤ 140737488355328) : Calls Try.prog 56 #[.slice none 0 0, .int .i64 n] w fun e w' => ∃ v, e = .returned v ∧ Own w' w.heap.size v [] ∧ Below w.heap.size w w' := by
  have h5 : Try.t5.bytes = 1 := by kernel_rfl
  by_cases h0 : n = 0
  · subst h0
    go_enter Try.func56, Try.ntmps56
    go_wp2_with fail
    go_ret
    exact ⟨_, rfl, Own.nil_ _ _, Below.refl _ _⟩
  · have hp : 0 < n := by omega
    have hnc := nextslicecap_zero hp
    go_enter Try.func56, Try.ntmps56
    go_wp2_with fail
    go_ret
    have h1 := grownCap_ge w n 0 5
    have h2 := grownCap_le_maxLen w n 0 5 (by unfold maxLen; omega)
    refine ⟨_, rfl, ?_, ((Below.refl _ _).alloc (Nat.le_refl _) _).drew⟩
    show Own _ _ (.slice _ 0 (grownCap w n 0 5)) _
    refine ⟨by simp, .inr ⟨w.heap.size, grownCap w n 0 5, _, rfl, Nat.le_refl _, heap_alloc_new w _, Nat.zero_le _, h2, ?_, by simp⟩⟩
    rw [Array.size_append, size_zeroCells, size_zeroCells]
    show n * 1 + (grownCap w n 0 5 - n) * 1 = _
    omega

theorem concat_any (w : World) (q : Nat) (A : Option Addr) (n c : Nat) (L : List (List UInt8)) (hn : n = L.length) (hm : MemM w q A L) (hL : L.length ≤ 9223372036854775807) (hs : (L.map List.length).sum ≤ 140737488355328) :
    Calls Try.prog 48 #[.slice A n c] w fun e w' => ∃ v, e = .returned v ∧ Own w' w.heap.size v L.flatten ∧ Below w.heap.size w w' := by
  subst hn
  go_enter Try.func48, Try.ntmps48
  go_wp2_with fail
  go_loop [3, 11] (fun t i => ∃ j : Nat, j ≤ L.length ∧ i = .int .i64 j ∧ t = .int .i64 ((L.take j).map List.length).sum) (fun _ i => L.length - (intOf i).toNat)
  case atStart => exact ⟨0, Nat.zero_le _, rfl, by simp⟩
  case round =>
    obtain ⟨j, hj, rfl, rfl⟩ := hrel
    by_cases hlt : j < L.length
    · obtain ⟨o, A', q', c', rfl, hc, _, _⟩ := hm.at_ hlt
      have hle := sum_take_le L (j + 1)
      have hsu := sum_take_succ L j hlt
      generalize hS : ((L.take j).map List.length).sum = S at *
      generalize hS1 : ((L.take (j + 1)).map List.length).sum = S1 at *
      generalize hl : (L[j]'hlt) = lj at *
      have hb : S + lj.length ≤ 140737488355328 := by omega
      have HSU := Lib.hid hsu
      have HS := Lib.hid hS
      have HS1 := Lib.hid hS1
      have HL := Lib.hid hl
      clear hsu hS hS1 hl
      go_wp2
      go_round
      case rel => exact ⟨j + 1, by omega, by go_num, by rw [HS1.out, HSU.out]; go_num⟩
      case measure => simp [intOf]; omega
    · have e : L.take j = L := List.take_of_length_le (by omega)
      have hs' : ((L.take j).map List.length).sum ≤ 140737488355328 := by rw [e]; exact hs
      generalize ((L.take j).map List.length).sum = S at *
      have HE := Lib.hid e
      clear e
      go_wp2_with (first | (go_at_call 56; refine (grow_nil _ S hs').mono ?_; rintro e w1 ⟨v0, rfl, hown0, hb0⟩))
      obtain ⟨i0, hi0, hz0, hs0, hbb0⟩ := info_parts u8_info
      go_loopw [6, 27] (fun v i wr => ∃ j : Nat, j ≤ L.length ∧ i = .int .i64 j ∧ Own wr w.heap.size v (L.take j).flatten ∧ Below w.heap.size w wr) (fun _ i _ => L.length - (intOf i).toNat)
      case atStart => exact ⟨0, Nat.zero_le _, rfl, by simpa using hown0, hb0⟩
      case round =>
        obtain ⟨j, hj, rfl, hown, hbw⟩ := hrel
        by_cases hlt : j < L.length
        · obtain ⟨o, A', q', c', rfl, hc, hmj, _⟩ := (hm.below0 hbw).at_ hlt
          have hfl := flatten_take_succ L j hlt
          have hln := congrArg List.length hfl
          rw [List.length_append, flatten_len, flatten_len] at hln
          have hle := sum_take_le L (j + 1)
          have hb : (L.take j).flatten.length + (L[j]'hlt).length ≤ 140737488355328 := by rw [flatten_len]; omega
          generalize (L.take j).flatten = F at *
          generalize hl : (L[j]'hlt) = lj at *
          have HFL := Lib.hid hfl
          have HL := Lib.hid hl
          clear hfl hln hl hm
          go_wp2_with (first | (at_builtin; refine wpList_append_bytes rfl _ _ 28 rfl w.heap.size i0 Try.underlying28 hi0 hz0 hs0 hbb0 _ F rfl hown q' A' lj.length c' lj rfl rfl hmj hb hbw.size ?_; intro v1 w2 hown1 hg1))
          have hbw2 : Below w.heap.size w w2 := hbw.grown hg1 hbw.size (fun k hk => (World.ownsRow.lt hown k hk).1)
          go_wp2
          go_roundw
          case rel => exact ⟨j + 1, by omega, by go_num, by rw [HFL.out]; exact hown1, hbw2⟩
          case measure => simp [intOf]; omega
        · have e : L.take j = L := List.take_of_length_le (by omega)
          rw [e] at hown
          go_wp2
          go_ret
          exact ⟨_, rfl, hown, hbw⟩

theorem join_any (w : World) (q : Nat) (A : Option Addr) (n c : Nat) (L : List (List UInt8)) (hn : n = L.length) (hm : MemM w q A L) (hL : L.length ≤ 9223372036854775807) (hs : (L.map List.length).sum ≤ 140737488355328) :
    Calls Try.prog 29 #[.slice A n c] w fun e w' => ∃ v, e = .returned v ∧ Own w' w.heap.size v L.flatten ∧ Below w.heap.size w w' := by
  subst hn
  go_enter Try.func29, Try.ntmps29
  go_wp2_with (first | (go_at_call 48; refine (concat_any _ q A _ c L rfl hm hL hs).mono ?_; rintro e w1 ⟨v, rfl, hown, hb⟩))
  go_ret
  exact ⟨v, rfl, hown, hb⟩

end Go.Proofs.Ytnejidaplbonoaa
