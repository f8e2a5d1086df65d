/-
  Contracts of the functions of package tollref01: PutNumber, PutString, Join.
-/
import Derived.Test.YtocllhenifgkhaaRefsB
namespace Go.Proofs.Ytocllhenifgkhaa
open Go.RowKit
set_option linter.unusedVariables false

theorem div_step (x j : Nat) : x / 256 ^ j / 256 = x / 256 ^ (j + 1) := by rw [Nat.div_div_eq_div_mul, Nat.pow_succ]
theorem reput_ok (w : World) (k x : Nat) (h1 : 1 ≤ k) (h2 : k ≤ 8) (hx : x < 18446744073709551616) : Calls Try.prog 22 #[.int .i64 k, .int .u64 x] w fun e w' => ∃ v, e = .returned (.tuple #[v, .bool (rPut k x).2]) ∧ Own w' w.heap.size v (rPut k x).1 ∧ Below w.heap.size w w' := by
  obtain ⟨i0, hi0, hz0, hs0, hbb0⟩ := info_parts u8_info
  have hd1 : decide ((k : Int) < 1) = false := by simp; omega
  have hd2 : decide (8 < (k : Int)) = false := by simp; omega
  go_enter Try.func22, Try.ntmps22
  go_wp2_with fail
  go_loopw [1, 6, 7] (fun y v i wr => ∃ j : Nat, j ≤ k ∧ i = .int .i64 j ∧ y = .int .u64 ((x / 256 ^ j : Nat) : Int) ∧ Own wr w.heap.size v (beBytes j x) ∧ Below w.heap.size w wr) (fun _ _ i _ => k - (intOf i).toNat)
  case atStart => exact ⟨0, Nat.zero_le _, rfl, by simp, Own.nil_ _ _, Below.refl _ _⟩
  case round =>
    obtain ⟨j, hj, rfl, rfl, hown, hbw⟩ := hrel
    obtain ⟨A, q, c, rfl, hc, hcm, hm, _⟩ := hown.form
    have hlen := beBytes_len j x
    by_cases hlt : j < k
    · have hcons := beBytes_cons j x
      have hds := div_step x j
      generalize hX : x / 256 ^ j = X at *
      have hXlt : X < 18446744073709551616 := by rw [← hX]; exact Nat.lt_of_le_of_lt (Nat.div_le_self _ _) hx
      generalize hX1' : x / 256 ^ (j + 1) = X1 at *
      generalize hb : beBytes j x = bs at *
      generalize hb1' : beBytes (j + 1) x = bs1 at *
      have HC := Lib.hid hcons
      have HD := Lib.hid hds
      have hown0 : Own (wr.alloc (.cells #[.int .u8 ((X : Int) % 256)] 5)) w.heap.size (.slice (some ⟨wr.heap.size, 0, none⟩) 1 1) [UInt8.ofNat (X % 256)] := by
        have hbk : Blk (wr.alloc (.cells #[.int .u8 ((X : Int) % 256)] 5)) wr.heap.size 5 ([UInt8.ofNat (X % 256)].map bv).toArray := by
          have e : ([UInt8.ofNat (X % 256)].map bv).toArray = #[.int .u8 ((X : Int) % 256)] := by
            simp only [List.map_cons, List.map_nil, bv, ofNat_toNat, Int.natCast_emod]
            rfl
          rw [e]
          exact Blk.new _ _ _
        exact own_of_blk hbk hbw.size (by simp)
      have hm2 := hm.alloc (.cells #[.int .u8 ((X : Int) % 256)] 5)
      have hbx := hbw.alloc hbw.size (.cells #[.int .u8 ((X : Int) % 256)] 5)
      have HX1 := Lib.hid hX1'
      have HB1 := Lib.hid hb1'
      clear hcons hds hX hX1' hb hb1'
      go_wp2_with (first | (at_builtin; refine wpList_append_bytes rfl _ _ 22 rfl w.heap.size i0 Try.underlying22 hi0 hz0 hs0 hbb0 (.slice (some ⟨wr.heap.size, 0, none⟩) 1 1) [UInt8.ofNat (X % 256)] rfl hown0 q A _ c bs rfl rfl hm2 (by simp; omega) (by have := hbx.size; exact this) ?_; intro v1 w2 hown1 hg1))
      have hbw2 : Below w.heap.size w w2 := hbx.grown hg1 hbx.size (fun m hk => by have := hbw.size; simp [Value.ownBlock] at hk; omega)
      go_wp2
      go_roundw
      case rel => exact ⟨j + 1, by omega, by go_num, by rw [HX1.out, ← HD.out]; go_num, by rw [HB1.out, HC.out]; exact hown1, hbw2⟩
      case measure => simp [intOf]; omega
    · have e : j = k := by omega
      subst e
      by_cases hfit : x < 256 ^ j
      · have e : x / 256 ^ j = 0 := Nat.div_eq_of_lt hfit
        have er : rPut j x = (beBytes j x, true) := by unfold rPut; rw [if_pos ⟨by omega, by omega, by simpa using hfit⟩]; simp
        have HE := Lib.hid er
        clear er
        generalize x / 256 ^ j = X at *
        subst e
        go_wp2
        go_ret2
        rw [HE.out]
        exact ⟨_, rfl, hown, hbw⟩
      · have hp : 0 < 256 ^ j := Nat.pow_pos (by omega)
        have e : 1 ≤ x / 256 ^ j := (Nat.le_div_iff_mul_le hp).2 (by omega)
        have er : rPut j x = ([], false) := by
          unfold rPut
          rw [if_neg]
          rintro ⟨_, _, h⟩
          exact hfit (by simpa using h)
        have HE := Lib.hid er
        clear er
        generalize x / 256 ^ j = X at *
        go_wp2
        go_ret2
        rw [HE.out]
        exact ⟨_, rfl, Own.nil_ _ _, hbw⟩

theorem reput_any (w : World) (k : Int) (x : Nat) (hx : x < 18446744073709551616) : Calls Try.prog 22 #[.int .i64 k, .int .u64 x] w fun e w' => ∃ v, e = .returned (.tuple #[v, .bool (rPut k x).2]) ∧ Own w' w.heap.size v (rPut k x).1 ∧ Below w.heap.size w w' := by
  by_cases hk : 1 ≤ k ∧ k ≤ 8
  · obtain ⟨n, rfl⟩ := Int.eq_ofNat_of_zero_le (show 0 ≤ k by omega)
    exact reput_ok w n x (by omega) (by omega) hx
  · have er : rPut k x = ([], false) := by
      unfold rPut
      rw [if_neg]
      rintro ⟨h1, h2, _⟩
      exact hk ⟨h1, h2⟩
    rw [er]
    rcases (show k < 1 ∨ 8 < k by omega) with h | h
    · go_enter Try.func22, Try.ntmps22
      go_wp2_with fail
      go_ret2
      exact ⟨_, rfl, Own.nil_ _ _, Below.refl _ _⟩
    · have hd : decide (k < 1) = false := by simp; omega
      go_enter Try.func22, Try.ntmps22
      go_wp2_with fail
      go_ret2
      exact ⟨_, rfl, Own.nil_ _ _, Below.refl _ _⟩

theorem reputs_any (w : World) (k : Int) (q : Nat) (A : Option Addr) (n c : Nat) (b : List UInt8) (hn : n = b.length) (hm : Mem w q A b) (hb : b.length ≤ 140737488355320) :
    Calls Try.prog 23 #[.int .i64 k, .slice A n c] w fun e w' => ∃ v, e = .returned (.tuple #[v, .bool (rPutS k b).2]) ∧ Own w' w.heap.size v (rPutS k b).1 ∧ Below w.heap.size w w' := by
  subst hn
  obtain ⟨i0, hi0, hz0, hs0, hbb0⟩ := info_parts u8_info
  have hput := reput_any w k b.length (by omega)
  have hl8 : (rPut k b.length).1.length ≤ 8 := by
    unfold rPut
    split
    · rename_i h; rw [beBytes_len]; omega
    · simp
  have hw1 : IntKind.u64.wrap (b.length : Int) = (b.length : Int) := by { rw [IntKind.wrap_u64]; omega }
  unfold rPutS
  generalize rPut k b.length = r at *
  obtain ⟨hd, ok⟩ := r
  simp only at hput hl8 ⊢
  have HP := Lib.hid hput
  clear hput
  cases ok with
  | false =>
    go_enter Try.func23, Try.ntmps23
    go_wp2_with (first | (go_at_call 22; refine HP.out.mono ?_; rintro e w1 ⟨v, rfl, hown, hb1⟩; obtain ⟨A1, q1, c1, rfl, hc1, hcm1, hm1, _⟩ := hown.form))
    go_ret2
    exact ⟨_, rfl, Own.nil_ _ _, hb1⟩
  | true =>
    go_enter Try.func23, Try.ntmps23
    go_wp2_with (first | (go_at_call 22; refine HP.out.mono ?_; rintro e w1 ⟨v, rfl, hown, hb1⟩; have hmb := hm.below0 hb1; obtain ⟨A1, q1, c1, rfl, hc1, hcm1, hm1, _⟩ := hown.form) | (at_builtin; refine wpList_append_bytes rfl _ _ 22 rfl w.heap.size i0 Try.underlying22 hi0 hz0 hs0 hbb0 _ hd rfl hown q A _ c b rfl rfl hmb (by omega) hb1.size ?_; intro v1 w2 hown1 hg1))
    go_ret2
    exact ⟨v1, rfl, hown1, hb1.grown hg1 hb1.size (fun k hk => (World.ownsRow.lt hown k hk).1)⟩

theorem rejoin_any (w : World) (q : Nat) (A : Option Addr) (n c : Nat) (L : List (List UInt8)) (hn : n = L.length) (hm : MemM w q A L) (hL : L.length ≤ 9223372036854775807) (hs : (L.map List.length).sum ≤ 140737488355328) :
    Calls Try.prog 25 #[.slice A n c] w fun e w' => ∃ v, e = .returned v ∧ Own w' w.heap.size v L.flatten ∧ Below w.heap.size w w' := by
  subst hn
  obtain ⟨i0, hi0, hz0, hs0, hbb0⟩ := info_parts u8_info
  go_enter Try.func25, Try.ntmps25
  go_wp2_with fail
  go_loopw [3, 4] (fun v i wr => ∃ j : Nat, j ≤ L.length ∧ i = .int .i64 j ∧ Own wr w.heap.size v (L.take j).flatten ∧ Below w.heap.size w wr) (fun _ i _ => L.length - (intOf i).toNat)
  case atStart => exact ⟨0, Nat.zero_le _, rfl, by simpa using Own.nil_ _ _, Below.refl _ _⟩
  case round =>
    obtain ⟨j, hj, rfl, hown, hbw⟩ := hrel
    by_cases hlt : j < L.length
    · obtain ⟨o, A', q', c', rfl, hc, hmj⟩ := (hm.below0 hbw).at_ hlt
      have hfl := flatten_take_succ L j hlt
      have hln := congrArg List.length hfl
      rw [List.length_append, flatten_len, flatten_len] at hln
      have hle := sum_take_le L (j + 1)
      have hb : (L.take j).flatten.length + (L[j]'hlt).length ≤ 140737488355328 := by rw [flatten_len]; omega
      generalize (L.take j).flatten = F at *
      generalize hl : (L[j]'hlt) = lj at *
      have HFL := Lib.hid hfl
      have HL := Lib.hid hl
      clear hfl hln hl hm
      go_wp2_with (first | (at_builtin; refine wpList_append_bytes rfl _ _ 22 rfl w.heap.size i0 Try.underlying22 hi0 hz0 hs0 hbb0 _ F rfl hown q' A' lj.length c' lj rfl rfl hmj hb hbw.size ?_; intro v1 w2 hown1 hg1))
      have hbw2 : Below w.heap.size w w2 := hbw.grown hg1 hbw.size (fun k hk => (World.ownsRow.lt hown k hk).1)
      go_wp2
      go_roundw
      case rel => exact ⟨j + 1, by omega, by go_num, by rw [HFL.out]; exact hown1, hbw2⟩
      case measure => simp [intOf]; omega
    · have e : L.take j = L := List.take_of_length_le (by omega)
      rw [e] at hown
      go_wp2
      go_ret
      exact ⟨_, rfl, hown, hbw⟩

end Go.Proofs.Ytocllhenifgkhaa
