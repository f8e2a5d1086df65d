/-
  Contracts of New, Done, and of the writing functions of package wire.
-/
import Derived.Test.YtocllhenifgkhaaMath
import Derived.Deep.OwnRows
namespace Go.Proofs.Ytocllhenifgkhaa
open Go.RowKit
set_option linter.unusedVariables false

/-- A number in k bytes, or nothing if it does not fit. -/
def rPut (k : Int) (x : Nat) : List UInt8 × Bool := if 1 ≤ k ∧ k ≤ 8 ∧ x < 256 ^ k.toNat then (beBytes k.toNat x, true) else ([], false)

theorem own_of_blk {w : World} {g B : Nat} {l : List UInt8} (h : Blk w g 5 (l.map bv).toArray) (hB : B ≤ g) (hl : l.length ≤ 140737488355328) : Own w B (.slice (some ⟨g, 0, none⟩) l.length l.length) l :=
  ⟨by simp, .inr ⟨g, l.length, _, rfl, hB, h, Nat.le_refl _, by unfold maxLen; omega, by simp, by rw [Nat.mul_one]; exact List.take_of_length_le (by simp)⟩⟩

theorem putnum_ok (w : World) (k x : Nat) (h1 : 1 ≤ k) (h2 : k ≤ 8) (hx : x < 256 ^ k) : Calls Try.prog 20 #[.int .i64 k, .int .u64 x] w fun e w' => ∃ v, e = .returned (.tuple #[v, .bool true]) ∧ Own w' w.heap.size v (beBytes k x) ∧ Below w.heap.size w w' := by
  have hmk := run_make_row' (P := Try.prog) 22 5 (.int .u8 0) 1 Try.underlying22 u8_info rfl .i64 .i64 k (by omega) (by omega)
  have ht := fits_test k x hx
  have hx8 : x < 18446744073709551616 := by
    have h3 : 256 ^ k ≤ 256 ^ 8 := Nat.pow_le_pow_right (by omega) h2
    have h4 : (256 : Nat) ^ 8 = 18446744073709551616 := by decide
    omega
  have hst : Blk (w.alloc (.cells (madeCells #[.int .u8 0] k) 5)) w.heap.size 5 ((putRow k 0 x).map bv).toArray := by
    have e : ((putRow k 0 x).map bv).toArray = madeCells #[.int .u8 0] k := by
      rw [← Array.toList_inj, toList_madeCells_one]
      simp [putRow, beBytes, bv]
    rw [e]
    exact Blk.new _ _ _
  go_enter Try.func20, Try.ntmps20
  go_wp2_with (first | (go_at_call 29; refine (isWidth_yes k _ (by omega) (by omega)).mono ?_; rintro e w' ⟨rfl, rfl⟩))
  go_loopw [7, 22] (fun y i wr => ∃ j : Nat, j ≤ k ∧ i = .int .i64 j ∧ Blk wr w.heap.size 5 ((putRow k j x).map bv).toArray ∧ Below w.heap.size w wr) (fun _ i _ => k - (intOf i).toNat)
  case atStart => exact ⟨0, Nat.zero_le _, rfl, hst, (Below.refl _ _).alloc (Nat.le_refl _) _⟩
  case round =>
    obtain ⟨j, hj, rfl, hb, hbw⟩ := hrel
    by_cases hlt : j < k
    · have hc : wr.cell? ⟨w.heap.size, k - 1 - j, none⟩ = some (.int .u8 0) := by
        rw [hb.cell]
        have := putRow_get k j x (k - 1 - j) (by omega)
        simp [this, bv]
      have hf := hb.frozen (k - 1 - j)
      have hs : Blk (wr.setCell ⟨w.heap.size, k - 1 - j, none⟩ (.int .u8 ((x : Int) / 2 ^ (8 * j) % 256))) w.heap.size 5 ((putRow k (j + 1) x).map bv).toArray := by
        have h3 := hb.put (k - 1 - j) (bv (UInt8.ofNat (x / 256 ^ j % 256)))
        rw [← putRow_step k j x hlt, List.map_set, digit]
        simpa [bv] using h3
      have hbw2 : Below w.heap.size w (wr.setCell ⟨w.heap.size, k - 1 - j, none⟩ (.int .u8 ((x : Int) / 2 ^ (8 * j) % 256))) := hbw.setCell (p := ⟨w.heap.size, k - 1 - j, none⟩) (Nat.le_refl _) _
      clear hb hbw
      go_wp2
      go_roundw
      case rel => exact ⟨j + 1, by omega, by go_num, hs, hbw2⟩
      case measure => simp [intOf]; omega
    · go_wp2
      go_ret2
      have e : j = k := by omega
      subst e
      have e2 : putRow j j x = beBytes j x := by simp [putRow]
      rw [e2] at hb
      have := own_of_blk (B := w.heap.size) hb (Nat.le_refl _) (by rw [beBytes_len]; omega)
      rw [beBytes_len] at this
      exact ⟨_, rfl, this, hbw⟩
theorem putnum_no (w : World) (k : Int) (x : Nat) (hx : x < 18446744073709551616) (h : k < 1 ∨ 8 < k ∨ (1 ≤ k ∧ k ≤ 8 ∧ ¬ x < 256 ^ k.toNat)) : Calls Try.prog 20 #[.int .i64 k, .int .u64 x] w fun e w' => e = .returned (.tuple #[.slice none 0 0, .bool false]) ∧ w = w' := by
  by_cases hk : k < 1 ∨ 8 < k
  · go_enter Try.func20, Try.ntmps20
    go_wp2_with (first | (go_at_call 29; refine (isWidth_no k _ hk).mono ?_; rintro e w' ⟨rfl, rfl⟩))
    go_ret2
    exact ⟨rfl, rfl⟩
  · obtain ⟨n, rfl⟩ := Int.eq_ofNat_of_zero_le (show 0 ≤ k by omega)
    have hn1 : 1 ≤ n := by omega
    have hn8 : n ≤ 8 := by omega
    have hb : ¬ x < 256 ^ n := by
      rcases h with h | h | h
      · omega
      · omega
      · simpa using h.2.2
    have ht := fits_test_no n x hb
    clear h hk hb
    go_enter Try.func20, Try.ntmps20
    go_wp2_with (first | (go_at_call 29; refine (isWidth_yes n _ (by omega) (by omega)).mono ?_; rintro e w' ⟨rfl, rfl⟩))
    go_ret2
    exact ⟨rfl, rfl⟩
theorem putnum_any (w : World) (k : Int) (x : Nat) (hx : x < 18446744073709551616) : Calls Try.prog 20 #[.int .i64 k, .int .u64 x] w fun e w' => ∃ v, e = .returned (.tuple #[v, .bool (rPut k x).2]) ∧ Own w' w.heap.size v (rPut k x).1 ∧ Below w.heap.size w w' := by
  by_cases hk : 1 ≤ k ∧ k ≤ 8 ∧ x < 256 ^ k.toNat
  · have e : rPut k x = (beBytes k.toNat x, true) := by unfold rPut; rw [if_pos hk]
    rw [e]
    obtain ⟨n, rfl⟩ := Int.eq_ofNat_of_zero_le (show 0 ≤ k by omega)
    exact putnum_ok w n x (by omega) (by omega) (by simpa using hk.2.2)
  · have e : rPut k x = ([], false) := by unfold rPut; rw [if_neg hk]
    rw [e]
    refine (putnum_no w k x hx (by omega)).mono fun e w' ⟨he, hw⟩ => ?_
    subst hw
    exact ⟨_, he, Own.nil_ _ _, Below.refl _ _⟩

/-! ### Lists of byte slices, and their join -/
/-- At address A (of block q) lie slices of bytes, which read as L. -/
def MemM (w : World) (q : Nat) (A : Option Addr) (L : List (List UInt8)) : Prop :=
  L = [] ∨ ∃ o, A = some ⟨q, o, none⟩ ∧ ∀ j l, L[j]? = some l → ∃ A' q' c', w.cell? ⟨q, o + j, none⟩ = some (.slice A' l.length c') ∧ Mem w q' A' l
theorem MemM.at_ {w : World} {q : Nat} {A : Option Addr} {L : List (List UInt8)} {j : Nat} (h : MemM w q A L) (hj : j < L.length) :
    ∃ o A' q' c', A = some ⟨q, o, none⟩ ∧ w.cell? ⟨q, o + j, none⟩ = some (.slice A' (L[j]'hj).length c') ∧ Mem w q' A' (L[j]'hj) := by
  rcases h with rfl | ⟨o, ho, hc⟩
  · simp at hj
  · obtain ⟨A', q', c', h1, h2⟩ := hc j _ (List.getElem?_eq_getElem hj)
    exact ⟨o, A', q', c', ho, h1, h2⟩
theorem MemM.below0 {w w' : World} {q : Nat} {A : Option Addr} {L : List (List UInt8)} (h : MemM w q A L) (hb : Below w.heap.size w w') : MemM w' q A L := by
  rcases h with rfl | ⟨o, ho, hc⟩
  · exact .inl rfl
  · refine .inr ⟨o, ho, fun j l hj => ?_⟩
    obtain ⟨A', q', c', h1, h2⟩ := hc j l hj
    exact ⟨A', q', c', (hb.cell (p := ⟨q, o + j, none⟩) (World.block_lt_of_cell? w _ h1)).trans h1, h2.below0 hb⟩

theorem own_head {w : World} {B : Nat} {A : Option Addr} {n c : Nat} {l : List UInt8} (h : Own w B (.slice A n c) l) : Own w B (.slice A 0 c) [] := by
  obtain ⟨h1, h2⟩ := h
  rcases h2 with ⟨hv, hn⟩ | ⟨g, cap, cur, hv, hg, hh, hnc, hcm, hsz, ht⟩
  · injection hv with e1 e2 e3
    subst e1 e3
    exact Own.nil_ _ _
  · injection hv with e1 e2 e3
    subst e1 e3
    exact ⟨by simp, .inr ⟨g, _, cur, rfl, hg, hh, Nat.zero_le _, hcm, hsz, by simp⟩⟩

theorem grow_nil (w : World) (n : Nat) (hn : n ≤ 140737488355328) : Calls Try.prog 32 #[.slice none 0 0, .int .i64 n] w fun e w' => ∃ v, e = .returned v ∧ Own w' w.heap.size v [] ∧ Below w.heap.size w w' := by
  have h5 : Try.t5.bytes = 1 := by kernel_rfl
  by_cases h0 : n = 0
  · subst h0
    go_enter Try.func32, Try.ntmps32
    go_wp2_with fail
    go_ret
    exact ⟨_, rfl, Own.nil_ _ _, Below.refl _ _⟩
  · have hp : 0 < n := by omega
    have hnc := nextslicecap_zero hp
    go_enter Try.func32, Try.ntmps32
    go_wp2_with fail
    go_ret
    have h1 := grownCap_ge w n 0 5
    have h2 := grownCap_le_maxLen w n 0 5 (by unfold maxLen; omega)
    refine ⟨_, rfl, ?_, ((Below.refl _ _).alloc (Nat.le_refl _) _).drew⟩
    show Own _ _ (.slice _ 0 (grownCap w n 0 5)) _
    refine ⟨by simp, .inr ⟨w.heap.size, grownCap w n 0 5, _, rfl, Nat.le_refl _, heap_alloc_new w _, Nat.zero_le _, h2, ?_, by simp⟩⟩
    rw [Array.size_append, size_zeroCells, size_zeroCells]
    show n * 1 + (grownCap w n 0 5 - n) * 1 = _
    omega

theorem sum_take_le (L : List (List UInt8)) (j : Nat) : ((L.take j).map List.length).sum ≤ (L.map List.length).sum := by
  have h : L.map List.length = (L.take j).map List.length ++ (L.drop j).map List.length := by rw [← List.map_append, List.take_append_drop]
  rw [h, List.sum_append]
  omega
theorem sum_take_succ (L : List (List UInt8)) (j : Nat) (h : j < L.length) : ((L.take (j + 1)).map List.length).sum = ((L.take j).map List.length).sum + (L[j]'h).length := by
  rw [List.take_succ_eq_append_getElem h, List.map_append, List.sum_append, List.map_singleton, List.sum_singleton]
theorem flatten_take_succ (L : List (List UInt8)) (j : Nat) (h : j < L.length) : (L.take (j + 1)).flatten = (L.take j).flatten ++ L[j]'h := by
  rw [List.take_succ_eq_append_getElem h, List.flatten_append, List.flatten_singleton]
theorem flatten_len (L : List (List UInt8)) : L.flatten.length = (L.map List.length).sum := by
  rw [List.length_flatten]

theorem concat_any (w : World) (q : Nat) (A : Option Addr) (n c : Nat) (L : List (List UInt8)) (hn : n = L.length) (hm : MemM w q A L) (hL : L.length ≤ 9223372036854775807) (hs : (L.map List.length).sum ≤ 140737488355328) :
    Calls Try.prog 31 #[.slice A n c] w fun e w' => ∃ v, e = .returned v ∧ Own w' w.heap.size v L.flatten ∧ Below w.heap.size w w' := by
  subst hn
  go_enter Try.func31, Try.ntmps31
  go_wp2_with fail
  go_loop [3, 11] (fun t i => ∃ j : Nat, j ≤ L.length ∧ i = .int .i64 j ∧ t = .int .i64 ((L.take j).map List.length).sum) (fun _ i => L.length - (intOf i).toNat)
  case atStart => exact ⟨0, Nat.zero_le _, rfl, by simp⟩
  case round =>
    obtain ⟨j, hj, rfl, rfl⟩ := hrel
    by_cases hlt : j < L.length
    · obtain ⟨o, A', q', c', rfl, hc, _⟩ := hm.at_ hlt
      have hle := sum_take_le L (j + 1)
      have hsu := sum_take_succ L j hlt
      generalize hS : ((L.take j).map List.length).sum = S at *
      generalize hS1 : ((L.take (j + 1)).map List.length).sum = S1 at *
      generalize hl : (L[j]'hlt) = lj at *
      have hb : S + lj.length ≤ 140737488355328 := by omega
      have HSU := Lib.hid hsu
      have HS := Lib.hid hS
      have HS1 := Lib.hid hS1
      have HL := Lib.hid hl
      clear hsu hS hS1 hl
      go_wp2
      go_round
      case rel => exact ⟨j + 1, by omega, by go_num, by rw [HS1.out, HSU.out]; go_num⟩
      case measure => simp [intOf]; omega
    · have e : L.take j = L := List.take_of_length_le (by omega)
      have hs' : ((L.take j).map List.length).sum ≤ 140737488355328 := by rw [e]; exact hs
      generalize ((L.take j).map List.length).sum = S at *
      have HE := Lib.hid e
      clear e
      go_wp2_with (first | (go_at_call 32; refine (grow_nil _ S hs').mono ?_; rintro e w1 ⟨v0, rfl, hown0, hb0⟩))
      obtain ⟨i0, hi0, hz0, hs0, hbb0⟩ := info_parts u8_info
      go_loopw [6, 27] (fun v i wr => ∃ j : Nat, j ≤ L.length ∧ i = .int .i64 j ∧ Own wr w.heap.size v (L.take j).flatten ∧ Below w.heap.size w wr) (fun _ i _ => L.length - (intOf i).toNat)
      case atStart => exact ⟨0, Nat.zero_le _, rfl, by simpa using hown0, hb0⟩
      case round =>
        obtain ⟨j, hj, rfl, hown, hbw⟩ := hrel
        by_cases hlt : j < L.length
        · obtain ⟨o, A', q', c', rfl, hc, hmj⟩ := (hm.below0 hbw).at_ hlt
          have hfl := flatten_take_succ L j hlt
          have hln := congrArg List.length hfl
          rw [List.length_append, flatten_len, flatten_len] at hln
          have hle := sum_take_le L (j + 1)
          have hb : (L.take j).flatten.length + (L[j]'hlt).length ≤ 140737488355328 := by rw [flatten_len]; omega
          generalize (L.take j).flatten = F at *
          generalize hl : (L[j]'hlt) = lj at *
          have HFL := Lib.hid hfl
          have HL := Lib.hid hl
          clear hfl hln hl hm
          go_wp2_with (first | (at_builtin; refine wpList_append_bytes rfl _ _ 22 rfl w.heap.size i0 Try.underlying22 hi0 hz0 hs0 hbb0 _ F rfl hown q' A' lj.length c' lj rfl rfl hmj hb hbw.size ?_; intro v1 w2 hown1 hg1))
          have hbw2 : Below w.heap.size w w2 := hbw.grown hg1 hbw.size (fun k hk => (World.ownsRow.lt hown k hk).1)
          go_wp2
          go_roundw
          case rel => exact ⟨j + 1, by omega, by go_num, by rw [HFL.out]; exact hown1, hbw2⟩
          case measure => simp [intOf]; omega
        · have e : L.take j = L := List.take_of_length_le (by omega)
          rw [e] at hown
          go_wp2
          go_ret
          exact ⟨_, rfl, hown, hbw⟩

theorem join_any (w : World) (q : Nat) (A : Option Addr) (n c : Nat) (L : List (List UInt8)) (hn : n = L.length) (hm : MemM w q A L) (hL : L.length ≤ 9223372036854775807) (hs : (L.map List.length).sum ≤ 140737488355328) :
    Calls Try.prog 24 #[.slice A n c] w fun e w' => ∃ v, e = .returned v ∧ Own w' w.heap.size v L.flatten ∧ Below w.heap.size w w' := by
  subst hn
  go_enter Try.func24, Try.ntmps24
  go_wp2_with (first | (go_at_call 31; refine (concat_any _ q A _ c L rfl hm hL hs).mono ?_; rintro e w1 ⟨v, rfl, hown, hb⟩))
  go_ret
  exact ⟨v, rfl, hown, hb⟩

/-- A string with a length of k bytes, or nothing. -/
def rPutS (k : Int) (b : List UInt8) : List UInt8 × Bool := if (rPut k b.length).2 then ((rPut k b.length).1 ++ b, true) else ([], false)

theorem putstr_any (w : World) (k : Int) (q : Nat) (A : Option Addr) (n c : Nat) (b : List UInt8) (hn : n = b.length) (hm : Mem w q A b) (hb : b.length ≤ 140737488355320) :
    Calls Try.prog 21 #[.int .i64 k, .slice A n c] w fun e w' => ∃ v, e = .returned (.tuple #[v, .bool (rPutS k b).2]) ∧ Own w' w.heap.size v (rPutS k b).1 ∧ Below w.heap.size w w' := by
  subst hn
  have hput := putnum_any w k b.length (by omega)
  have hl8 : (rPut k b.length).1.length ≤ 8 := by
    unfold rPut
    split
    · rename_i h; rw [beBytes_len]; omega
    · simp
  unfold rPutS
  generalize rPut k b.length = r at *
  obtain ⟨hd, ok⟩ := r
  simp only at hput hl8 ⊢
  have HP := Lib.hid hput
  clear hput
  cases ok with
  | false =>
    go_enter Try.func21, Try.ntmps21
    go_wp2_with (first | (go_at_call 20; refine HP.out.mono ?_; rintro e w1 ⟨v, rfl, hown, hb1⟩; obtain ⟨A1, q1, c1, rfl, hc1, hcm1, hm1, _⟩ := hown.form))
    go_ret2
    exact ⟨_, rfl, Own.nil_ _ _, hb1⟩
  | true =>
    go_enter Try.func21, Try.ntmps21
    go_wp2_with (first | (go_at_call 20; refine HP.out.mono ?_; rintro e w1 ⟨v, rfl, hown, hb1⟩; obtain ⟨A1, q1, c1, rfl, hc1, hcm1, hm1, _⟩ := hown.form))
    have hb2 : Below w1.heap.size w1 (w1.alloc (.cells #[.slice A1 hd.length c1, .slice A b.length c] 22)) := (Below.refl _ _).alloc (Nat.le_refl _) _
    have hmm : MemM (w1.alloc (.cells #[.slice A1 hd.length c1, .slice A b.length c] 22)) w1.heap.size (some ⟨w1.heap.size, 0, none⟩) [hd, b] := by
      refine .inr ⟨0, rfl, fun j l hj => ?_⟩
      have hbk := Blk.new w1 22 #[.slice A1 hd.length c1, .slice A b.length c]
      match j, hj with
      | 0, hj =>
        simp only [List.getElem?_cons_zero, Option.some.injEq] at hj
        subst hj
        exact ⟨A1, q1, c1, by rw [hbk.cell]; rfl, hm1.alloc _⟩
      | 1, hj =>
        simp only [List.getElem?_cons_succ, List.getElem?_cons_zero, Option.some.injEq] at hj
        subst hj
        exact ⟨A, q, c, by rw [hbk.cell]; rfl, (hm.below0 hb1).alloc _⟩
    go_wp2_with (first | (go_at_call 24; refine (join_any _ w1.heap.size _ 2 2 [hd, b] rfl hmm (by simp) (by simp; omega)).mono ?_; rintro e w2 ⟨v2, rfl, hown2, hb3⟩))
    go_ret2
    have hbb : Below w.heap.size w w2 := (hb1.trans (hb2.mono hb1.size)).trans (hb3.mono (by have := hb1.size; simp; omega))
    refine ⟨v2, rfl, ?_, hbb⟩
    have e : hd ++ b = [hd, b].flatten := by simp
    rw [e]
    exact hown2.mono (by have := hb1.size; simp; omega)

theorem new_any (w : World) (q : Nat) (A : Option Addr) (n c : Nat) (l : List UInt8) (hn : n = l.length) (hm : Mem w q A l) (hl : l.length ≤ 140737488355328) :
    Calls Try.prog 9 #[.slice A n c] w fun e w' => ∃ g q', e = .returned (.pointer (some ⟨g, 0, none⟩)) ∧ Rd w' g q' false l ∧ w.heap.size ≤ g ∧ g < w'.heap.size ∧ (l = [] ∨ (w.heap.size ≤ q' ∧ q' < w'.heap.size)) ∧ Below w.heap.size w w' := by
  subst hn
  go_enter Try.func9, Try.ntmps9
  go_wp2_with (first | (go_at_call 26; refine (clone_any _ q A _ c l rfl hm hl).mono ?_; rintro e w1 ⟨v, rfl, hown, hb⟩; obtain ⟨A1, q1, c1, rfl, hc1, hcm1, hm1, hi1, _⟩ := hown.form))
  go_ret
  have hz := hb.size
  have hbk := Blk.new w1 53 #[.slice A1 l.length c1, .bool false]
  have hbw := hb.alloc (a := w) hz (.cells #[.slice A1 l.length c1, .bool false] 53)
  by_cases hne : l = []
  · subst hne
    exact ⟨w1.heap.size, w1.heap.size + 1, rfl, ⟨⟨A1, c1, hbk, Mem.nil_ _ _ _, hc1, hcm1⟩, by omega, hl⟩, hz, by simp, .inl rfl, hbw⟩
  · have hlt := hm1.lt hne
    exact ⟨w1.heap.size, q1, rfl, ⟨⟨A1, c1, hbk, hm1.alloc _, hc1, hcm1⟩, by omega, hl⟩, hz, by simp, .inr ⟨(hi1 hne).1, by simp; omega⟩, hbw⟩

theorem done_any (w : World) {g q : Nat} {bad : Bool} {l : List UInt8} (h : Rd w g q bad l) : Calls Try.prog 19 #[.pointer (some ⟨g, 0, none⟩)] w fun e w' => e = .returned (.bool (!bad && l.isEmpty)) ∧ w = w' := by
  cases bad with
  | true =>
    go_enter Try.func19, Try.ntmps19
    go_wp2_with (first | (go_at_call 17; refine (bad_any _ h).mono ?_; rintro e w' ⟨rfl, rfl⟩))
    go_ret
    exact ⟨rfl, rfl⟩
  | false =>
    cases l with
    | nil =>
      go_enter Try.func19, Try.ntmps19
      go_wp2_with (first | (go_at_call 17; refine (bad_any _ h).mono ?_; rintro e w' ⟨rfl, rfl⟩) | (go_at_call 18; refine (left_any _ h).mono ?_; rintro e w' ⟨rfl, rfl⟩))
      go_ret
      exact ⟨rfl, rfl⟩
    | cons b r =>
      have hz : (((b :: r).length : Int) == 0) = false := by simp; omega
      have HZ := hz
      simp only [List.length_cons] at HZ
      go_enter Try.func19, Try.ntmps19
      go_wp2_with (first | (go_at_call 17; refine (bad_any _ h).mono ?_; rintro e w' ⟨rfl, rfl⟩) | (go_at_call 18; refine (left_any _ h).mono ?_; rintro e w' ⟨rfl, rfl⟩))
      go_ret
      exact ⟨rfl, rfl⟩

/-! ### A nil reader -/
theorem next_nil (w : World) (k : Int) : Calls Try.prog 27 #[.pointer none, .int .i64 k] w fun e w' => e = .returned (.slice none 0 0) ∧ w = w' := by
  go_enter Try.func27, Try.ntmps27
  go_wp2_with (first | (go_at_call 17; refine (bad_nil _).mono ?_; rintro e w' ⟨rfl, rfl⟩) | (go_at_call 30; refine (fail_nil _).mono ?_; rintro e w' ⟨rfl, rfl⟩))
  go_ret
  exact ⟨rfl, rfl⟩
theorem take_nil (w : World) (k : Int) : Calls Try.prog 10 #[.pointer none, .int .i64 k] w fun e w' => ∃ v, e = .returned v ∧ Own w' w.heap.size v [] ∧ Below w.heap.size w w' := by
  go_enter Try.func10, Try.ntmps10
  go_wp2_with (first | (go_at_call 27; refine (next_nil _ k).mono ?_; rintro e w' ⟨rfl, rfl⟩) | (go_at_call 26; refine (clone_any _ 0 none 0 0 [] rfl (Mem.nil_ _ _ _) (by simp)).mono ?_; rintro e w1 ⟨v, rfl, hown, hb⟩))
  go_ret
  exact ⟨v, rfl, hown, hb⟩
theorem num_nil (w : World) (k : Int) (h1 : 1 ≤ k) (h2 : k ≤ 8) : Calls Try.prog 12 #[.pointer none, .int .i64 k] w fun e w' => e = .returned (.int .u64 0) ∧ w = w' := by
  go_enter Try.func12, Try.ntmps12
  go_wp2_with (first | (go_at_call 29; refine (isWidth_yes k _ h1 h2).mono ?_; rintro e w' ⟨rfl, rfl⟩) | (go_at_call 27; refine (next_nil _ k).mono ?_; rintro e w' ⟨rfl, rfl⟩))
  refine wp_loop_rounds 1 ?_
  rw [rounds_succ]
  go_wp2
  go_ret
  exact ⟨rfl, rfl⟩
theorem str_nil (w : World) (k : Int) (h1 : 1 ≤ k) (h2 : k ≤ 8) : Calls Try.prog 14 #[.pointer none, .int .i64 k] w fun e w' => ∃ v, e = .returned v ∧ Own w' w.heap.size v [] ∧ Below w.heap.size w w' := by
  go_enter Try.func14, Try.ntmps14
  go_wp2_with (first | (go_at_call 12; refine (num_nil _ k h1 h2).mono ?_; rintro e w' ⟨rfl, rfl⟩) | (go_at_call 18; refine (left_nil _).mono ?_; rintro e w' ⟨rfl, rfl⟩) | (go_at_call 10; refine (take_nil _ 0).mono ?_; rintro e w1 ⟨v, rfl, hown, hb⟩))
  go_ret
  exact ⟨v, rfl, hown, hb⟩
theorem done_nil (w : World) : Calls Try.prog 19 #[.pointer none] w fun e w' => e = .returned (.bool false) ∧ w = w' := by
  go_enter Try.func19, Try.ntmps19
  go_wp2_with (first | (go_at_call 17; refine (bad_nil _).mono ?_; rintro e w' ⟨rfl, rfl⟩))
  go_ret
  exact ⟨rfl, rfl⟩

end Go.Proofs.Ytocllhenifgkhaa
