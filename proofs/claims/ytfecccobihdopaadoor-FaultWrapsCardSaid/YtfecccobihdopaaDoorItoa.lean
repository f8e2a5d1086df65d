/-
  The text of a code, whatever the library's table of powers of ten holds: the decimal text of an integer as a function of the table and the integer alone.
-/
import Derived.Test.YtfecccobihdopaaDoorWords
import Derived.Lib.Walk
import Derived.Lib.Hide
import Derived.Deep.Draws
import Derived.Lib.ItoaNum
import Derived.IntWalk
import Derived.Lib.BitFns
import Derived.Lib.Small
import Derived.Lib.Slices
import Derived.Lib.Strings
namespace Go.Proofs.YtfecccobihdopaaDoor
open Go.RowKit Go.Lib
set_option linter.unusedVariables false

theorem ret_i {k : IntKind} {a b : Int} (h : a = b) : Ending.returned (.int k a) = .returned (.int k b) := by rw [h]
/-- The number of bits of a number: some number up to 64, the same in every world. -/
def LenIs (u L : Nat) : Prop := L ≤ 64 ∧ ∀ w : World, Calls Tryd.prog 52 #[.int .u64 u] w fun e w' => e = .returned (.int .i64 L) ∧ w = w'
theorem wrap64_id (n : Int) (h : -9223372036854775808 ≤ n ∧ n ≤ 9223372036854775807) : wrap64 n = n := by unfold wrap64; omega
theorem len8_get (i : Int) (h : i.toNat < len8tab.size) : (((len8tab[i.toNat]'h).toNat : Nat) : Int) = len8 i := by
  simp only [len8, ByteArray.getElem?_lt' _ _ h, Option.getD_some]
set_option maxHeartbeats 4000000 in
set_option maxRecDepth 100000 in
theorem len_any (x : Int) (w : World) (h0 : 0 ≤ x) (h1 : x ≤ 18446744073709551615) :
    Calls Tryd.prog 52 #[.int .u64 x] w fun e w' => e = .returned (.int .i64 (Lib.bitLen x.toNat)) ∧ w = w' := by
  go_enter Tryd.func52, Tryd.ntmps52
  go_wp2
  all_goals have hz := len8tab_size
  all_goals first
    | (exfalso; omega)
    | (go_ret; refine ⟨ret_i ?_, rfl⟩)
  all_goals first
    | (rw [len8_get (x / 4294967296 / 65536 / 256) (by omega), Lib.len8_of (x / 4294967296 / 65536 / 256) (by omega) (by omega)]
       have e : (x / 4294967296 / 65536 / 256).toNat = x.toNat / 72057594037927936 := by omega
       have l := Lib.bitLen_le8' (x / 4294967296 / 65536 / 256) (by omega) (by omega)
       have s := Lib.bitLen_shift56 x.toNat (by omega) (by omega)
       rw [e] at l ⊢
       clear e
       rw [wrap64_id (Lib.bitLen _ : Int) (by omega), wrap64_id _ (by omega)]
       omega)
    | (rw [len8_get (x / 4294967296 / 65536) (by omega), Lib.len8_of (x / 4294967296 / 65536) (by omega) (by omega)]
       have e : (x / 4294967296 / 65536).toNat = x.toNat / 281474976710656 := by omega
       have l := Lib.bitLen_le8' (x / 4294967296 / 65536) (by omega) (by omega)
       have s := Lib.bitLen_shift48 x.toNat (by omega) (by omega)
       rw [e] at l ⊢
       clear e
       rw [wrap64_id (Lib.bitLen _ : Int) (by omega), wrap64_id _ (by omega)]
       omega)
    | (rw [len8_get (x / 4294967296 / 256) (by omega), Lib.len8_of (x / 4294967296 / 256) (by omega) (by omega)]
       have e : (x / 4294967296 / 256).toNat = x.toNat / 1099511627776 := by omega
       have l := Lib.bitLen_le8' (x / 4294967296 / 256) (by omega) (by omega)
       have s := Lib.bitLen_shift40 x.toNat (by omega) (by omega)
       rw [e] at l ⊢
       clear e
       rw [wrap64_id (Lib.bitLen _ : Int) (by omega), wrap64_id _ (by omega)]
       omega)
    | (rw [len8_get (x / 4294967296) (by omega), Lib.len8_of (x / 4294967296) (by omega) (by omega)]
       have e : (x / 4294967296).toNat = x.toNat / 4294967296 := by omega
       have l := Lib.bitLen_le8' (x / 4294967296) (by omega) (by omega)
       have s := Lib.bitLen_shift32 x.toNat (by omega) (by omega)
       rw [e] at l ⊢
       clear e
       rw [wrap64_id (Lib.bitLen _ : Int) (by omega), wrap64_id _ (by omega)]
       omega)
    | (rw [len8_get (x / 65536 / 256) (by omega), Lib.len8_of (x / 65536 / 256) (by omega) (by omega)]
       have e : (x / 65536 / 256).toNat = x.toNat / 16777216 := by omega
       have l := Lib.bitLen_le8' (x / 65536 / 256) (by omega) (by omega)
       have s := Lib.bitLen_shift24 x.toNat (by omega) (by omega)
       rw [e] at l ⊢
       clear e
       rw [wrap64_id (Lib.bitLen _ : Int) (by omega), wrap64_id _ (by omega)]
       omega)
    | (rw [len8_get (x / 65536) (by omega), Lib.len8_of (x / 65536) (by omega) (by omega)]
       have e : (x / 65536).toNat = x.toNat / 65536 := by omega
       have l := Lib.bitLen_le8' (x / 65536) (by omega) (by omega)
       have s := Lib.bitLen_shift16 x.toNat (by omega) (by omega)
       rw [e] at l ⊢
       clear e
       rw [wrap64_id (Lib.bitLen _ : Int) (by omega), wrap64_id _ (by omega)]
       omega)
    | (rw [len8_get (x / 256) (by omega), Lib.len8_of (x / 256) (by omega) (by omega)]
       have e : (x / 256).toNat = x.toNat / 256 := by omega
       have l := Lib.bitLen_le8' (x / 256) (by omega) (by omega)
       have s := Lib.bitLen_shift8 x.toNat (by omega) (by omega)
       rw [e] at l ⊢
       clear e
       rw [wrap64_id (Lib.bitLen _ : Int) (by omega), wrap64_id _ (by omega)]
       omega)
    | (rw [len8_get x (by omega), Lib.len8_of x (by omega) (by omega)]
       have l := Lib.bitLen_le8' x (by omega) (by omega)
       rw [wrap64_id (Lib.bitLen _ : Int) (by omega), wrap64_id _ (by omega)])
theorem len_ex (u : Nat) (hu : u < 18446744073709551616) : ∃ L, LenIs u L :=
  ⟨Lib.bitLen u, Lib.bitLen_le u 64 (Nat.le_refl _) hu, fun w => by
    have h := len_any u w (by omega) (by omega)
    rw [show ((u : Int)).toNat = u by omega] at h
    exact h⟩
theorem log_any (x : Nat) (w : World) (h : x ≤ 64) : Calls Tryd.prog 51 #[.int .i64 x] w fun e w' => e = .returned (.int .i64 ((x * 78913 / 262144 : Nat) : Int)) ∧ w = w' := by
  go_enter Tryd.func51, Tryd.ntmps51
  go_wp2
  go_ret
  exact ⟨ret_i (by omega), rfl⟩
theorem bool2_any (b : Bool) (w : World) : Calls Tryd.prog 53 #[.bool b] w fun e w' => e = .returned (.int .i64 (if b then 1 else 0)) ∧ w = w' := by
  cases b <;> (
    go_enter Tryd.func53, Tryd.ntmps53
    go_wp2
    go_ret
    exact ⟨rfl, rfl⟩)
/-- The table of powers of ten holds T. -/
def TabAt (T : Nat → Int) (w : World) : Prop := ∀ k, k < 20 → w.cell? ⟨2, k, none⟩ = some (.int .u64 (T k))
theorem TabAt.lt {T : Nat → Int} {w : World} (h : TabAt T w) : 2 < w.heap.size := World.block_lt_of_cell? w ⟨2, 0, none⟩ (h 0 (by omega))
theorem TabAt.below {T : Nat → Int} {w w' : World} (h : TabAt T w) (hb : Below w.heap.size w w') : TabAt T w' := fun k hk => (hb.cell (p := ⟨2, k, none⟩) h.lt).trans (h k hk)
/-- The number of places that the library takes for a number. -/
def NumIs (T : Nat → Int) (u N : Nat) : Prop := N ≤ 20 ∧ ∀ w : World, TabAt T w → Calls Tryd.prog 48 #[.int .u64 u] w fun e w' => e = .returned (.int .i64 N) ∧ w = w'
theorem num_ex (T : Nat → Int) (u : Nat) (hu : u < 18446744073709551616) : ∃ N, NumIs T u N := by
  obtain ⟨L, hL, hc⟩ := len_ex u hu
  have h19 : L * 78913 / 262144 ≤ 19 := by omega
  obtain ⟨q, hq⟩ : ∃ q, q = L * 78913 / 262144 := ⟨_, rfl⟩
  rw [← hq] at h19
  have HQ := Lib.hid hq
  have HC := Lib.hid hc
  clear hq hc
  by_cases hd : T q ≤ (u : Int)
  · refine ⟨q + 1, by omega, fun w ht => ?_⟩
    have c0 := ht q (by omega)
    clear ht
    go_enter Tryd.func48, Tryd.ntmps48
    go_wp2_with (first
      | (go_at_call 52; refine (HC.out _).mono ?_; rintro e9 w9 ⟨rfl, rfl⟩)
      | (go_at_call 51; refine (log_any L _ hL).mono ?_; rw [← HQ.out]; rintro e9 w9 ⟨rfl, rfl⟩)
      | (go_at_call 53; refine (bool2_any _ _).mono ?_; rintro e9 w9 ⟨rfl, rfl⟩))
    go_ret
    exact ⟨ret_i (by simp), rfl⟩
  · refine ⟨q, by omega, fun w ht => ?_⟩
    have c0 := ht q (by omega)
    have hd' : (u : Int) < T q := by omega
    clear ht hd
    go_enter Tryd.func48, Tryd.ntmps48
    go_wp2_with (first
      | (go_at_call 52; refine (HC.out _).mono ?_; rintro e9 w9 ⟨rfl, rfl⟩)
      | (go_at_call 51; refine (log_any L _ hL).mono ?_; rw [← HQ.out]; rintro e9 w9 ⟨rfl, rfl⟩)
      | (go_at_call 53; refine (bool2_any _ _).mono ?_; rintro e9 w9 ⟨rfl, rfl⟩))
    go_ret
    exact ⟨ret_i (by simp), rfl⟩
end Go.Proofs.YtfecccobihdopaaDoor
