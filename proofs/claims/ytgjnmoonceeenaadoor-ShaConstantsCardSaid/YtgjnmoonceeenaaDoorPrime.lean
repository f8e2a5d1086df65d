/-
  The reference's prime numbers, by a contract.
-/
import Derived.Test.YtgjnmoonceeenaaDoorGreater
import Derived.Lib.ItoaWalk
namespace Go.Proofs.YtgjnmoonceeenaaDoor
open Go.RowKit
set_option linter.unusedVariables false
set_option linter.unusedSimpArgs false
/-- The first 64 prime numbers. -/
def pL : List Nat := [2,3,5,7,11,13,17,19,23,29,31,37,41,43,47,53,59,61,67,71,73,79,83,89,97,101,103,107,109,113,127,131,137,139,149,151,157,163,167,173,179,181,191,193,197,199,211,223,227,229,233,239,241,251,257,263,269,271,277,281,283,293,307,311]
def pP (i : Nat) : Nat := pL.getD i 0
def prB (n : Nat) : Bool := pL.contains n
def cnt (n : Nat) : Nat := (pL.filter fun p => decide (p < n)).length
/-- No number from 2 to below d divides n. -/
def flD (n d : Nat) : Bool := (List.range d).all fun e => decide (e < 2) || n % e != 0
theorem flD_two (n : Nat) : flD n 2 = true := by simp [flD, List.range_succ]
theorem flD_step (n d : Nat) (h : 2 ≤ d) : flD n (d + 1) = (flD n d && (n % d != 0)) := by
  unfold flD
  rw [List.range_succ, List.all_append]
  simp [show ¬ d < 2 by omega]
theorem flD_end0 : ∀ n, n < 312 → ∀ d, d < 20 → (2 ≤ d ∧ n < d * d ∧ (d = 2 ∨ (d - 1) * (d - 1) ≤ n) ∧ 2 ≤ n) → flD n d = prB n := by decide +kernel
theorem flD_end {n d : Nat} (hn : n < 312) (h2 : 2 ≤ n) (hd : 2 ≤ d) (h : n < d * d) (hs : d = 2 ∨ (d - 1) * (d - 1) ≤ n) : flD n d = prB n := by
  refine flD_end0 n hn d ?_ ⟨hd, h, hs, h2⟩
  rcases hs with e | hs
  · omega
  · apply Classical.byContradiction
    intro hc
    have : 19 * 19 ≤ (d - 1) * (d - 1) := Nat.mul_le_mul (by omega) (by omega)
    omega
theorem cnt_step : ∀ n, n < 312 → cnt (n + 1) = cnt n + (if prB n then 1 else 0) := by decide +kernel
theorem cnt_at : ∀ n, n < 312 → prB n = true → pP (cnt n) = n := by decide +kernel
theorem cnt_fits : ∀ n, n < 312 → cnt (n + 1) ≤ 63 → n + 1 < 312 := by decide +kernel
set_option maxHeartbeats 2000000 in
theorem rprime_any (w : World) (c : Nat) (hc : c ≤ 63) : Calls Tryd.prog 18 #[.int .i64 (c : Int)] w fun e w' => e = .returned (.int .i64 (pP c : Int)) ∧ w = w' := by
  go_enter Tryd.func18, Tryd.ntmps18
  go_wp2_with fail
  go_loopw [0, 3] (fun x y wr => ∃ (r n : Nat), x = .int .i64 (r : Int) ∧ y = .int .i64 (n : Int) ∧ n < 312 ∧ 2 ≤ n ∧ Kept (r + cnt n = c) ∧ w = wr) (fun _ y _ => (312 - intOf y).toNat)
  case atStart => exact ⟨c, 2, rfl, rfl, by omega, by omega, kept (by show c + 0 = c; rfl), rfl⟩
  case round =>
    obtain ⟨r, n, rfl, rfl, hn, hn2, HR, rfl⟩ := hrel
    go_wp2_with fail
    go_loopw [4, 5] (fun x y wr => ∃ d : Nat, x = .bool (flD n d) ∧ y = .int .i64 (d : Int) ∧ 2 ≤ d ∧ d < 20 ∧ Kept (d = 2 ∨ (d - 1) * (d - 1) ≤ n) ∧ w = wr) (fun _ y _ => (20 - intOf y).toNat)
    case atStart => exact ⟨2, by rw [flD_two], rfl, by omega, by omega, kept (.inl rfl), rfl⟩
    case round =>
      obtain ⟨d, rfl, rfl, hd2, hd20, HS, rfl⟩ := hrel
      have hdd : d * d < 400 := by
        have : d * d ≤ 19 * 19 := Nat.mul_le_mul (by omega) (by omega)
        omega
      by_cases hdn : d * d ≤ n
      · have hd18 : d < 19 := by
          apply Classical.byContradiction
          intro hc
          have : 19 * 19 ≤ d * d := Nat.mul_le_mul (by omega) (by omega)
          omega
        have hle : decide ((d : Int) * d ≤ n) = true := by rw [decide_eq_true_iff]; exact_mod_cast hdn
        by_cases hm : n % d = 0
        · have hmi : (n : Int) % d = 0 := by exact_mod_cast hm
          have hf : flD n (d + 1) = false := by rw [flD_step n d hd2, hm]; simp
          have HF := kept hf
          clear hf hm
          go_wp2
          go_roundw
          case rel => exact ⟨d + 1, by rw [HF.out], by first | go_num | (congr 1; omega), by omega, by omega, kept (.inr (by rw [Nat.add_sub_cancel]; exact hdn)), trivial⟩
          case measure => simp [intOf]; omega
        · have hmi : ¬ (n : Int) % d = 0 := by exact_mod_cast hm
          have hf : flD n (d + 1) = flD n d := by rw [flD_step n d hd2, bne_iff_ne.2 hm, Bool.and_true]
          have HF := kept hf
          clear hf hm
          go_wp2
          go_roundw
          case rel => exact ⟨d + 1, by rw [HF.out], by first | go_num | (congr 1; omega), by omega, by omega, kept (.inr (by rw [Nat.add_sub_cancel]; exact hdn)), trivial⟩
          case measure => simp [intOf]; omega
      · have hle : decide ((d : Int) * d ≤ n) = false := by rw [decide_eq_false_iff_not]; exact_mod_cast hdn
        have hfl := flD_end hn hn2 hd2 (by omega) HS.out
        rw [hfl]
        have hcs := cnt_step n hn
        have hca := cnt_at n hn
        have hcf := cnt_fits n hn
        cases hp : prB n with
        | true =>
          rw [hp] at hcs hca
          rw [if_pos rfl] at hcs
          by_cases hr : r = 0
          · subst hr
            have hpc : pP c = n := by
              have := HR.out
              rw [Nat.zero_add] at this
              rw [← this]
              exact hca rfl
            have HPC := kept hpc
            clear hcs hca hcf hpc hfl hp
            go_wp2
            go_ret
            exact ⟨by rw [HPC.out]; rfl, rfl⟩
          · have hr1 : ((r : Int) == 0) = false := by rw [beq_eq_false_iff_ne]; omega
            have hcn : r - 1 + cnt (n + 1) = c := by have := HR.out; omega
            have hn1 : n + 1 < 312 := hcf (by omega)
            have hr64 : r ≤ 63 := by omega
            have HCN := kept hcn
            have HR0 := kept hr
            clear hcs hca hcf hfl hp hcn hr
            go_wp2
            go_roundw
            case rel => exact ⟨r - 1, n + 1, by have := HR0.out; congr 1; omega, by first | go_num | (congr 1; omega), hn1, by omega, HCN, trivial⟩
            case measure => simp [intOf]; omega
        | false =>
          rw [hp] at hcs
          have hcn : r + cnt (n + 1) = c := by have := HR.out; simp at hcs; omega
          have hn1 : n + 1 < 312 := hcf (by omega)
          have HCN := kept hcn
          clear hcs hca hcf hfl hp hcn
          go_wp2
          go_roundw
          case rel => exact ⟨r, n + 1, rfl, by first | go_num | (congr 1; omega), hn1, by omega, HCN, trivial⟩
          case measure => simp [intOf]; omega
end Go.Proofs.YtgjnmoonceeenaaDoor
