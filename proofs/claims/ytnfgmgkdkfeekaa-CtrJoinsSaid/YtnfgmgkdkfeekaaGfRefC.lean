/-
  The second part of the reference's substitution, by a contract.
-/
import Derived.Test.YtnfgmgkdkfeekaaGfRef
namespace Go.Proofs.Ytnfgmgkdkfeekaa
open Go.RowKit
set_option linter.unusedVariables false
set_option linter.unusedSimpArgs false

def nb (x i : Nat) : Nat := if x.testBit i then 1 else 0
theorem nb_le (x i : Nat) : nb x i ≤ 1 := by unfold nb; split <;> omega
/-- The sum of a bit of 99, one of b, and the first m of the four others. -/
def rX (b i : Nat) : Nat → Nat
  | 0 => nb 99 i + nb b i
  | m + 1 => rX b i m + nb b ((i + (m + 4)) % 8)
def rO (b : Nat) : Nat → Nat
  | 0 => 0
  | i + 1 => rO b i + (rX b i 4 % 2) * 2 ^ i
theorem rX_le (b i m : Nat) : rX b i m ≤ m + 2 := by
  induction m with
  | zero => have := nb_le 99 i; have := nb_le b i; rw [rX]; omega
  | succ m ih => have := nb_le b ((i + (m + 4)) % 8); rw [rX]; omega
theorem rO_lt (b i : Nat) : rO b i < 2 ^ i := by
  induction i with
  | zero => exact Nat.one_pos
  | succ i ih =>
    rw [rO, Nat.pow_succ]
    have : (rX b i 4 % 2) * 2 ^ i ≤ 1 * 2 ^ i := Nat.mul_le_mul_right _ (by omega)
    omega
theorem rO_gaff (b : UInt8) : UInt8.ofNat (rO b.toNat 8) = gaff b := of_all (P := fun b => UInt8.ofNat (rO b.toNat 8) = gaff b) (by decide +kernel) b
theorem bitn (x i : Nat) (hx : x < 2 ^ 62) : bits .and .i64 ((x : Int) / (2 : Int) ^ i) 1 = ((nb x i : Nat) : Int) := by
  rw [bit64 x i hx]
  unfold nb
  split <;> rfl
theorem add_part (O Z : Nat) (hO : O < 256) (hZ : Z ≤ 128) : wrap64 ((O : Int) + (Z : Int)) = ((O + Z : Nat) : Int) := by
  unfold wrap64
  omega
set_option maxHeartbeats 1000000 in
set_option maxRecDepth 100000 in
theorem raff_any (w : World) (b : UInt8) : Calls Try.prog 34 #[.int .i64 (b.toNat : Int)] w fun e w' => e = .returned (.int .u8 ((gaff b).toNat : Int)) ∧ w = w' := by
  have hb := byte_lt b
  have hb' : (b.toNat : Int) < 256 := by omega
  have HB := kept hb
  clear hb
  go_enter Try.func34, Try.ntmps34
  go_wp2_with fail
  go_loop [3, 4] (fun o i => ∃ j : Nat, j ≤ 8 ∧ i = .int .i64 j ∧ o = .int .i64 (rO b.toNat j : Nat)) (fun _ i => 8 - (intOf i).toNat)
  case atStart => exact ⟨0, Nat.zero_le _, rfl, rfl⟩
  case round =>
    obtain ⟨j, hj, rfl, rfl⟩ := hrel
    by_cases hlt : j < 8
    · have hp : rO b.toNat j < 256 := Nat.lt_of_lt_of_le (rO_lt b.toNat j) (show 2 ^ j ≤ 2 ^ 8 from Nat.pow_le_pow_right (by omega) (by omega))
      have HS := kept (show rO b.toNat (j + 1) = rO b.toNat j + (rX b.toNat j 4 % 2) * 2 ^ j from rfl)
      have h99 : bits .and .i64 ((99 : Int) / (2 : Int) ^ j) 1 = ((nb 99 j : Nat) : Int) := bitn 99 j (by omega)
      have hbb := bitn b.toNat j (by have := HB.out; omega)
      have l99 := nb_le 99 j
      have lbb := nb_le b.toNat j
      have HX := kept (show rX b.toNat j 0 = nb 99 j + nb b.toNat j from rfl)
      generalize nb 99 j = c99 at h99 l99 HX
      generalize nb b.toNat j = cb at hbb lbb HX
      generalize rO b.toNat j = O at hp HS
      go_wp2_with fail
      go_loop [5, 6] (fun x k => ∃ m : Nat, m ≤ 4 ∧ k = .int .i64 ((m + 4 : Nat) : Int) ∧ x = .int .i64 (rX b.toNat j m : Nat)) (fun _ k => 8 - (intOf k).toNat)
      case atStart => exact ⟨0, by omega, rfl, by rw [HX.out]; go_num⟩
      case round =>
        obtain ⟨m, hm, rfl, rfl⟩ := hrel
        have hx := rX_le b.toNat j m
        obtain ⟨X, hX⟩ : ∃ X, rX b.toNat j m = X := ⟨_, rfl⟩
        rw [hX] at hx
        rw [hX]
        by_cases hl : m < 4
        · have h1 := bitn b.toNat ((j + (m + 4)) % 8) (by have := HB.out; omega)
          have l1 := nb_le b.toNat ((j + (m + 4)) % 8)
          have hs : rX b.toNat j (m + 1) = X + nb b.toNat ((j + (m + 4)) % 8) := by rw [← hX]; rfl
          have HX1 := kept hs
          have H1 := kept h1
          clear hs h1
          generalize nb b.toNat ((j + (m + 4)) % 8) = C at l1 HX1 H1
          go_wp2
          go_round
          case rel => exact ⟨m + 1, by omega, by go_num, by rw [HX1.out, H1.out]; congr 1; unfold wrap64; omega⟩
          case measure => simp [intOf]; omega
        · obtain rfl : m = 4 := by omega
          have HXX := kept hX
          rw [hX] at HS
          clear HX hX
          have hj2 : 2 ^ j ≤ 2 ^ 7 := Nat.pow_le_pow_right (by omega) (by omega)
          have hm2 : X % 2 * 2 ^ j ≤ 1 * 2 ^ 7 := Nat.mul_le_mul (by omega) hj2
          have hw : wrap64 (((X % 2 : Nat) : Int) * 2 ^ j) = ((X % 2 * 2 ^ j : Nat) : Int) := by
            have e : ((X % 2 : Nat) : Int) * 2 ^ j = ((X % 2 * 2 ^ j : Nat) : Int) := by
              rw [Int.natCast_mul, Int.natCast_pow]
              rfl
            rw [e]
            unfold wrap64
            omega
          have HW := kept (show wrap64 ((O : Int) + wrap64 ((X : Int) % 2 * 2 ^ j)) = ((O + X % 2 * 2 ^ j : Nat) : Int) by
            rw [show (X : Int) % 2 = ((X % 2 : Nat) : Int) by omega, hw]
            exact add_part O _ hp (Nat.le_trans hm2 (by decide)))
          clear hw hm2 hj2
          go_wp2
          go_round
          case rel => exact ⟨j + 1, by omega, by go_num, by rw [HW.out, HS.out]⟩
          case measure => simp [intOf]; omega
    · obtain rfl : j = 8 := by omega
      have hO := rO_lt b.toNat 8
      have HG := kept (rO_gaff b)
      generalize rO b.toNat 8 = O at hO HG
      have HOUT := kept (show (O : Int) = ((gaff b).toNat : Int) by
        rw [← HG.out, UInt8.toNat_ofNat']
        omega)
      clear HG
      go_wp2
      go_ret
      exact ⟨congrArg (fun z => Ending.returned (.int .u8 z)) HOUT.out, rfl⟩
end Go.Proofs.Ytnfgmgkdkfeekaa
