/-
  The reference's products of the field, by a contract.
-/
import Derived.Test.YtnfgmgkdkfeekaaGfRefM
namespace Go.Proofs.Ytnfgmgkdkfeekaa
open Go.RowKit
set_option linter.unusedVariables false
set_option linter.unusedSimpArgs false

theorem sh64 (x j : Nat) (hx : x < 512) (hj : j ≤ 8) : wrap64 ((x : Int) * 2 ^ j) = ((x <<< j : Nat) : Int) := by
  have h1 : 2 ^ j ≤ 2 ^ 8 := Nat.pow_le_pow_right (by omega) hj
  have h2 : x * 2 ^ j ≤ 511 * 2 ^ 8 := Nat.mul_le_mul (by omega) h1
  have e : (x : Int) * 2 ^ j = ((x * 2 ^ j : Nat) : Int) := by
    rw [Int.natCast_mul, Int.natCast_pow]
    rfl
  rw [e, Nat.shiftLeft_eq]
  unfold wrap64
  omega
theorem shl_lt (x j : Nat) (hx : x < 512) (hj : j ≤ 8) : x <<< j < 4611686018427387904 := by
  rw [Nat.shiftLeft_eq]
  have : 2 ^ j ≤ 2 ^ 8 := Nat.pow_le_pow_right (by omega) hj
  have h2 : x * 2 ^ j ≤ 511 * 2 ^ 8 := Nat.mul_le_mul (by omega) this
  omega
set_option maxHeartbeats 1000000 in
set_option maxRecDepth 100000 in
theorem rgmul_any (w : World) (a b : UInt8) : Calls Try.prog 33 #[.int .u8 (a.toNat : Int), .int .u8 (b.toNat : Int)] w fun e w' => e = .returned (.int .u8 ((gf a b).toNat : Int)) ∧ w = w' := by
  have ha := byte_lt a
  have hb := byte_lt b
  have ha' : (a.toNat : Int) < 256 := by omega
  have hb' : (b.toNat : Int) < 256 := by omega
  have HA := kept ha
  have HB := kept hb
  clear ha hb
  go_enter Try.func33, Try.ntmps33
  go_wp2_with fail
  go_loop [5, 6] (fun p i => ∃ j : Nat, j ≤ 8 ∧ i = .int .i64 j ∧ p = .int .i64 (rP a.toNat b.toNat j : Nat)) (fun _ i => 8 - (intOf i).toNat)
  case atStart => exact ⟨0, Nat.zero_le _, rfl, rfl⟩
  case round =>
    obtain ⟨j, hj, rfl, rfl⟩ := hrel
    have hp : rP a.toNat b.toNat j < 32768 := rP_lt a.toNat b.toNat j HA.out hj
    have hs : rP a.toNat b.toNat (j + 1) = rP a.toNat b.toNat j ^^^ nsel (b.toNat.testBit j) (a.toNat <<< j) := rfl
    by_cases hlt : j < 8
    · obtain ⟨P, hP⟩ : ∃ P, rP a.toNat b.toNat j = P := ⟨_, rfl⟩
      rw [hP] at hp hs
      rw [hP]
      by_cases hbit : b.toNat.testBit j = true
      · have hb1 := bit64 b.toNat j (by have := HB.out; omega)
        rw [if_pos hbit] at hb1
        rw [hbit] at hs
        have hsh := sh64 a.toNat j (by have := HA.out; omega) (by omega)
        have hxx := x64 P (a.toNat <<< j) (by omega) (shl_lt _ _ (by have := HA.out; omega) (by omega))
        have HS := kept (show rP a.toNat b.toNat (j + 1) = P ^^^ (a.toNat <<< j) from hs)
        generalize a.toNat <<< j = S at hsh hxx HS
        generalize hq : P ^^^ S = Q at hxx HS
        clear hs hP hbit hq hp
        go_wp2
        go_round
        case rel => exact ⟨j + 1, by omega, by go_num, by rw [HS.out]⟩
        case measure => simp [intOf]; omega
      · have hb1 := bit64 b.toNat j (by have := HB.out; omega)
        rw [if_neg hbit] at hb1
        rw [Bool.not_eq_true] at hbit
        rw [hbit] at hs
        have HS := kept (show rP a.toNat b.toNat (j + 1) = P by rw [hs]; simp [nsel])
        clear hs hP hbit hp
        go_wp2
        go_round
        case rel => exact ⟨j + 1, by omega, by go_num, by rw [HS.out]⟩
        case measure => simp [intOf]; omega
    · obtain rfl : j = 8 := by omega
      obtain ⟨P, hP⟩ : ∃ P, rP a.toNat b.toNat 8 = P := ⟨_, rfl⟩
      rw [hP] at hp
      rw [hP]
      have HPP := kept hp
      have HG := kept (show UInt8.ofNat (rR P 7) = gf a b by rw [← hP]; exact rmul_eq a b)
      clear hP hs hp hlt hj
      go_wp2_with fail
      go_loop [5, 7] (fun p i => ∃ k : Nat, 7 ≤ k ∧ k ≤ 14 ∧ i = .int .i64 (k : Int) ∧ p = .int .i64 (rR P (14 - k) : Nat)) (fun _ i => (intOf i).toNat)
      case atStart => exact ⟨14, by omega, by omega, rfl, rfl⟩
      case round =>
        obtain ⟨k, hk1, hk2, rfl, rfl⟩ := hrel
        by_cases hlt : 8 ≤ k
        · have hp : rR P (14 - k) < 32768 := rR_lt P (14 - k) HPP.out (by omega)
          have hs : rR P (14 - (k - 1)) = rR P (14 - k) ^^^ nsel ((rR P (14 - k)).testBit k) (283 <<< (k - 8)) := by
            have e : 14 - (k - 1) = (14 - k) + 1 := by omega
            rw [e, rR, show 14 - (14 - k) = k by omega, show 6 - (14 - k) = k - 8 by omega]
          have hd : (k : Int) - 8 = ((k - 8 : Nat) : Int) := by omega
          have hk8 : (8 : Int) ≤ (k : Int) := by omega
          have hk14 : (k : Int) ≤ 14 := by omega
          have hsh : wrap64 ((283 : Int) * 2 ^ (k - 8)) = ((283 <<< (k - 8) : Nat) : Int) := sh64 283 (k - 8) (by omega) (by omega)
          have hsl := shl_lt 283 (k - 8) (by omega) (by omega)
          have hd8 : k - 8 ≤ 6 := by omega
          obtain ⟨R, hR⟩ : ∃ R, rR P (14 - k) = R := ⟨_, rfl⟩
          rw [hR] at hp hs
          rw [hR]
          by_cases hbit : R.testBit k = true
          · have hb1 := bit64 R k (by omega)
            rw [if_pos hbit] at hb1
            rw [hbit] at hs
            have hxx := x64 R (283 <<< (k - 8)) (by omega) hsl
            have HS := kept (show rR P (14 - (k - 1)) = R ^^^ (283 <<< (k - 8)) from hs)
            generalize 283 <<< (k - 8) = S at hsh hxx HS
            generalize k - 8 = d at hd hsh hd8
            generalize hq : R ^^^ S = Q at hxx HS
            have HD8 := kept hd8
            clear hs hR hbit hq hp hsl hd8
            go_wp2
            go_round
            case rel => exact ⟨k - 1, by omega, by omega, by go_num, by rw [HS.out]⟩
            case measure => simp [intOf]; omega
          · have hb1 := bit64 R k (by omega)
            rw [if_neg hbit] at hb1
            rw [Bool.not_eq_true] at hbit
            rw [hbit] at hs
            have HS := kept (show rR P (14 - (k - 1)) = R by rw [hs]; simp [nsel])
            clear hs hR hbit hp hsl hsh hd hd8
            go_wp2
            go_round
            case rel => exact ⟨k - 1, by omega, by omega, by go_num, by rw [HS.out]⟩
            case measure => simp [intOf]; omega
        · obtain rfl : k = 7 := by omega
          have hp : rR P 7 < 32768 := rR_lt P 7 HPP.out (by omega)
          obtain ⟨R, hR⟩ : ∃ R, rR P (14 - 7) = R := ⟨_, rfl⟩
          have hR7 : rR P 7 = R := hR
          rw [hR7] at hp HG
          rw [hR]
          have hout : (R : Int) % 256 = ((gf a b).toNat : Int) := by
            rw [← HG.out, UInt8.toNat_ofNat']
            omega
          have HOUT := kept hout
          clear hout hR hR7 hlt
          go_wp2
          go_ret
          exact ⟨congrArg (fun z => Ending.returned (.int .u8 z)) HOUT.out, rfl⟩
end Go.Proofs.Ytnfgmgkdkfeekaa
