/-
  Powers, as the program finds them, by a contract.
-/
import Derived.Test.YtnfgmgkdkfeekaaPm11
import Derived.Test.YtnfgmgkdkfeekaaPm4
namespace Go.Proofs.Ytnfgmgkdkfeekaa
open Go.RowKit
set_option linter.unusedVariables false
set_option linter.unusedSimpArgs false

/-- A power by the last bit of its number and the others. -/
theorem gpow_half (a : UInt8) (n : Nat) : gpow a n = gf (if n % 2 = 1 then a else 1) (gpow (gf a a) (n / 2)) := by
  have h1 : gf a a = gpow a 2 := by
    show _ = gf (gf 1 a) a
    rw [gf_one_l]
  rw [h1, gpow_pow]
  by_cases h : n % 2 = 1
  · rw [if_pos h]
    conv => lhs; rw [show n = 1 + 2 * (n / 2) by omega, gpow_add]
    rw [show gpow a 1 = a from gf_one_l a]
  · rw [if_neg h, gf_one_l, show 2 * (n / 2) = n by omega]
theorem and_one64 (n : Nat) (h : n < 256) : bits .and .i64 (n : Int) 1 = ((n % 2 : Nat) : Int) := by
  rw [show (1 : Int) = ((1 : Nat) : Int) from rfl, a64 n 1 (by omega) (by omega), Nat.and_one_is_mod]
set_option maxHeartbeats 1000000 in
theorem fpow_any (w : World) (a : UInt8) (n : Int) (h1 : -1048576 ≤ n) (h2 : n ≤ 1048576) : Calls Try.prog 36 #[.int .u8 (a.toNat : Int), .int .i64 n] w fun e w' => e = .returned (.int .u8 ((gpowZ a n).toNat : Int)) ∧ Below w.heap.size w w' := by
  have hb := byte_lt a
  by_cases h0 : n = 0
  · subst h0
    rw [show gpowZ a 0 = 1 from rfl, show ((1 : UInt8).toNat : Int) = 1 from rfl]
    go_enter Try.func36, Try.ntmps36
    go_wp2
    go_ret
    exact ⟨rfl, Below.refl _ _⟩
  have hz0 : (n == 0) = false := by rw [beq_eq_false_iff_ne]; exact h0
  by_cases ha : a = 0
  · subst ha
    have hp : gpowZ 0 n = 0 := by
      unfold gpowZ
      split
      · rw [ginv_zero, gpow_zero_l _ (by omega)]
      · rw [gpow_zero_l _ (by omega)]
    rw [hp, show ((0 : UInt8).toNat : Int) = 0 from rfl]
    clear hb hp
    go_enter Try.func36, Try.ntmps36
    go_wp2
    go_ret
    exact ⟨rfl, Below.refl _ _⟩
  have hza : ((a.toNat : Int) == 0) = false := by
    rw [beq_eq_false_iff_ne]
    exact fun e => ha (UInt8.toNat_inj.1 (by show a.toNat = 0; omega))
  have hr := gpowZ_mod a ha n
  have hm : (wrap64 (n.tmod 255 + 255)).tmod 255 = ((n % 255).toNat : Int) := by
    have e1 : -255 < n.tmod 255 ∧ n.tmod 255 < 255 ∧ (n.tmod 255 + 255) % 255 = n % 255 := by
      rw [Int.tmod_eq_emod]
      split
      · omega
      · rw [show ((255 : Int).natAbs : Int) = 255 from rfl]
        omega
    have e2 : wrap64 (n.tmod 255 + 255) = n.tmod 255 + 255 := by unfold wrap64; omega
    rw [e2, Int.tmod_eq_emod_of_nonneg (by omega)]
    omega
  have hk : (n % 255).toNat < 255 := by omega
  rw [hr]
  generalize (n % 255).toNat = k at hm hk
  generalize hq : gpow a k = r
  have HR := kept hq
  clear hr hq ha
  go_enter Try.func36, Try.ntmps36
  go_wp2_with fail
  go_loop [0, 1, 5] (fun x y z => ∃ (p s : UInt8) (m : Nat), m < 255 ∧ x = .int .u8 (p.toNat : Int) ∧ y = .int .i64 (m : Int) ∧ z = .int .u8 (s.toNat : Int) ∧ Kept (gf s (gpow p m) = r)) (fun _ y _ => (intOf y).toNat)
  case atStart => exact ⟨a, 1, k, hk, rfl, rfl, rfl, kept (by rw [gf_one_l]; exact HR.out)⟩
  case round =>
    obtain ⟨p, s, m, hm2, rfl, rfl, rfl, HS⟩ := hrel
    clear hm hz0 hza HR hk h1 h2
    by_cases hpos : 0 < m
    · have hp0 : (0 : Int) < (m : Int) := by omega
      have hbit := and_one64 m (by omega)
      have HG := kept (gpow_half p m)
      have HHALF := kept (show (m : Int) / (2 : Int) = ((m / 2 : Nat) : Int) by omega)
      by_cases ho : m % 2 = 1
      · rw [ho] at hbit
        have HN := kept (show gf (gf s p) (gpow (gf p p) (m / 2)) = r by rw [← HS.out, HG.out, if_pos ho, gf_assoc])
        clear HG ho
        go_wp2_with fail
        refine (fprod_any w s p).mono ?_
        rintro e w' ⟨rfl, rfl⟩
        go_wp2_with fail
        refine (fprod_any w p p).mono ?_
        rintro e w' ⟨rfl, rfl⟩
        go_wp2
        go_round
        case rel => exact ⟨gf p p, gf s p, m / 2, by omega, rfl, congrArg (Value.int .i64) HHALF.out, rfl, HN⟩
        case measure => simp [intOf]; omega
      · rw [show m % 2 = 0 by omega] at hbit
        have HN := kept (show gf s (gpow (gf p p) (m / 2)) = r by rw [← HS.out, HG.out, if_neg ho, gf_one_l])
        clear HG ho
        go_wp2_with fail
        refine (fprod_any w p p).mono ?_
        rintro e w' ⟨rfl, rfl⟩
        go_wp2
        go_round
        case rel => exact ⟨gf p p, s, m / 2, by omega, rfl, congrArg (Value.int .i64) HHALF.out, rfl, HN⟩
        case measure => simp [intOf]; omega
    · obtain rfl : m = 0 := by omega
      have HE := kept (show s = r by rw [← HS.out]; exact (gf_one s).symm)
      clear HS hm2 hpos
      go_wp2
      go_ret
      exact ⟨congrArg (fun z : UInt8 => Ending.returned (.int .u8 (z.toNat : Int))) HE.out, Below.refl _ _⟩
end Go.Proofs.Ytnfgmgkdkfeekaa
