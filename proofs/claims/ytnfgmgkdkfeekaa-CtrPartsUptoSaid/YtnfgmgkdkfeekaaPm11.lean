/-
  Twice a byte and products of two bytes, as the program finds them, by contracts.
-/
import Derived.Test.YtnfgmgkdkfeekaaPm2
import Derived.Test.YtnfgmgkdkfeekaaPm4
namespace Go.Proofs.Ytnfgmgkdkfeekaa
open Go.RowKit
set_option linter.unusedVariables false
set_option linter.unusedSimpArgs false

theorem dbl_l (a : UInt8) : (a.toNat : Int) * (2 : Int) % (256 : Int) = ((a <<< 1 : UInt8).toNat : Int) := by
  have h := of_all (P := fun a => a.toNat * 2 % 256 = (a <<< 1 : UInt8).toNat) (by decide +kernel) a
  omega
theorem dbl_r (a : UInt8) : (a.toNat : Int) / (128 : Int) * (27 : Int) = ((gsel (gbit a 7) 27 : UInt8).toNat : Int) := by
  have h := of_all (P := fun a => a.toNat / 128 * 27 = (gsel (gbit a 7) 27 : UInt8).toNat) (by decide +kernel) a
  omega
theorem half_u8 (a : UInt8) : (a.toNat : Int) / (2 : Int) = ((a >>> 1 : UInt8).toNat : Int) := by
  have h := of_all (P := fun a => a.toNat / 2 = (a >>> 1 : UInt8).toNat) (by decide +kernel) a
  omega
theorem and_one (a : UInt8) : bits .and .u8 (a.toNat : Int) 1 = if gbit a 0 then 1 else 0 := by
  have h : ∀ n : Nat, n < 256 → bits .and .u8 (n : Int) 1 = if gbit (UInt8.ofNat n) 0 then 1 else 0 := by decide +kernel
  have := h a.toNat (byte_lt a)
  rwa [UInt8.ofNat_toNat] at this
/-- A product by the last bit and the others. -/
theorem gf_step (a b : UInt8) : gf a b = gsel (gbit b 0) a ^^^ gf (xt a) (b >>> 1) := by
  have l2 : Lin fun a => gsel (gbit b 0) a ^^^ gf (xt a) (b >>> 1) := fun x y => by
    show gsel (gbit b 0) (x ^^^ y) ^^^ gf (xt (x ^^^ y)) (b >>> 1) = _
    rw [gsel_lin, xt_lin, gf_lin_l, xor4]
  refine lin_ext (f := fun a => gf a b) (g := fun a => gsel (gbit b 0) a ^^^ gf (xt a) (b >>> 1)) (lin_l b) l2 ?_ a
  refine ⟨?_, ?_, ?_, ?_, ?_, ?_, ?_, ?_⟩ <;> exact of_all (P := fun b => gf _ b = gsel (gbit b 0) _ ^^^ gf (xt _) (b >>> 1)) (by decide +kernel) b
set_option maxHeartbeats 1000000 in
theorem fdbl_any (w : World) (a : UInt8) : Calls Try.prog 49 #[.int .u8 (a.toNat : Int)] w fun e w' => e = .returned (.int .u8 ((xt a).toNat : Int)) ∧ w = w' := by
  have ha := byte_lt a
  have HX := kept (show bits .xor .u8 ((a.toNat : Int) * (2 : Int) % (256 : Int)) ((a.toNat : Int) / (128 : Int) * (27 : Int)) = ((xt a).toNat : Int) by rw [dbl_l, dbl_r, gx8]; rfl)
  go_enter Try.func49, Try.ntmps49
  go_wp2
  go_ret
  exact ⟨congrArg (fun z => Ending.returned (.int .u8 z)) HX.out, rfl⟩
set_option maxHeartbeats 1000000 in
theorem fprod_any (w : World) (a b : UInt8) : Calls Try.prog 44 #[.int .u8 (a.toNat : Int), .int .u8 (b.toNat : Int)] w fun e w' => e = .returned (.int .u8 ((gf a b).toNat : Int)) ∧ w = w' := by
  obtain ⟨r, hr⟩ : ∃ r, gf a b = r := ⟨_, rfl⟩
  rw [hr]
  have HR := kept hr
  clear hr
  go_enter Try.func44, Try.ntmps44
  go_wp2_with fail
  go_loop [0, 1, 5] (fun x y z => ∃ p q s : UInt8, x = .int .u8 (p.toNat : Int) ∧ y = .int .u8 (q.toNat : Int) ∧ z = .int .u8 (s.toNat : Int) ∧ Kept (gxr s (gf p q) = r)) (fun _ y _ => (intOf y).toNat)
  case atStart => exact ⟨a, b, 0, rfl, rfl, rfl, kept (by rw [HR.out]; exact UInt8.zero_xor)⟩
  case round =>
    obtain ⟨p, q, s, rfl, rfl, rfl, HS⟩ := hrel
    have hp := byte_lt p
    have hq := byte_lt q
    have hs := byte_lt s
    by_cases h0 : 0 < q.toNat
    · have h0' : (0 : Int) < (q.toNat : Int) := by omega
      have hh := half_u8 q
      have ha := and_one q
      have HN := kept (gf_step p q)
      have HHN := kept (show (q >>> 1 : UInt8).toNat < q.toNat by have := hh; omega)
      have HHE := kept hh
      by_cases hb : gbit q 0 = true
      · rw [if_pos hb] at ha
        rw [hb] at HN
        have hx := gx8 s p
        have HA := kept (show gxr (gxr s p) (gf (xt p) (q >>> 1)) = r by
          rw [← HS.out, HN.out]
          show (s ^^^ p) ^^^ _ = s ^^^ (p ^^^ _)
          rw [UInt8.xor_assoc])
        clear hh hb HN
        generalize gxr s p = t at hx HA
        go_wp2_with fail
        refine (fdbl_any w p).mono ?_
        rintro e w' ⟨rfl, rfl⟩
        go_wp2
        go_round
        case rel => exact ⟨xt p, q >>> 1, t, rfl, congrArg (Value.int .u8) HHE.out, rfl, HA⟩
        case measure => have := HHN.out; have := HHE.out; simp [intOf]; omega
      · rw [if_neg hb] at ha
        rw [Bool.not_eq_true] at hb
        rw [hb] at HN
        have hx := gx8 s 0
        have HA := kept (show gxr s (gf (xt p) (q >>> 1)) = r by
          rw [← HS.out, HN.out]
          show _ = s ^^^ (0 ^^^ _)
          rw [UInt8.zero_xor]
          rfl)
        rw [show gxr s 0 = s from UInt8.xor_zero] at hx
        have HX0 := kept hx
        clear hh hb HN hx
        go_wp2_with fail
        refine (fdbl_any w p).mono ?_
        rintro e w' ⟨rfl, rfl⟩
        go_wp2
        go_round
        case rel => exact ⟨xt p, q >>> 1, s, rfl, congrArg (Value.int .u8) HHE.out, congrArg (Value.int .u8) HX0.out, HA⟩
        case measure => have := HHN.out; have := HHE.out; simp [intOf]; omega
    · have hz : q.toNat = 0 := by omega
      obtain rfl : q = 0 := UInt8.toNat_inj.1 hz
      have HE := kept (show s = r by rw [← HS.out, gf_zero]; exact UInt8.xor_zero.symm)
      clear h0 hz hq HS
      go_wp2
      go_ret
      exact ⟨congrArg (fun z : UInt8 => Ending.returned (.int .u8 (z.toNat : Int))) HE.out, rfl⟩
end Go.Proofs.Ytnfgmgkdkfeekaa
