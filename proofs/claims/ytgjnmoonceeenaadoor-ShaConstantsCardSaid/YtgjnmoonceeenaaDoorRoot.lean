/-
  The reference's root, by a contract.
-/
import Derived.Test.YtgjnmoonceeenaaDoorProduct
namespace Go.Proofs.YtgjnmoonceeenaaDoor
open Go.RowKit
set_option linter.unusedVariables false
set_option linter.unusedSimpArgs false
/-- The reference's root: bit by bit from above. -/
def rootG (n d : Nat) : Nat → Nat
  | 0 => 0
  | k + 1 => if n * 65536 ^ (2 * d) < (rootG n d k + 2 ^ (36 - k)) ^ d then rootG n d k else rootG n d k + 2 ^ (36 - k)
theorem rootG_le (n d : Nat) : ∀ k, rootG n d k ≤ k * 68719476736
  | 0 => Nat.le_refl _
  | k + 1 => by
    have h1 := rootG_le n d k
    have h2 : (2 : Nat) ^ (36 - k) ≤ 2 ^ 36 := Nat.pow_le_pow_right (by omega) (by omega)
    have h3 : (2 : Nat) ^ 36 = 68719476736 := by decide +kernel
    rw [h3] at h2
    rw [rootG, Nat.add_mul, Nat.one_mul]
    generalize (2 : Nat) ^ (36 - k) = z at h2 ⊢
    split
    · exact Nat.le_trans h1 (Nat.le_add_right _ _)
    · exact Nat.add_le_add h1 h2
def rootN (n d : Nat) : Nat := rootG n d 37
theorem ownU_one (w : World) (B : Nat) (hB : B ≤ w.heap.size) : OwnU 30 (w.alloc (.cells #[.int .u64 0] 30)) B (.slice (some ⟨w.heap.size, 0, none⟩) 1 1) [0] :=
  ownU_of_blk (f := fun _ => 0) (T := 1) (Blk.new w _ _) (by omega) hB
set_option maxHeartbeats 2000000 in
theorem rroot_any (w : World) (n d : Nat) (hn : n < 65536) (hd : 1 ≤ d) (hd3 : d ≤ 3) : Calls Tryd.prog 17 #[.int .i64 (n : Int), .int .i64 (d : Int)] w fun e w' => e = .returned (.int .u32 ((rootN n d % 4294967296 : Nat) : Int)) ∧ Below w.heap.size w w' := by
  obtain ⟨i0, hi0, hz0, hs0, hbb0⟩ := info_parts u64_info
  go_enter Tryd.func17, Tryd.ntmps17
  go_wp2_with (first | (go_at_call 29; refine (rdigits_any _ n (by omega)).mono ?_; rintro e1 w1 ⟨l0, v0, rfl, ho0, hb0, hv0, hd0, hl0⟩; have HO0 := kept ho0; have HB0 := kept hb0; have HV0 := kept hv0; have HD0 := kept hd0; have HL0 := kept hl0; clear ho0 hb0 hv0 hd0 hl0) | fail)
  go_loopw [5, 6] (fun v x wr => ∃ (k : Nat) (l : List Nat), x = .int .i64 (k : Int) ∧ k ≤ 2 * d ∧ Kept (val l = n * 65536 ^ k) ∧ Kept (Digs l) ∧ Kept (l.length ≤ 4 + k) ∧ Kept (OwnU 30 wr w.heap.size v (nl l)) ∧ Kept (Below w.heap.size w wr)) (fun _ x _ => (2 * d - intOf x).toNat)
  case atStart => exact ⟨0, l0, rfl, Nat.zero_le _, kept (by rw [HV0.out]; simp), HD0, kept (by have := HL0.out; omega), HO0, HB0⟩
  case round =>
    obtain ⟨k, l, rfl, hk, HV, HD, HL, HO, HB⟩ := hrel
    rename World => W1
    by_cases hkd : k < 2 * d
    · obtain ⟨A, q, cp, rfl, hc, hcm, hm⟩ := HO.out.form
      rw [nl_len] at hc HO
      rw [nl_len]
      clear hc hcm
      have hbx := HB.out.alloc HB.out.size (.cells #[.int .u64 0] 30)
      go_wp2_with (first | (at_builtin; refine wpList_append_us rfl _ _ 58 rfl w.heap.size i0 Tryd.underlying58 hi0 hz0 hs0 hbb0 (.slice (some ⟨W1.heap.size, 0, none⟩) 1 1) [0] rfl (ownU_one W1 _ HB.out.size) q A l.length cp (nl l) rfl (nl_len l).symm (hm.alloc _) (by rw [nl_len]; have := HL.out; simp; omega) hbx.size ?_; intro v1 w2 hown1 hg1))
      have hbw2 : Below w.heap.size w w2 := hbx.grown hg1 hbx.size (fun k hk => by injection hk with hk; subst hk; exact HB.out.size)
      have HO2 := kept (show OwnU 30 w2 w.heap.size v1 (nl (0 :: l)) from hown1)
      have HB2 := kept hbw2
      clear hown1 hg1 hbw2 hbx
      go_roundw
      case rel =>
        refine ⟨k + 1, 0 :: l, by first | go_num | (congr 1; omega), by omega, kept (by rw [val_cons, HV.out, Nat.pow_succ, Nat.mul_assoc]), kept (fun y hy => ?_), kept (by have := HL.out; simp; omega), HO2, HB2⟩
        rcases List.mem_cons.1 hy with e | h
        · rw [e]; omega
        · exact HD.out y h
      case measure => simp [intOf]; omega
    · obtain rfl : k = 2 * d := by omega
      obtain ⟨A, q, cp, rfl, hc, hcm, hm⟩ := HO.out.form
      rw [nl_len] at hc HO
      rw [nl_len]
      have HM := kept hm
      clear hm hc hcm
      go_wp2_with fail
      go_loopw [7, 8] (fun x y wr => ∃ k : Nat, x = .int .u64 (rootG n d k : Int) ∧ y = .int .i64 (36 - (k : Int)) ∧ k ≤ 37 ∧ Kept (MemU wr q A (nl l)) ∧ Kept (Below w.heap.size w wr)) (fun _ y _ => (intOf y + 1).toNat)
      case atStart => exact ⟨0, rfl, by first | rfl | (congr 1), by omega, HM, HB⟩
      case round =>
        obtain ⟨k, rfl, rfl, hk, HMk, HBk⟩ := hrel
        rename World => W2
        by_cases hk37 : k < 37
        · have hle := rootG_le n d k
          obtain ⟨g, hg⟩ : ∃ g, rootG n d k = g := ⟨_, rfl⟩
          rw [hg] at hle
          rw [hg]
          obtain ⟨p2, hp2⟩ : ∃ p2 : Nat, 2 ^ (36 - k) = p2 := ⟨_, rfl⟩
          have hp2le : p2 ≤ 68719476736 := by
            have h1 : (2 : Nat) ^ (36 - k) ≤ 2 ^ 36 := Nat.pow_le_pow_right (by omega) (by omega)
            have h3 : (2 : Nat) ^ 36 = 68719476736 := by decide +kernel
            rw [h3, hp2] at h1
            exact h1
          have hp2i : (2 : Int) ^ (36 - k) = (p2 : Int) := by rw [← hp2]; push_cast; rfl
          have hgy : g + p2 < 18446744073709551616 := by
            have : k * 68719476736 ≤ 36 * 68719476736 := Nat.mul_le_mul_right _ (by omega)
            omega
          have hy : IntKind.u64.wrap ((g : Int) + IntKind.u64.wrap (2 ^ (36 - k))) = ((g + p2 : Nat) : Int) := by
            rw [hp2i, IntKind.wrap_u64, IntKind.wrap_u64]
            omega
          obtain ⟨y, hyy⟩ : ∃ y, g + p2 = y := ⟨_, rfl⟩
          rw [hyy] at hy hgy
          have HG := kept hg
          have HP2 := kept hp2
          have HYY := kept hyy
          clear hg hp2 hyy hp2i hp2le hle
          go_wp2_with (first | (go_at_call 29; (try rw [hy]); refine (rdigits_any _ y hgy).mono ?_; rintro e3 w3 ⟨l3, v3, rfl, ho3, hb3, hv3, hd3', hl3⟩; have HO3 := kept ho3; have HB3 := kept hb3; have HV3 := kept hv3; have HD3 := kept hd3'; have HL3 := kept hl3; have HM3 := kept (HMk.out.below0 hb3); have HW3 := kept (HBk.out.trans (hb3.mono HBk.out.size)); clear ho3 hb3 hv3 hd3' hl3) | fail)
          go_loopw [10, 11] (fun v x wr => ∃ (j : Nat) (p : List Nat), x = .int .i64 (j : Int) ∧ 1 ≤ j ∧ j ≤ d ∧ Kept (val p = y ^ j) ∧ Kept (Digs p) ∧ Kept (p.length ≤ 5 * j) ∧ Kept (OwnU 30 wr w.heap.size v (nl p)) ∧ Kept (MemU wr q A (nl l)) ∧ Kept (Below w.heap.size w wr)) (fun _ x _ => (d - intOf x).toNat)
          case atStart => exact ⟨1, l3, rfl, Nat.le_refl _, hd, kept (by rw [HV3.out, Nat.pow_one]), HD3, kept (by have := HL3.out; omega), kept (HO3.out.mono HBk.out.size), HM3, HW3⟩
          case round =>
            obtain ⟨j, p, rfl, hj1, hjd, HVp, HDp, HLp, HOp, HMp, HWp⟩ := hrel
            rename World => W4
            obtain ⟨Ap, qp, cpp, rfl, hcp, hcmp, hmp⟩ := HOp.out.form
            rw [nl_len] at hcp HOp
            rw [nl_len]
            have HMP := kept hmp
            clear hmp hcp hcmp
            by_cases hjd2 : j < d
            · go_wp2_with (first
                | (go_at_call 29; refine (rdigits_any _ y hgy).mono ?_; rintro e4 w4 ⟨l4, v4, rfl, ho4, hb4, hv4, hd4, hl4⟩; obtain ⟨A4, q4, c4, rfl, hc4, hcm4, hm4⟩ := ho4.form; rw [nl_len]; have HM4 := kept hm4; have HB4 := kept hb4; have HV4 := kept hv4; have HD4 := kept hd4; have HL4 := kept hl4; have HMP4 := kept (HMP.out.below0 hb4); have HML4 := kept (HMp.out.below0 hb4); have HW4 := kept (HWp.out.trans (hb4.mono HWp.out.size)); clear ho4 hb4 hv4 hd4 hl4 hc4 hcm4 hm4)
                | (go_at_call 30; refine (rproduct_any w4 qp q4 Ap A4 cpp c4 p l4 HDp.out HD4.out HMP4.out HM4.out (by have := HLp.out; omega) (by have := HL4.out; omega)).mono ?_; rintro e5 w5 ⟨l5, v5, rfl, ho5, hb5, hv5, hd5, hl5⟩; have HO5 := kept (ho5.mono HW4.out.size); have HV5 := kept hv5; have HD5 := kept hd5; have HL5 := kept hl5; have HML5 := kept (HML4.out.below0 hb5); have HW5 := kept (HW4.out.trans (hb5.mono HW4.out.size)); clear ho5 hb5 hv5 hd5 hl5)
                | fail)
              go_roundw
              case rel => exact ⟨j + 1, l5, by first | go_num | (congr 1; omega), by omega, by omega, kept (by rw [HV5.out, HVp.out, HV4.out, Nat.pow_succ]), HD5, kept (by have := HL5.out; have := HLp.out; have := HL4.out; omega), HO5, HML5, HW5⟩
              case measure => simp [intOf]; omega
            · obtain rfl : j = d := by omega
              by_cases hgt : val l < val p
              · have hdec : decide (val l < val p) = true := by rw [decide_eq_true_iff]; exact hgt
                have hnx : rootG n j (k + 1) = g := by
                  rw [rootG, HG.out, HP2.out, HYY.out, ← HVp.out, ← HV.out, if_pos hgt]
                have HNX := kept hnx
                have HDEC := kept hdec
                clear hnx hgt hdec
                go_wp2_with (first | (go_at_call 31; refine (rgreater_any W4 qp q Ap A cpp cp p l HDp.out HD.out HMP.out HMp.out (by have := HLp.out; omega) (by have := HL.out; omega)).mono ?_; rintro e5 w5 ⟨rfl, rfl⟩; rw [HDEC.out]) | fail)
                go_roundw
                case rel =>
                  repeat apply Exists.intro
                  refine And.intro ?_ rfl
                  exact ⟨k + 1, by rw [HNX.out], by first | go_num | (congr 1; omega), by omega, HMp, HWp⟩
                case measure => simp [intOf]; omega
              · have hdec : decide (val l < val p) = false := by rw [decide_eq_false_iff_not]; exact hgt
                have hnx : rootG n j (k + 1) = y := by
                  rw [rootG, HG.out, HP2.out, HYY.out, ← HVp.out, ← HV.out, if_neg hgt]
                have HNX := kept hnx
                have HDEC := kept hdec
                clear hnx hgt hdec
                go_wp2_with (first | (go_at_call 31; refine (rgreater_any W4 qp q Ap A cpp cp p l HDp.out HD.out HMP.out HMp.out (by have := HLp.out; omega) (by have := HL.out; omega)).mono ?_; rintro e5 w5 ⟨rfl, rfl⟩; rw [HDEC.out]) | fail)
                go_roundw
                case rel =>
                  repeat apply Exists.intro
                  refine And.intro ?_ rfl
                  exact ⟨k + 1, by rw [HNX.out], by first | go_num | (congr 1; omega), by omega, HMp, HWp⟩
                case measure => simp [intOf]; omega
        · obtain rfl : k = 37 := by omega
          go_wp2_with fail
          go_ret
          exact ⟨by first | rfl | (unfold rootN; push_cast; rfl), HBk.out⟩
end Go.Proofs.YtgjnmoonceeenaaDoor
