/-
  Same of package name, and slices.Equal of strings, by contracts.
-/
import Derived.Test.YtnejidaplbonoaaNameF
namespace Go.Proofs.Ytnejidaplbonoaa
open Go.RowKit
set_option linter.unusedVariables false
set_option linter.unusedSimpArgs false

set_option maxHeartbeats 1600000 in
theorem equalS_any (w : World) (L1 L2 : List ByteArray) (q1 q2 : Nat) (A1 A2 : Option Addr) (c1 c2 : Nat) (hl1 : L1.length ≤ maxLen) (hl2 : L2.length ≤ maxLen) (hm1 : MemS w q1 A1 L1) (hm2 : MemS w q2 A2 L2) :
    Calls Try.prog 42 #[.slice A1 L1.length c1, .slice A2 L2.length c2] w fun e w' => e = .returned (.bool (decide (L1 = L2))) ∧ Below w.heap.size w w' := by
  unfold maxLen at hl1 hl2
  have HM1 := kept hm1
  have HM2 := kept hm2
  clear hm1 hm2
  go_enter Try.func42, Try.ntmps42
  by_cases hL : L1.length = L2.length
  · have hll : ((L1.length : Int) != (L2.length : Int)) = false := by rw [hL]; simp
    have HL := kept hL
    clear hL
    go_upto_region 4 with (fail)
    go_loopw [5, 13] (fun _ i wr => ∃ k n : Nat, k ≤ L1.length ∧ i = .int .i64 k ∧ wr = w.drewN n ∧ Kept (L1.take k = L2.take k)) (fun _ i _ => L1.length - (intOf i).toNat)
    case atStart => exact ⟨0, 0, Nat.zero_le _, rfl, rfl, kept rfl⟩
    case round =>
      obtain ⟨k, n, hk, rfl, rfl, HA⟩ := hrel
      by_cases hlt : k < L1.length
      · have hlt2 : k < L2.length := by rw [← HL.out]; exact hlt
        obtain ⟨o1, hA1, hck1⟩ := HM1.out.at_ hlt
        obtain ⟨o2, hA2, hck2⟩ := HM2.out.at_ hlt2
        subst hA1 hA2
        have hi0 : (0 : Int) ≤ (k : Int) := by omega
        have hi1 : (k : Int) < (L1.length : Int) := by omega
        have hi2 : (k : Int) < (L2.length : Int) := by omega
        have HX := kept (show L1[k] = L2[k] → L1.take (k + 1) = L2.take (k + 1) from fun h => by rw [List.take_succ_eq_append_getElem hlt, List.take_succ_eq_append_getElem hlt2, HA.out, h])
        have HY := kept (show L1[k] ≠ L2[k] → L1 ≠ L2 from fun h e => h (by subst e; rfl))
        generalize hs1 : L1[k] = s1 at *
        generalize hs2 : L2[k] = s2 at *
        by_cases hs : s1 = s2
        · have hq : (s1.toList == s2.toList) = true := strb_eq hs
          have HN := kept (HX.out hs)
          go_wp2
          go_quiet (fail)
          go_wp2
          go_roundw
          case rel => exact ⟨k + 1, _, by omega, by go_num, rfl, HN⟩
          case measure => simp [intOf]; omega
        · have hq : (s1.toList == s2.toList) = false := strb_ne hs
          have HN := kept (show decide (L1 = L2) = false from decide_eq_false (HY.out hs))
          go_wp2
          go_quiet (fail)
          go_wp2
          go_ret
          exact ⟨ret_bool HN.out, below_drewN (below_drewN (Below.refl _ _) _) _⟩
      · have HN := kept (show decide (L1 = L2) = true by
          have h := HA.out
          rw [List.take_of_length_le (by omega), List.take_of_length_le (by have := HL.out; omega)] at h
          rw [h]
          simp)
        go_wp2
        go_ret
        exact ⟨ret_bool HN.out, below_drewN (Below.refl _ _) _⟩
  · have hll : ((L1.length : Int) != (L2.length : Int)) = true := by
      rw [bne_iff_ne]
      intro e
      exact hL (by omega)
    have HN := kept (show decide (L1 = L2) = false from decide_eq_false fun e => hL (by rw [e]))
    clear hL
    go_wp2
    go_ret
    exact ⟨ret_bool HN.out, Below.refl _ _⟩
set_option maxHeartbeats 1600000 in
theorem nsame_any (w : World) (R1 R2 : ByteArray) (L1 L2 : List ByteArray) (q1 q2 : Nat) (A1 A2 : Option Addr) (c1 c2 : Nat) (hl1 : L1.length ≤ maxLen) (hl2 : L2.length ≤ maxLen) (hm1 : MemS w q1 A1 L1) (hm2 : MemS w q2 A2 L2) :
    Calls Try.prog 24 #[.agg #[.string R1, .slice A1 L1.length c1], .agg #[.string R2, .slice A2 L2.length c2]] w fun e w' => e = .returned (.bool (decide (((R1, L1) : Nm) = (R2, L2)))) ∧ Below w.heap.size w w' := by
  have HM1 := kept hm1
  have HM2 := kept hm2
  have HL1 := kept hl1
  have HL2 := kept hl2
  clear hm1 hm2 hl1 hl2
  go_enter Try.func24, Try.ntmps24
  go_upto_region 1 with (fail)
  go_name_world W0 hW0
  have hbx := two_box (w := w) (T := 24) (a := #[.string R1, .slice A1 L1.length c1]) (b := #[.string R2, .slice A2 L2.length c2])
  rw [hW0] at hbx
  obtain ⟨hb2, hb1, hw⟩ := hbx
  have HB1 := kept hb1
  have HB2 := kept hb2
  have HW := kept hw
  replace HM1 := kept (HM1.out.below0 HW.out)
  replace HM2 := kept (HM2.out.below0 HW.out)
  clear hW0 hb1 hb2 hw
  have hc10 : W0.cell? ⟨w.heap.size, 0, none⟩ = some (.string R1) := by rw [HB1.out.cell]; rfl
  have hc11 : W0.cell? ⟨w.heap.size, 1, none⟩ = some (.slice A1 L1.length c1) := by rw [HB1.out.cell]; rfl
  have hc20 : W0.cell? ⟨w.heap.size + 1, 0, none⟩ = some (.string R2) := by rw [HB2.out.cell]; rfl
  have hc21 : W0.cell? ⟨w.heap.size + 1, 1, none⟩ = some (.slice A2 L2.length c2) := by rw [HB2.out.cell]; rfl
  by_cases hR : R1 = R2
  · subst hR
    have hbb := strb_eq (rfl : R1 = R1)
    have HN := kept (show decide (L1 = L2) = decide (((R1, L1) : Nm) = (R1, L2)) by
      by_cases h : L1 = L2
      · subst h; simp
      · rw [decide_eq_false h, decide_eq_false fun e => h (by injection e)])
    go_wp2_with (first | (go_at_call 42; refine (equalS_any W0 L1 L2 q1 q2 A1 A2 c1 c2 HL1.out HL2.out HM1.out HM2.out).mono ?_; rintro e w1 ⟨rfl, k1⟩))
    go_ret
    exact ⟨ret_bool HN.out.symm, below_next HW.out k1⟩
  · have hbb := strb_ne hR
    have HN := kept (show decide (((R1, L1) : Nm) = (R2, L2)) = false from decide_eq_false fun e => hR (by injection e))
    go_wp2
    go_ret
    exact ⟨ret_bool HN.out, HW.out⟩
end Go.Proofs.Ytnejidaplbonoaa
