/-
  The reference's Few and Same, of names.
-/
import Derived.Test.YtnejidaplbonoaaNameV
namespace Go.Proofs.Ytnejidaplbonoaa
open Go.RowKit
set_option linter.unusedVariables false

/-- A small name, of any words. -/
def isF (n : Nm) : Bool := n.2.all (fun s => decide (s.size ≤ 300)) && decide (n.1.size ≤ 300) && decide (n.2.length ≤ 20)
theorem refew_any (w : World) (R : ByteArray) (L : List ByteArray) (q : Nat) (A : Option Addr) (c : Nat) (hl : L.length ≤ 9223372036854775807) (hm : MemS w q A L) :
    Calls Try.prog 8 #[.agg #[.string R, .slice A L.length c]] w fun e w' => e = .returned (.bool (isF (R, L))) ∧ Below w.heap.size w w' := by
  have HM := kept hm
  clear hm
  go_enter Try.func8, Try.ntmps8
  go_upto_region 2 with (fail)
  go_name_world W0 hW0
  have HB := kept (show Blk W0 w.heap.size 24 #[.string R, .slice A L.length c] by rw [← hW0]; exact Blk.new w _ _)
  have HW := kept (show Below w.heap.size w W0 by rw [← hW0]; exact (Below.refl _ w).alloc (Nat.le_refl _) _)
  replace HM := kept (HM.out.below0 HW.out)
  clear hW0
  have hc0 : W0.cell? ⟨w.heap.size, 0, none⟩ = some (.string R) := by rw [HB.out.cell]; rfl
  have hc1 : W0.cell? ⟨w.heap.size, 1, none⟩ = some (.slice A L.length c) := by rw [HB.out.cell]; rfl
  go_loop [3] (fun i => ∃ k : Nat, k ≤ L.length ∧ i = .int .i64 k ∧ Kept ((L.take k).all (fun s => decide (s.size ≤ 300)) = true)) (fun i => L.length - (intOf i).toNat)
  case atStart => exact ⟨0, Nat.zero_le _, rfl, kept rfl⟩
  case round =>
    obtain ⟨k, hk, rfl, HA⟩ := hrel
    by_cases hlt : k < L.length
    · obtain ⟨o, hA, hck⟩ := HM.out.at_ hlt
      subst hA
      have hi0 : (0 : Int) ≤ (k : Int) := by omega
      have hi1 : (k : Int) < (L.length : Int) := by omega
      have HX := kept (fun h => all_take_next (fun s : ByteArray => decide (s.size ≤ 300)) L k hlt HA.out h)
      have HY := kept (fun h => all_take_bad (fun s : ByteArray => decide (s.size ≤ 300)) L k hlt h)
      generalize hs : L[k] = s at *
      by_cases h3 : (300 : Int) < (s.size : Int)
      · have HN := kept (show isF (R, L) = false by
          unfold isF
          rw [HY.out (decide_eq_false (by omega))]
          simp)
        go_wp2
        go_ret
        exact ⟨ret_bool HN.out, HW.out⟩
      · have HN := kept (HX.out (decide_eq_true (by omega)))
        go_wp2
        go_round
        case rel => exact ⟨k + 1, by omega, by go_num, HN⟩
        case measure => simp [intOf]; omega
    · have he : isF (R, L) = (decide (R.size ≤ 300) && decide (L.length ≤ 20)) := by
        unfold isF
        have h2 := HA.out
        rw [List.take_of_length_le (by omega)] at h2
        simp only [h2, Bool.true_and]
      have HE := kept he
      clear he
      by_cases h1 : (R.size : Int) ≤ 300
      · by_cases h2 : (L.length : Int) ≤ 20
        · have HR := kept (show isF (R, L) = true by rw [HE.out, decide_eq_true (by omega), decide_eq_true (by omega)]; rfl)
          go_wp2
          go_ret
          exact ⟨ret_bool HR.out, HW.out⟩
        · have h3 : decide ((L.length : Int) ≤ 20) = false := decide_eq_false h2
          have HR := kept (show isF (R, L) = false by rw [HE.out, decide_eq_false (p := L.length ≤ 20) (by omega), Bool.and_false])
          go_wp2
          go_ret
          exact ⟨ret_bool HR.out, HW.out⟩
      · have h3 : decide ((R.size : Int) ≤ 300) = false := decide_eq_false h1
        have HR := kept (show isF (R, L) = false by rw [HE.out, decide_eq_false (p := R.size ≤ 300) (by omega), Bool.false_and])
        go_wp2
        go_ret
        exact ⟨ret_bool HR.out, HW.out⟩
theorem two_box {w : World} {T : TypeId} {a b : Array Value} : Blk ((w.alloc (.cells a T)).alloc (.cells b T)) (w.heap.size + 1) T b ∧ Blk ((w.alloc (.cells a T)).alloc (.cells b T)) w.heap.size T a ∧ Below w.heap.size w ((w.alloc (.cells a T)).alloc (.cells b T)) := by
  have hb0 := Blk.new (w.alloc (.cells a T)) T b
  simp only [World.size_alloc] at hb0
  exact ⟨hb0, (Blk.new w T a).alloc (.cells b T), ((Below.refl w.heap.size w).alloc (Nat.le_refl _) (.cells a T)).alloc (by simp) (.cells b T)⟩
theorem resame_any (w : World) (R1 R2 : ByteArray) (L1 L2 : List ByteArray) (q1 q2 : Nat) (A1 A2 : Option Addr) (c1 c2 : Nat) (hl1 : L1.length ≤ 9223372036854775807) (hl2 : L2.length ≤ 9223372036854775807) (hm1 : MemS w q1 A1 L1) (hm2 : MemS w q2 A2 L2) :
    Calls Try.prog 19 #[.agg #[.string R1, .slice A1 L1.length c1], .agg #[.string R2, .slice A2 L2.length c2]] w fun e w' => e = .returned (.bool (decide (((R1, L1) : Nm) = (R2, L2)))) ∧ Below w.heap.size w w' := by
  have HM1 := kept hm1
  have HM2 := kept hm2
  clear hm1 hm2
  go_enter Try.func19, Try.ntmps19
  go_upto_region 1 with (fail)
  go_name_world W0 hW0
  have hbx := two_box (w := w) (T := 24) (a := #[.string R1, .slice A1 L1.length c1]) (b := #[.string R2, .slice A2 L2.length c2])
  rw [hW0] at hbx
  obtain ⟨hb2, hb1, hw⟩ := hbx
  have HB1 := kept hb1
  have HB2 := kept hb2
  have HW := kept hw
  replace HM1 := kept (HM1.out.below0 HW.out)
  replace HM2 := kept (HM2.out.below0 HW.out)
  clear hW0 hb1 hb2 hw
  have hc10 : W0.cell? ⟨w.heap.size, 0, none⟩ = some (.string R1) := by rw [HB1.out.cell]; rfl
  have hc11 : W0.cell? ⟨w.heap.size, 1, none⟩ = some (.slice A1 L1.length c1) := by rw [HB1.out.cell]; rfl
  have hc20 : W0.cell? ⟨w.heap.size + 1, 0, none⟩ = some (.string R2) := by rw [HB2.out.cell]; rfl
  have hc21 : W0.cell? ⟨w.heap.size + 1, 1, none⟩ = some (.slice A2 L2.length c2) := by rw [HB2.out.cell]; rfl
  by_cases hR : R1 = R2
  · subst hR
    by_cases hL : L1.length = L2.length
    · have hll : ((L1.length : Int) != (L2.length : Int)) = false := by rw [hL]; simp
      have hbb := strb_eq (rfl : R1 = R1)
      have HL := kept hL
      clear hL
      go_upto_region 4 with (fail)
      go_loopw [5] (fun i wr => ∃ k n : Nat, k ≤ L1.length ∧ i = .int .i64 k ∧ wr = W0.drewN n ∧ Kept (L1.take k = L2.take k)) (fun i _ => L1.length - (intOf i).toNat)
      case atStart => exact ⟨0, 0, Nat.zero_le _, rfl, rfl, kept rfl⟩
      case round =>
        obtain ⟨k, n, hk, rfl, rfl, HA⟩ := hrel
        by_cases hlt : k < L1.length
        · have hlt2 : k < L2.length := by rw [← HL.out]; exact hlt
          obtain ⟨o1, hA1, hck1⟩ := HM1.out.at_ hlt
          obtain ⟨o2, hA2, hck2⟩ := HM2.out.at_ hlt2
          subst hA1 hA2
          have hi0 : (0 : Int) ≤ (k : Int) := by omega
          have hi1 : (k : Int) < (L1.length : Int) := by omega
          have hi2 : (k : Int) < (L2.length : Int) := by omega
          have HX := kept (show L1[k] = L2[k] → L1.take (k + 1) = L2.take (k + 1) from fun h => by rw [List.take_succ_eq_append_getElem hlt, List.take_succ_eq_append_getElem hlt2, HA.out, h])
          have HY := kept (show L1[k] ≠ L2[k] → L1 ≠ L2 from fun h e => h (by subst e; rfl))
          generalize hs1 : L1[k] = s1 at *
          generalize hs2 : L2[k] = s2 at *
          by_cases hs : s1 = s2
          · have hq := strb_eq hs
            have HN := kept (HX.out hs)
            go_wp2
            go_quiet (fail)
            go_wp2
            go_roundw
            case rel => exact ⟨k + 1, _, by omega, by go_num, rfl, HN⟩
            case measure => simp [intOf]; omega
          · have hq := strb_ne hs
            have HN := kept (show decide (((R1, L1) : Nm) = (R1, L2)) = false from decide_eq_false fun e => HY.out hs (by injection e))
            go_wp2
            go_quiet (fail)
            go_wp2
            go_ret
            exact ⟨ret_bool HN.out, below_drewN (below_drewN HW.out _) _⟩
        · have HN := kept (show decide (((R1, L1) : Nm) = (R1, L2)) = true by
            have h := HA.out
            rw [List.take_of_length_le (by omega), List.take_of_length_le (by have := HL.out; omega)] at h
            rw [h]
            simp)
          go_wp2
          go_ret
          exact ⟨ret_bool HN.out, below_drewN HW.out _⟩
    · have hll : ((L1.length : Int) != (L2.length : Int)) = true := by
        rw [bne_iff_ne]
        intro e
        exact hL (by omega)
      have hbb := strb_eq (rfl : R1 = R1)
      have HN := kept (show decide (((R1, L1) : Nm) = (R1, L2)) = false from decide_eq_false fun e => hL (by injection e with _ e; rw [e]))
      go_wp2
      go_ret
      exact ⟨ret_bool HN.out, HW.out⟩
  · have hbb := strb_ne hR
    have HN := kept (show decide (((R1, L1) : Nm) = (R2, L2)) = false from decide_eq_false fun e => hR (by injection e))
    go_wp2
    go_ret
    exact ⟨ret_bool HN.out, HW.out⟩
end Go.Proofs.Ytnejidaplbonoaa
