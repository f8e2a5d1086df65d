/-
  Valid and Same of package name, by contracts.
-/
import Derived.Test.YtnejidaplbonoaaNcWord
import Derived.Test.YtnejidaplbonoaaNameS
import Derived.Test.YtnejidaplbonoaaNameF
namespace Go.Proofs.Ytnejidaplbonoaa
open Go.RowKit
set_option linter.unusedVariables false
set_option linter.unusedSimpArgs false

set_option maxHeartbeats 1600000 in
theorem nvalid_any (w : World) (R : ByteArray) (L : List ByteArray) (q : Nat) (A : Option Addr) (c : Nat) (hR : R.size ≤ maxLen) (hS : ∀ s ∈ L, s.size ≤ maxLen) (hl : L.length ≤ maxLen) (hm : MemS w q A L) :
    Calls Try.prog 11 #[.agg #[.string R, .slice A L.length c]] w fun e w' => e = .returned (.bool (isN (R, L))) ∧ Below w.heap.size w w' := by
  unfold maxLen at hl
  have HS := kept hS
  have HM := kept hm
  clear hS hm
  go_enter Try.func11, Try.ntmps11
  go_upto_region 1 with (fail)
  go_name_world W0 hW0
  have HB := kept (show Blk W0 w.heap.size 24 #[.string R, .slice A L.length c] by rw [← hW0]; exact Blk.new w _ _)
  have HW := kept (show Below w.heap.size w W0 by rw [← hW0]; exact (Below.refl _ w).alloc (Nat.le_refl _) _)
  replace HM := kept (HM.out.below0 HW.out)
  clear hW0
  have hc0 : W0.cell? ⟨w.heap.size, 0, none⟩ = some (.string R) := by rw [HB.out.cell]; rfl
  have hc1 : W0.cell? ⟨w.heap.size, 1, none⟩ = some (.slice A L.length c) := by rw [HB.out.cell]; rfl
  by_cases h1 : (L.length : Int) < 1
  · have HN := kept (show isN (R, L) = false by unfold isN; rw [decide_eq_false (p := 1 ≤ L.length) (by omega)]; simp)
    go_wp2
    go_ret
    exact ⟨ret_bool HN.out, HW.out⟩
  by_cases h8 : (8 : Int) < (L.length : Int)
  · have HN := kept (show isN (R, L) = false by unfold isN; rw [decide_eq_false (p := L.length ≤ 8) (by omega)]; simp)
    go_wp2
    go_ret
    exact ⟨ret_bool HN.out, HW.out⟩
  cases hb : isW R with
  | false =>
    have HN := kept (show isN (R, L) = false by unfold isN; rw [hb]; simp)
    go_wp2_with (first | (go_at_call 30; refine (nword_any R _ hR).mono ?_; rintro e w1 ⟨rfl, k1⟩))
    go_ret
    exact ⟨ret_bool HN.out, below_next HW.out k1⟩
  | true =>
    have HE := kept (show isN (R, L) = L.all isW by unfold isN; rw [hb, decide_eq_true (p := 1 ≤ L.length) (by omega), decide_eq_true (p := L.length ≤ 8) (by omega)]; simp)
    go_upto_region 3 with (first | (go_at_call 30; refine (nword_any R _ hR).mono ?_; rintro e w1 ⟨rfl, k1⟩))
    replace HB := kept (HB.out.below k1 HB.out.lt)
    replace HM := kept (HM.out.below0 k1)
    replace HW := kept (below_next HW.out k1)
    clear k1 hc0 hc1 hb
    have hc1 : w1.cell? ⟨w.heap.size, 1, none⟩ = some (.slice A L.length c) := by rw [HB.out.cell]; rfl
    go_wp2
    go_loopw [4, 24] (fun _ i wr => ∃ k : Nat, k ≤ L.length ∧ i = .int .i64 k ∧ Kept ((L.take k).all isW = true) ∧ Kept (Below w.heap.size w wr) ∧ Kept (MemS wr q A L)) (fun _ i _ => L.length - (intOf i).toNat)
    case atStart => exact ⟨0, Nat.zero_le _, rfl, kept rfl, HW, HM⟩
    case round =>
      obtain ⟨k, hk, rfl, HA, HW, HM⟩ := hrel
      by_cases hlt : k < L.length
      · obtain ⟨o, hA, hck⟩ := HM.out.at_ hlt
        subst hA
        have HZ := kept (HS.out _ (List.getElem_mem hlt))
        have hi0 : (0 : Int) ≤ (k : Int) := by omega
        have hi1 : (k : Int) < (L.length : Int) := by omega
        have HX := kept (fun h => all_take_next isW L k hlt HA.out h)
        have HY := kept (fun h => all_take_bad isW L k hlt h)
        generalize hs : L[k] = s at *
        cases hb : isW s with
        | true =>
          have HN := kept (HX.out hb)
          go_wp2_with (first | (go_at_call 30; refine (nword_any _ _ HZ.out).mono ?_; rintro e w2 ⟨rfl, k2⟩))
          go_roundw
          case rel => exact ⟨k + 1, by omega, by go_num, HN, kept (below_next HW.out k2), kept (HM.out.below0 k2)⟩
          case measure => simp [intOf]; omega
        | false =>
          have HN := kept (show isN (R, L) = false by rw [HE.out, HY.out hb])
          go_wp2_with (first | (go_at_call 30; refine (nword_any _ _ HZ.out).mono ?_; rintro e w2 ⟨rfl, k2⟩))
          go_ret
          exact ⟨ret_bool HN.out, below_next HW.out k2⟩
      · have HN := kept (show isN (R, L) = true by
          have h2 := HA.out
          rw [List.take_of_length_le (by omega)] at h2
          rw [HE.out, h2])
        go_wp2
        go_ret
        exact ⟨ret_bool HN.out, HW.out⟩
end Go.Proofs.Ytnejidaplbonoaa
