/-
  The reference's Valid, by what the document says of a name.
-/
import Derived.Test.YtnejidaplbonoaaNameW
import Derived.Deep.Cut
import Derived.Lib.ItoaWalk
namespace Go.Proofs.Ytnejidaplbonoaa
open Go.RowKit
set_option linter.unusedVariables false

theorem ret_bool {a b : Bool} (h : b = a) : Ending.returned (.bool a) = .returned (.bool b) := by rw [h]
theorem all_take_bad {α : Type} (f : α → Bool) (L : List α) (k : Nat) (h : k < L.length) (hb : f L[k] = false) : L.all f = false := by
  rw [List.all_eq_false]
  exact ⟨_, List.getElem_mem h, by rw [hb]; simp⟩
theorem all_take_next {α : Type} (f : α → Bool) (L : List α) (k : Nat) (h : k < L.length) (ha : (L.take k).all f = true) (hb : f L[k] = true) : (L.take (k + 1)).all f = true := by
  rw [List.take_succ_eq_append_getElem h, List.all_append, ha, List.all_cons, hb]
  rfl
theorem revalid_any (w : World) (R : ByteArray) (L : List ByteArray) (q : Nat) (A : Option Addr) (c : Nat) (hR : R.size ≤ maxLen) (hS : ∀ s ∈ L, s.size ≤ maxLen) (hl : L.length ≤ 9223372036854775807) (hm : MemS w q A L) :
    Calls Try.prog 12 #[.agg #[.string R, .slice A L.length c]] w fun e w' => e = .returned (.bool (isN (R, L))) ∧ Below w.heap.size w w' := by
  have HS := kept hS
  have HM := kept hm
  clear hS hm
  go_enter Try.func12, Try.ntmps12
  go_upto_region 2 with (fail)
  go_name_world W0 hW0
  have HB := kept (show Blk W0 w.heap.size 24 #[.string R, .slice A L.length c] by rw [← hW0]; exact Blk.new w _ _)
  have HW := kept (show Below w.heap.size w W0 by rw [← hW0]; exact (Below.refl _ w).alloc (Nat.le_refl _) _)
  replace HM := kept (HM.out.below0 HW.out)
  clear hW0
  have hc0 : W0.cell? ⟨w.heap.size, 0, none⟩ = some (.string R) := by rw [HB.out.cell]; rfl
  have hc1 : W0.cell? ⟨w.heap.size, 1, none⟩ = some (.slice A L.length c) := by rw [HB.out.cell]; rfl
  go_loop [3] (fun i => ∃ k : Nat, k ≤ L.length ∧ i = .int .i64 k ∧ Kept ((L.take k).all isW = true)) (fun i => L.length - (intOf i).toNat)
  case atStart => exact ⟨0, Nat.zero_le _, rfl, kept rfl⟩
  case round =>
    obtain ⟨k, hk, rfl, HA⟩ := hrel
    by_cases hlt : k < L.length
    · obtain ⟨o, hA, hck⟩ := HM.out.at_ hlt
      subst hA
      have HZ := kept (HS.out _ (List.getElem_mem hlt))
      have hi0 : (0 : Int) ≤ (k : Int) := by omega
      have hi1 : (k : Int) < (L.length : Int) := by omega
      have HX := kept (fun h => all_take_next isW L k hlt HA.out h)
      have HY := kept (fun h => all_take_bad isW L k hlt h)
      generalize hs : L[k] = s at *
      cases hb : isW s with
      | true =>
        have HN := kept (HX.out hb)
        go_wp2_with (first | (go_at_call 31; refine (reword_any _ _ HZ.out).mono ?_; rintro e w1 ⟨rfl, rfl⟩))
        go_round
        case rel => exact ⟨k + 1, by omega, by go_num, HN⟩
        case measure => simp [intOf]; omega
      | false =>
        have HN := kept (show isN (R, L) = false by
          unfold isN
          rw [HY.out hb]
          simp)
        go_wp2_with (first | (go_at_call 31; refine (reword_any _ _ HZ.out).mono ?_; rintro e w1 ⟨rfl, rfl⟩))
        go_ret
        exact ⟨ret_bool HN.out, HW.out⟩
    · have he : isN (R, L) = (isW R && decide (1 ≤ L.length) && decide (L.length ≤ 8)) := by
        unfold isN
        have h2 := HA.out
        rw [List.take_of_length_le (by omega)] at h2
        simp only [h2, Bool.true_and]
      have HE := kept he
      clear he
      cases hb : isW R with
      | true =>
        rw [hb, Bool.true_and] at HE
        by_cases h1 : (0 : Int) < (L.length : Int)
        · by_cases h2 : (L.length : Int) < 9
          · have HR := kept (show isN (R, L) = true by rw [HE.out, decide_eq_true (by omega), decide_eq_true (by omega)]; rfl)
            go_wp2_with (first | (go_at_call 31; refine (reword_any _ _ hR).mono ?_; rintro e w1 ⟨rfl, rfl⟩))
            go_ret
            exact ⟨ret_bool HR.out, HW.out⟩
          · have h3 : decide ((L.length : Int) < 9) = false := decide_eq_false h2
            have HR := kept (show isN (R, L) = false by rw [HE.out, decide_eq_false (p := L.length ≤ 8) (by omega), Bool.and_false])
            go_wp2_with (first | (go_at_call 31; refine (reword_any _ _ hR).mono ?_; rintro e w1 ⟨rfl, rfl⟩))
            go_ret
            exact ⟨ret_bool HR.out, HW.out⟩
        · have h3 : decide ((0 : Int) < (L.length : Int)) = false := decide_eq_false h1
          have HR := kept (show isN (R, L) = false by rw [HE.out, decide_eq_false (p := 1 ≤ L.length) (by omega)]; rfl)
          go_wp2_with (first | (go_at_call 31; refine (reword_any _ _ hR).mono ?_; rintro e w1 ⟨rfl, rfl⟩))
          go_ret
          exact ⟨ret_bool HR.out, HW.out⟩
      | false =>
        rw [hb] at HE
        have HR := kept (show isN (R, L) = false by rw [HE.out]; rfl)
        go_wp2_with (first | (go_at_call 31; refine (reword_any _ _ hR).mono ?_; rintro e w1 ⟨rfl, rfl⟩))
        go_ret
        exact ⟨ret_bool HR.out, HW.out⟩
end Go.Proofs.Ytnejidaplbonoaa
