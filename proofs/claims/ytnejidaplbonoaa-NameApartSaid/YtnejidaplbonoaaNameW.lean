/-
  The reference's Word, by what the document says of a word.
-/
import Derived.Test.YtnejidaplbonoaaNameM
namespace Go.Proofs.Ytnejidaplbonoaa
open Go.RowKit
set_option linter.unusedVariables false

theorem reword_any (s : ByteArray) (w : World) (hs : s.size ≤ maxLen) :
    Calls Try.prog 31 #[.string s] w fun e w' => e = .returned (.bool (isW s)) ∧ w' = w := by
  unfold maxLen at hs
  go_enter Try.func31, Try.ntmps31
  go_wp2
  go_loop [3] (fun i => ∃ k : Nat, k ≤ s.size ∧ i = .int .i64 k ∧ Kept ((s.data.toList.take k).all okB = true)) (fun i => s.size - (intOf i).toNat)
  case atStart => exact ⟨0, Nat.zero_le _, rfl, kept rfl⟩
  case round =>
    obtain ⟨k, hk, rfl, HA⟩ := hrel
    by_cases hlt : k < s.size
    · have HB := kept (fun h => isW_bad s k hlt h)
      have HT := kept (str_take s k hlt)
      by_cases h1 : (s[k].toNat : Int) < 33
      · have hok : okB s[k] = false := by
          unfold okB
          rw [decide_eq_false (by omega), Bool.false_and]
        have HW := kept (HB.out hok)
        clear hok
        go_wp2
        go_ret
        exact ⟨by rw [HW.out]; rfl, rfl⟩
      · by_cases h2 : 126 < (s[k].toNat : Int)
        · have hok : okB s[k] = false := by
            unfold okB
            rw [decide_eq_false (p := s[k].toNat ≤ 126) (by omega), Bool.and_false]
          have HW := kept (HB.out hok)
          clear hok
          go_wp2
          go_ret
          exact ⟨by rw [HW.out]; rfl, rfl⟩
        · have hok : okB s[k] = true := by
            unfold okB
            rw [decide_eq_true (by omega), decide_eq_true (by omega), Bool.and_true]
          have HN := kept (show (s.data.toList.take (k + 1)).all okB = true by
            rw [HT.out, List.all_append, HA.out, List.all_cons, hok]
            rfl)
          clear hok
          go_wp2
          go_round
          case rel => exact ⟨k + 1, by omega, by go_num, HN⟩
          case measure => simp [intOf]; omega
    · have he : isW s = (decide (1 ≤ s.size) && decide (s.size ≤ 100)) := by
        unfold isW
        have h2 := HA.out
        rw [List.take_of_length_le (by simp; omega)] at h2
        rw [h2, Bool.and_true]
      have HE := kept he
      clear he
      by_cases h1 : (1 : Int) ≤ (s.size : Int)
      · by_cases h2 : (s.size : Int) ≤ 100
        · go_wp2
          go_ret
          exact ⟨by rw [HE.out, decide_eq_true (by omega), decide_eq_true (by omega)]; rfl, rfl⟩
        · go_wp2
          go_ret
          exact ⟨by rw [HE.out, decide_eq_false (p := s.size ≤ 100) (by omega), Bool.and_false]; rfl, rfl⟩
      · go_wp2
        go_ret
        exact ⟨by rw [HE.out, decide_eq_false (p := 1 ≤ s.size) (by omega), Bool.false_and]; rfl, rfl⟩
end Go.Proofs.Ytnejidaplbonoaa
