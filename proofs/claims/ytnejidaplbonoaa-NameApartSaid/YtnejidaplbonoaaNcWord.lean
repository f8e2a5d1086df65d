/-
  isWord of package name, by a contract.
-/
import Derived.Test.YtnejidaplbonoaaRangeStr
namespace Go.Proofs.Ytnejidaplbonoaa
open Go.RowKit
set_option linter.unusedVariables false
set_option linter.unusedSimpArgs false

set_option maxHeartbeats 1000000 in
theorem nword_any (s : ByteArray) (w : World) (hs : s.size ≤ maxLen) : Calls Try.prog 30 #[.string s] w fun e w' => e = .returned (.bool (isW s)) ∧ Below w.heap.size w w' := by
  by_cases hl : s.size < 1 ∨ 100 < s.size
  · rw [isW_long s hl]
    rcases hl with h | h
    · have h0 : (s.size : Int) < 1 := by omega
      go_enter Try.func30, Try.ntmps30
      go_wp2
      go_ret
      exact ⟨rfl, Below.refl _ _⟩
    · have h0 : ¬ (s.size : Int) < 1 := by omega
      have h1 : (100 : Int) < (s.size : Int) := by omega
      go_enter Try.func30, Try.ntmps30
      go_wp2
      go_ret
      exact ⟨rfl, Below.refl _ _⟩
  · have h0 : ¬ (s.size : Int) < 1 := by omega
    have h1 : ¬ (100 : Int) < (s.size : Int) := by omega
    obtain ⟨Z, hZ⟩ : ∃ Z, isW s = Z := ⟨_, rfl⟩
    have HZ := kept hZ
    rw [hZ]
    clear hZ
    go_enter Try.func30, Try.ntmps30
    go_wp2
    go_loopw [4] (fun _ w' => ∃ k : Nat, w' = w.iter s k ∧ Kept (okTo s k)) (fun _ w' => s.size - w'.iterPos w.heap.size)
    case atStart => exact ⟨0, rfl, kept (okTo_zero s)⟩
    case round =>
      obtain ⟨k, rfl, HO⟩ := hrel
      by_cases hp : k < s.size
      · have hnx : ∀ ty, (Instr.next (.pointer (some ⟨w.heap.size, 0, none⟩)) true ty).run Try.prog (w.iter s k) = _ := fun ty => run_next_any w s k ty hp
        cases hb : okB s[k] with
        | true =>
          obtain ⟨e1, e2, e3⟩ := rune_ok s k hp hb
          rw [e1] at hnx
          have HN := kept (okTo_next s k hp HO.out hb)
          obtain ⟨b, hbn⟩ : ∃ b, s[k].toNat = b := ⟨_, rfl⟩
          rw [hbn] at hnx e2 e3
          have t1 : ¬ (b : Int) < 33 := by omega
          have t2 : ¬ (126 : Int) < (b : Int) := by omega
          clear e1 hb hbn
          go_wp2
          go_roundw
          case rel => exact ⟨k + 1, rfl, HN⟩
          case measure => simp; omega
        | false =>
          have hr := rune_bad s k hp hb
          have HN := kept (isW_bad s k hp hb)
          obtain ⟨⟨r, n⟩, hrn⟩ : ∃ p, Utf8.decode s k = p := ⟨_, rfl⟩
          rw [hrn] at hnx hr
          simp only at hnx hr
          clear hrn hb
          rcases hr with hr | hr
          · have t1 : (r : Int) < 33 := by omega
            go_wp2
            go_ret
            exact ⟨by rw [← HZ.out, HN.out]; rfl, iter_below _ _ _⟩
          · have t1 : ¬ (r : Int) < 33 := by omega
            have t2 : (126 : Int) < (r : Int) := by omega
            go_wp2
            go_ret
            exact ⟨by rw [← HZ.out, HN.out]; rfl, iter_below _ _ _⟩
      · have hnx : ∀ ty, (Instr.next (.pointer (some ⟨w.heap.size, 0, none⟩)) true ty).run Try.prog (w.iter s k) = _ := fun ty => run_next_end w s k ty hp
        have HN := kept (isW_all s (by omega) (by omega) fun j h _ => HO.out j h (by omega))
        go_wp2
        go_ret
        exact ⟨by rw [← HZ.out, HN.out]; rfl, iter_below _ _ _⟩
end Go.Proofs.Ytnejidaplbonoaa
