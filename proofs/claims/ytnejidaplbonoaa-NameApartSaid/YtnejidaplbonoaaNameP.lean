/-
  The reference's plain.
-/
import Derived.Test.YtnejidaplbonoaaNameE
namespace Go.Proofs.Ytnejidaplbonoaa
open Go.RowKit
set_option linter.unusedVariables false

theorem plainL_mark (c : UInt8) (r : List UInt8) : plainL (92 :: c :: r) = c :: plainL r := by
  rw [plainL, if_pos rfl]
theorem plainL_last (b : UInt8) : plainL [b] = [b] := by rw [plainL]
theorem plainL_next (b : UInt8) (r : List UInt8) (h : b ≠ 92) : plainL (b :: r) = b :: plainL r := by
  cases r with
  | nil => rw [plainL, plainL]
  | cons c r => rw [plainL, if_neg h]
theorem drop_at (s : ByteArray) (k : Nat) (h : k < s.size) : s.data.toList.drop k = s[k] :: s.data.toList.drop (k + 1) := by
  rw [List.drop_eq_getElem_cons (by simpa using h)]
  rfl
theorem drop_end (s : ByteArray) (k : Nat) (h : s.size ≤ k) : s.data.toList.drop k = [] := List.drop_of_length_le (by simpa using h)
theorem replain_any (s : ByteArray) (w : World) (hs : s.size ≤ 1000000) :
    Calls Try.prog 39 #[.string s] w fun e w' => e = .returned (.string (strOf (plainL s.data.toList))) ∧ w' = w := by
  go_enter Try.func39, Try.ntmps39
  go_wp2
  go_loop [3, 4] (fun out i => ∃ (k : Nat) (O : List UInt8), k ≤ s.size ∧ i = .int .i64 k ∧ out = .string (strOf O) ∧ O.length ≤ k ∧ Kept (plainL s.data.toList = O ++ plainL (s.data.toList.drop k))) (fun _ i => s.size - (intOf i).toNat)
  case atStart => exact ⟨0, [], Nat.zero_le _, rfl, rfl, Nat.le_refl _, kept rfl⟩
  case round =>
    obtain ⟨k, O, hk, rfl, rfl, hO, HA⟩ := hrel
    obtain ⟨X, hX⟩ : ∃ X, strOf O = X := ⟨_, rfl⟩
    have hXs : X.size ≤ 1000000 := by
      rw [← hX, strOf_size]
      omega
    have HX := kept hX
    rw [hX]
    clear hX
    by_cases hlt : k < s.size
    · have hd := drop_at s k hlt
      have hmin : min (k + 1) s.size - k = 1 := by omega
      have hone := str_one s k hlt
      have HG := kept (fun (b : UInt8) (h : s[k] = b) => (show X ++ s.extract k (k + 1) = strOf (O ++ [b]) by rw [hone, ← HX.out, strOf_append, h]))
      by_cases hm : s[k] = 92 ∧ k + 1 < s.size
      · obtain ⟨h1, h2⟩ := hm
        have hd2 := drop_at s (k + 1) h2
        have hmin2 : min (k + 1 + 1) s.size - (k + 1) = 1 := by omega
        have hone2 := str_one s (k + 1) h2
        have HN := kept (show plainL s.data.toList = (O ++ [s[k + 1]]) ++ plainL (s.data.toList.drop (k + 1 + 1)) by
          rw [HA.out, hd, hd2, h1, plainL_mark, List.append_assoc]
          rfl)
        have HH := kept (show X ++ s.extract (k + 1) (k + 1 + 1) = strOf (O ++ [s[k + 1]]) by rw [hone2, ← HX.out, strOf_append])
        have hi2 : (k : Int) + 1 < (s.size : Int) := by omega
        have hz1 : ¬ 9223372036854775807 < X.size + 1 := by omega
        have hb : s[k] = 92 := h1
        clear hd hd2 hone hone2 HG
        have hbn : ((s[k].toNat : Nat) : Int) = 92 := by rw [hb]; rfl
        go_wp2
        go_round
        case rel => exact ⟨k + 1 + 1, O ++ [s[k + 1]], by omega, by go_num, by rw [HH.out], by rw [List.length_append, List.length_cons, List.length_nil]; omega, HN⟩
        case measure => simp [intOf]; omega
      · have HN := kept (show plainL s.data.toList = (O ++ [s[k]]) ++ plainL (s.data.toList.drop (k + 1)) by
          rw [HA.out, hd, List.append_assoc]
          by_cases h1 : s[k] = 92
          · have h2 : s.size ≤ k + 1 := by
              by_cases h : k + 1 < s.size
              · exact absurd ⟨h1, h⟩ hm
              · omega
            rw [drop_end s (k + 1) h2, plainL_last]
            rfl
          · rw [plainL_next _ _ h1]
            rfl)
        have HH := kept (HG.out s[k] rfl)
        have hz1 : ¬ 9223372036854775807 < X.size + 1 := by omega
        have HM := kept hm
        clear hd hone HG hm
        by_cases h1 : s[k] = 92
        · have hbn : ((s[k].toNat : Nat) : Int) = 92 := by rw [h1]; rfl
          have hi2 : decide ((k : Int) + 1 < (s.size : Int)) = false := decide_eq_false fun z => HM.out ⟨h1, by omega⟩
          clear h1
          go_wp2
          go_round
          case rel => exact ⟨k + 1, O ++ [s[k]], by omega, by go_num, by rw [HH.out], by rw [List.length_append, List.length_cons, List.length_nil]; omega, HN⟩
          case measure => simp [intOf]; omega
        · have hbn : ((s[k].toNat : Int) == 92) = false := beq_false_of_ne fun z => h1 (UInt8.toNat_inj.1 (by show s[k].toNat = 92; omega))
          clear h1
          go_wp2
          go_round
          case rel => exact ⟨k + 1, O ++ [s[k]], by omega, by go_num, by rw [HH.out], by rw [List.length_append, List.length_cons, List.length_nil]; omega, HN⟩
          case measure => simp [intOf]; omega
    · have HN := kept (show strOf (plainL s.data.toList) = X by
        rw [HA.out, drop_end s k (by omega), ← HX.out]
        show strOf (O ++ []) = strOf O
        rw [List.append_nil])
      go_wp2
      go_ret
      exact ⟨ret_str HN.out, rfl⟩
end Go.Proofs.Ytnejidaplbonoaa
