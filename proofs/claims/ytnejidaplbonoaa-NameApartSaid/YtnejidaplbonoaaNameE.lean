/-
  The reference's escape and plain.
-/
import Derived.Test.YtnejidaplbonoaaNameF
namespace Go.Proofs.Ytnejidaplbonoaa
open Go.RowKit
set_option linter.unusedVariables false

theorem ret_str {a b : ByteArray} (h : b = a) : Ending.returned (.string a) = .returned (.string b) := by rw [h]
theorem byte_eq (b : UInt8) (n : Nat) (h : n < 256) : ((b.toNat : Int) == (n : Int)) = (b == UInt8.ofNat n) := by
  have hn : (UInt8.ofNat n).toNat = n := by rw [UInt8.toNat_ofNat']; omega
  by_cases e : b = UInt8.ofNat n
  · subst e
    rw [hn]
    simp
  · rw [beq_false_of_ne e]
    exact beq_false_of_ne fun z => e (UInt8.toNat_inj.1 (by rw [hn]; omega))
theorem reesc_any (s : ByteArray) (w : World) (hs : s.size ≤ 1000000) :
    Calls Try.prog 32 #[.string s] w fun e w' => e = .returned (.string (strOf (escL s.data.toList))) ∧ w' = w := by
  go_enter Try.func32, Try.ntmps32
  go_wp2
  go_loop [3, 4] (fun out i => ∃ k : Nat, k ≤ s.size ∧ i = .int .i64 k ∧ out = .string (strOf (escL (s.data.toList.take k)))) (fun _ i => s.size - (intOf i).toNat)
  case atStart => exact ⟨0, Nat.zero_le _, rfl, rfl⟩
  case round =>
    obtain ⟨k, hk, rfl, rfl⟩ := hrel
    have HL := kept (escL_len (s.data.toList.take k))
    have HK := kept (List.length_take_le k s.data.toList)
    have HZ := kept (strOf_size (escL (s.data.toList.take k)))
    obtain ⟨X, hX⟩ : ∃ X, strOf (escL (s.data.toList.take k)) = X := ⟨_, rfl⟩
    have HXE := kept hX
    have hXs : X.size ≤ 2000000 := by
      rw [← hX, HZ.out]
      have h1 := HL.out
      have h2 := HK.out
      omega
    rw [hX]
    by_cases hlt : k < s.size
    · have hmin : min (k + 1) s.size - k = 1 := by omega
      have hz1 : ¬ 9223372036854775807 < X.size + 1 := by omega
      have hz2 : ¬ 9223372036854775807 < X.size + 1 + 1 := by omega
      have hT := str_take s k hlt
      have hS := escL_snoc (s.data.toList.take k) s[k]
      have hO := str_one s k hlt
      generalize hb : s[k] = b at *
      have HF := kept (show isM b = true → X ++ ⟨#[92]⟩ ++ s.extract k (k + 1) = strOf (escL (s.data.toList.take (k + 1))) from fun h => by
        rw [hO, hT, hS, if_pos h, ← hX]
        refine (congrArg (· ++ strOf [b]) (strOf_append _ [92])).trans ?_
        rw [strOf_append, List.append_assoc]
        rfl)
      have HG := kept (show isM b = false → X ++ s.extract k (k + 1) = strOf (escL (s.data.toList.take (k + 1))) from fun h => by
        rw [hO, hT, hS, if_neg (by rw [h]; simp), ← hX, strOf_append])
      clear hT hS hO hX HL HK HZ HXE
      by_cases h1 : b = 47
      · subst h1
        go_wp2
        go_round
        case rel => exact ⟨k + 1, by omega, by go_num, by rw [HF.out rfl]⟩
        case measure => simp [intOf]; omega
      by_cases h2 : b = 64
      · subst h2
        go_wp2
        go_round
        case rel => exact ⟨k + 1, by omega, by go_num, by rw [HF.out rfl]⟩
        case measure => simp [intOf]; omega
      by_cases h3 : b = 92
      · subst h3
        go_wp2
        go_round
        case rel => exact ⟨k + 1, by omega, by go_num, by rw [HF.out rfl]⟩
        case measure => simp [intOf]; omega
      have hM : isM b = false := by
        unfold isM
        rw [beq_false_of_ne h1, beq_false_of_ne h2, beq_false_of_ne h3]
        rfl
      have HN := kept (HG.out hM)
      have n1 : ((b.toNat : Int) == 47) = false := beq_false_of_ne fun z => h1 (UInt8.toNat_inj.1 (by show b.toNat = 47; omega))
      have n2 : ((b.toNat : Int) == 64) = false := beq_false_of_ne fun z => h2 (UInt8.toNat_inj.1 (by show b.toNat = 64; omega))
      have n3 : ((b.toNat : Int) == 92) = false := beq_false_of_ne fun z => h3 (UInt8.toNat_inj.1 (by show b.toNat = 92; omega))
      clear h1 h2 h3 hM
      go_wp2
      go_round
      case rel => exact ⟨k + 1, by omega, by go_num, by rw [HN.out]⟩
      case measure => simp [intOf]; omega
    · go_wp2
      go_ret
      exact ⟨ret_str (by rw [← HXE.out, List.take_of_length_le (by simp; omega)]), rfl⟩
end Go.Proofs.Ytnejidaplbonoaa
