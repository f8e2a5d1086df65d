/-
  The reference's Join, by a contract.
-/
import Derived.Test.YtnfgmgkdkfeekaaPm2
namespace Go.Proofs.Ytnfgmgkdkfeekaa
open Go.RowKit
set_option linter.unusedVariables false

theorem rejoin_any (w : World) (q : Nat) (A : Option Addr) (n c : Nat) (L : List (List UInt8)) (hn : n = L.length) (hm : MemM w q A L) (hL : L.length ≤ 9223372036854775807) (hs : (L.map List.length).sum ≤ 140737488355328) :
    Calls Try.prog 14 #[.slice A n c] w fun e w' => ∃ v, e = .returned v ∧ Own w' w.heap.size v L.flatten ∧ Below w.heap.size w w' := by
  subst hn
  obtain ⟨i0, hi0, hz0, hs0, hbb0⟩ := info_parts u8_info
  go_enter Try.func14, Try.ntmps14
  go_wp2_with fail
  go_loopw [3, 4] (fun v i wr => ∃ j : Nat, j ≤ L.length ∧ i = .int .i64 j ∧ Own wr w.heap.size v (L.take j).flatten ∧ Below w.heap.size w wr) (fun _ i _ => L.length - (intOf i).toNat)
  case atStart => exact ⟨0, Nat.zero_le _, rfl, by simpa using Own.nil_ _ _, Below.refl _ _⟩
  case round =>
    obtain ⟨j, hj, rfl, hown, hbw⟩ := hrel
    by_cases hlt : j < L.length
    · obtain ⟨o, A', q', c', rfl, hc, hmj, _⟩ := (hm.below0 hbw).at_ hlt
      have hfl := flatten_take_succ L j hlt
      have hln := congrArg List.length hfl
      rw [List.length_append, flatten_len, flatten_len] at hln
      have hle := sum_take_le L (j + 1)
      have hb : (L.take j).flatten.length + (L[j]'hlt).length ≤ 140737488355328 := by rw [flatten_len]; omega
      generalize (L.take j).flatten = F at *
      generalize hl : (L[j]'hlt) = lj at *
      have HFL := Lib.hid hfl
      have HL := Lib.hid hl
      clear hfl hln hl hm
      go_wp2_with (first | (at_builtin; refine wpList_append_bytes rfl _ _ 27 rfl w.heap.size i0 Try.underlying27 hi0 hz0 hs0 hbb0 _ F rfl hown q' A' lj.length c' lj rfl rfl hmj hb hbw.size ?_; intro v1 w2 hown1 hg1))
      have hbw2 : Below w.heap.size w w2 := hbw.grown hg1 hbw.size (fun k hk => (World.ownsRow.lt hown k hk).1)
      go_wp2
      go_roundw
      case rel => exact ⟨j + 1, by omega, by go_num, by rw [HFL.out]; exact hown1, hbw2⟩
      case measure => simp [intOf]; omega
    · have e : L.take j = L := List.take_of_length_le (by omega)
      rw [e] at hown
      go_wp2
      go_ret
      exact ⟨_, rfl, hown, hbw⟩
end Go.Proofs.Ytnfgmgkdkfeekaa
