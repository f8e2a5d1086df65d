/-
  The reference's digits, by a contract.
-/
import Derived.Test.YtgjnmoonceeenaaDoorU64
import Derived.Test.YtgjnmoonceeenaaDoorRootMath
namespace Go.Proofs.YtgjnmoonceeenaaDoor
open Go.RowKit
set_option linter.unusedVariables false
set_option linter.unusedSimpArgs false

def nl (l : List Nat) : List Int := l.map fun (x : Nat) => (x : Int)
theorem nl_snoc (l : List Nat) (x : Nat) : nl (l ++ [x]) = nl l ++ [(x : Int)] := by simp [nl]
theorem nl_len (l : List Nat) : (nl l).length = l.length := by simp [nl]
theorem u64_info : (Tryd.prog.info? 30).map (fun i => (i.zero, i.size, i.bytes)) = some (some (.int .u64 0), 1, 8) := by kernel_rfl
set_option maxHeartbeats 1000000 in
theorem rdigits_any (w : World) (x : Nat) (hx : x < 18446744073709551616) : Calls Tryd.prog 29 #[.int .u64 (x : Int)] w fun e w' => ∃ (l : List Nat) (v : Value), e = .returned v ∧ OwnU 30 w' w.heap.size v (nl l) ∧ Below w.heap.size w w' ∧ val l = x ∧ Digs l ∧ l.length ≤ 4 := by
  obtain ⟨i0, hi0, hz0, hs0, hbb0⟩ := info_parts u64_info
  go_enter Tryd.func29, Tryd.ntmps29
  go_wp2_with fail
  go_loopw [0, 3] (fun y v wr => ∃ (c : Nat) (l : List Nat), y = .int .u64 (c : Int) ∧ Kept (c * 65536 ^ l.length + val l = x) ∧ Kept (Digs l) ∧ Kept (OwnU 30 wr w.heap.size v (nl l)) ∧ Kept (Below w.heap.size w wr) ∧ Kept (l.length ≤ 4)) (fun y _ _ => (intOf y).toNat)
  case atStart => exact ⟨x, [], rfl, kept (by simp [val, vF]), kept (by intro y hy; cases hy), kept (OwnU.nil_ _ _ _), kept (Below.refl _ _), kept (by simp)⟩
  case round =>
    obtain ⟨c, l, rfl, HV, HD, HO, HB, HL4⟩ := hrel
    rename World => W1
    obtain ⟨A, q, cp, rfl, hc, hcm, hm⟩ := HO.out.form
    rw [nl_len] at hc HO
    rw [nl_len]
    clear hm
    by_cases h0 : c = 0
    · subst h0
      go_wp2_with fail
      go_ret
      exact ⟨l, _, rfl, HO.out, HB.out, by have := HV.out; omega, HD.out, HL4.out⟩
    · have hcx : c < 18446744073709551616 := by
        have h1 := HV.out
        have h2 : c * 1 ≤ c * 65536 ^ l.length := Nat.mul_le_mul_left _ (Nat.pow_pos (by omega))
        omega
      have hl4 : l.length < 4 := by
        have h1 := HV.out
        have h2 : 65536 ^ l.length ≤ c * 65536 ^ l.length := Nat.le_mul_of_pos_left _ (by omega)
        have h3 : 65536 ^ l.length < 65536 ^ 4 := by
          have : (65536 : Nat) ^ 4 = 18446744073709551616 := by decide
          omega
        exact (Nat.pow_lt_pow_iff_right (show 1 < 65536 by omega)).1 h3
      have hm2 : MemU (W1.alloc (.cells #[.int .u64 ((c : Int) % 65536)] 30)) W1.heap.size (some ⟨W1.heap.size, 0, none⟩) [(c : Int) % 65536] := memU_lit rfl
      have hown := HO.out.alloc (.cells #[.int .u64 ((c : Int) % 65536)] 30)
      have hbx := HB.out.alloc HB.out.size (.cells #[.int .u64 ((c : Int) % 65536)] 30)
      go_wp2_with (first | (at_builtin; refine wpList_append_us rfl _ _ 58 rfl w.heap.size i0 Tryd.underlying58 hi0 hz0 hs0 hbb0 (.slice A l.length cp) (nl l) rfl hown W1.heap.size _ 1 1 [(c : Int) % 65536] rfl rfl hm2 (by rw [nl_len]; simp; omega) (by have := hbx.size; exact this) ?_; intro v1 w2 hown1 hg1))
      have hbw2 : Below w.heap.size w w2 := hbx.grown hg1 hbx.size (fun k hk => (hown.lt k hk).1)
      have hv2 : c / 65536 * 65536 ^ (l ++ [c % 65536]).length + val (l ++ [c % 65536]) = x := by
        have h1 := HV.out
        rw [val_snoc, List.length_append, List.length_singleton, Nat.pow_succ]
        have h2 : c * 65536 ^ l.length = (c / 65536) * (65536 ^ l.length * 65536) + (c % 65536) * 65536 ^ l.length := by
          have := Nat.div_add_mod c 65536
          conv => lhs; rw [← this]
          rw [Nat.add_mul, Nat.mul_comm 65536 (c / 65536), Nat.mul_assoc, Nat.mul_comm 65536]
        omega
      have hd2 : Digs (l ++ [c % 65536]) := by
        intro y hy
        rcases List.mem_append.1 hy with h | h
        · exact HD.out y h
        · rw [List.mem_singleton.1 h]
          omega
      have HV2 := kept hv2
      have HD2 := kept hd2
      have HO2 := kept (show OwnU 30 w2 w.heap.size v1 (nl (l ++ [c % 65536])) by rw [nl_snoc, Int.natCast_emod]; exact hown1)
      clear hv2 hd2 hown1
      go_roundw
      case rel => exact ⟨c / 65536, l ++ [c % 65536], by congr 1, HV2, HD2, HO2, kept hbw2, kept (by simp; omega)⟩
      case measure => simp [intOf]; omega
end Go.Proofs.YtgjnmoonceeenaaDoor
