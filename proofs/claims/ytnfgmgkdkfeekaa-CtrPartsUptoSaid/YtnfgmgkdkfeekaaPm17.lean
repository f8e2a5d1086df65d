/-
  The substitution and what leads back from it, as the program finds them, by contracts.
-/
import Derived.Test.YtnfgmgkdkfeekaaPm15
import Derived.Test.YtnfgmgkdkfeekaaPm16
namespace Go.Proofs.Ytnfgmgkdkfeekaa
open Go.RowKit
set_option linter.unusedVariables false
set_option linter.unusedSimpArgs false

set_option maxHeartbeats 1000000 in
theorem frots_any (w : World) (a : UInt8) (q n c : Nat) (L : List Nat) (hL : ∀ k ∈ L, k < 8) (hn : n = L.length) (hl : L.length ≤ 100) (hm : ∀ j, (h : j < L.length) → w.cell? ⟨q, j, none⟩ = some (.int .i64 ((L[j] : Nat) : Int))) :
    Calls Try.prog 45 #[.int .u8 (a.toNat : Int), .slice (some ⟨q, 0, none⟩) n c] w fun e w' => e = .returned (.int .u8 ((rotS a L).toNat : Int)) ∧ w = w' := by
  have HL := kept hL
  have HN := kept hn
  have HM := kept hm
  have hn1 : n ≤ 100 := by omega
  clear hL hn hm hl
  go_enter Try.func45, Try.ntmps45
  go_wp2_with fail
  go_loop [5, 10] (fun s i => ∃ j : Nat, j ≤ n ∧ i = .int .i64 j ∧ ∃ s' : UInt8, s = .int .u8 (s'.toNat : Int) ∧ Kept (s' = rotS a (L.take j))) (fun _ i => n - (intOf i).toNat)
  case atStart => exact ⟨0, Nat.zero_le _, rfl, 0, rfl, kept rfl⟩
  case round =>
    obtain ⟨j, hj, rfl, s, rfl, HS⟩ := hrel
    by_cases hlt : j < n
    · have hj' : j < L.length := by have := HN.out; omega
      have hc := HM.out j hj'
      have hk := HL.out L[j] (List.getElem_mem hj')
      have HS2 := kept (show gxr s (rotB a L[j]) = rotS a (L.take (j + 1)) by rw [HS.out]; exact (rotS_take a L j hj').symm)
      generalize L[j] = k at hc hk HS2
      have hs := byte_lt s
      have HX := kept (gx8 s (rotB a k))
      clear hj' HS
      go_wp2_with (refine (frot8_any w a k hk).mono ?_; rintro e w' ⟨rfl, rfl⟩)
      go_round
      case rel => exact ⟨j + 1, by omega, by go_num, gxr s (rotB a k), congrArg (Value.int .u8) HX.out, HS2⟩
      case measure => simp [intOf]; omega
    · obtain rfl : j = n := by omega
      have HE := kept (show s = rotS a L by rw [HS.out, HN.out, List.take_length])
      clear HS hlt hj
      go_wp2
      go_ret
      exact ⟨congrArg (fun z : UInt8 => Ending.returned (.int .u8 (z.toNat : Int))) HE.out, rfl⟩
theorem cells5 (w : World) (t : TypeId) (cs : Array Value) (h : cs = #[.int .i64 0, .int .i64 1, .int .i64 2, .int .i64 3, .int .i64 4]) : ∀ j, (h : j < [0, 1, 2, 3, 4].length) → (w.alloc (.cells cs t)).cell? ⟨w.heap.size, j, none⟩ = some (.int .i64 (([0, 1, 2, 3, 4][j] : Nat) : Int)) := by
  subst h
  intro j hj
  rw [(Blk.new w t _).cell]
  match j, hj with
  | 0, _ => rfl
  | 1, _ => rfl
  | 2, _ => rfl
  | 3, _ => rfl
  | 4, _ => rfl
theorem cells3 (w : World) (t : TypeId) (cs : Array Value) (h : cs = #[.int .i64 1, .int .i64 3, .int .i64 6]) : ∀ j, (h : j < [1, 3, 6].length) → (w.alloc (.cells cs t)).cell? ⟨w.heap.size, j, none⟩ = some (.int .i64 (([1, 3, 6][j] : Nat) : Int)) := by
  subst h
  intro j hj
  rw [(Blk.new w t _).cell]
  match j, hj with
  | 0, _ => rfl
  | 1, _ => rfl
  | 2, _ => rfl
set_option maxHeartbeats 1000000 in
theorem fsub_any (w : World) (a : UInt8) : Calls Try.prog 37 #[.int .u8 (a.toNat : Int)] w fun e w' => e = .returned (.int .u8 ((gsub a).toNat : Int)) ∧ Below w.heap.size w w' := by
  have HX := kept (show bits .xor .u8 ((rotS (ginv a) [0, 1, 2, 3, 4]).toNat : Int) 99 = ((gsub a).toNat : Int) by
    have := gx8 (rotS (ginv a) [0, 1, 2, 3, 4]) 99
    rw [rotS_sub] at this
    exact this)
  have HI := kept (fun w => finv_any w a)
  generalize ginv a = b at HX HI
  have HR := kept (fun w q n c hn hm => frots_any w b q n c [0, 1, 2, 3, 4] (by decide) hn (by decide) hm)
  generalize rotS b [0, 1, 2, 3, 4] = r at HX HR
  have hr := byte_lt r
  go_enter Try.func37, Try.ntmps37
  go_wp2_with fail
  refine (HI.out w).mono ?_
  rintro e w' ⟨rfl, rfl⟩
  go_wp2_with fail
  refine (HR.out _ _ _ _ rfl (cells5 w _ _ rfl)).mono ?_
  rintro e w' ⟨rfl, rfl⟩
  go_wp2
  go_ret
  exact ⟨congrArg (fun z => Ending.returned (.int .u8 z)) HX.out, (Below.refl _ _).alloc (Nat.le_refl _) _⟩
end Go.Proofs.Ytnfgmgkdkfeekaa
