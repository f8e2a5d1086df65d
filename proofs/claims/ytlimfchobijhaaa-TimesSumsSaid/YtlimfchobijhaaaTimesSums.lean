/-
  Sums of several numbers are built from the left, and the greatest number is that of a plain loop: the law TimesSums returns true for every input, and leaves its slice as it was. No condition.
-/
import Derived.Test.YtlimfchobijhaaaTOpen
namespace Go.Proofs.Ytlimfchobijhaaa.timesSums
open Go.ChangeShapes Go.WideShapes Go.ChangeAt Go.RowKit
set_option linter.unusedVariables false

theorem iMax_lt {a b : Int} (h : a < b) : iMax a b = b := if_pos h
theorem iMax_ge {a b : Int} (h : b ≤ a) : iMax a b = a := if_neg (by omega)
theorem walk_long (w : World) (a : Int) (A : Option Addr) (len c : Nat) (h : 50 < len) :
    Calls Try.prog 4 #[.int .i64 a, .slice A len c] w fun e w' => e = .returned (.bool true) ∧ Below w.heap.size w w' := by
  have d1 : (50 : Int) < (len : Int) := by omega
  go_enter Try.func4, Try.ntmps4
  go_wp2_with fail
  refine (awake_any _).mono ?_
  rintro e w1 ⟨rfl, b1⟩
  go_wp2_with fail
  refine (awake_any _).mono ?_
  rintro e w2 ⟨rfl, b2⟩
  go_wp2_with fail
  go_ret
  exact ⟨rfl, b1.trans (b2.mono b1.size)⟩

set_option maxHeartbeats 1000000 in
theorem walk (w : World) (a : Int) (q : Nat) (A : Option Addr) (c : Nat) (l : List Int) (hc : l.length ≤ c) (hcm : c ≤ maxLen) (hm : MemI w q A l) (ha : Fits a) (hf : ∀ x ∈ l, Fits x) (hl : l.length ≤ 50) :
    Calls Try.prog 4 #[.int .i64 a, .slice A l.length c] w fun e w' => e = .returned (.bool true) ∧ Below w.heap.size w w' := by
  have d1 : decide ((50 : Int) < (l.length : Int)) = false := by simp; omega
  have HM := Lib.hid hm
  have HF := Lib.hid hf
  clear hm hf
  go_enter Try.func4, Try.ntmps4
  go_wp2_with fail
  refine (awake_any _).mono ?_
  rintro e w1 ⟨rfl, b1⟩
  go_wp2_with fail
  replace HM := Lib.hid (HM.out.below0 b1)
  go_loop [5, 6, 7] (fun s m i => ∃ k : Nat, k ≤ l.length ∧ i = .int .i64 k ∧ s = .int .i64 ((l.take k).foldl sAdd a) ∧ m = .int .i64 ((l.take k).foldl iMax (-9223372036854775808))) (fun _ _ i => l.length - (intOf i).toNat)
  case atStart => exact ⟨0, Nat.zero_le _, rfl, rfl, rfl⟩
  case round =>
    obtain ⟨k, hk, rfl, rfl, rfl⟩ := hrel
    by_cases hlt : k < l.length
    · obtain ⟨o, rfl, hcell⟩ := HM.out.at_ hlt
      have hfo : Fits ((l.take k).foldl sAdd a) := fold_fits sAdd (fun a b _ _ => sAdd_fits a b) _ (fun x hx => HF.out x (List.mem_of_mem_take hx)) a ha
      have hfk : Fits (l[k]'hlt) := HF.out _ (List.getElem_mem hlt)
      have hst := Lib.hid (foldl_take sAdd a l k hlt)
      have hsm := Lib.hid (foldl_take iMax (-9223372036854775808) l k hlt)
      go_wp2_with fail
      refine (radd_any _ _ _ hfo hfk).mono ?_
      rintro e w2 ⟨rfl, rfl⟩
      go_wp2_with fail
      all_goals
        go_round
        case rel => exact ⟨k + 1, by omega, by go_num, by rw [hst.out], by rw [hsm.out]; first | rw [iMax_lt (by assumption)] | rw [iMax_ge (by assumption)]⟩
        case measure => simp [intOf]; omega
    · have hkl := Lib.hid (show l.take k = l from List.take_of_length_le (by omega))
      rw [hkl.out]
      go_wp2_with fail
      refine (add_any a _ q A _ c l rfl HM.out (by omega) ha HF.out).mono ?_
      rintro e w2 ⟨rfl, rfl⟩
      go_wp2_with fail
      refine (most_any _ q A _ c l rfl HM.out (by omega) HF.out).mono ?_
      rintro e w2 ⟨rfl, rfl⟩
      go_wp2_with fail
      go_ret
      exact ⟨rfl, b1⟩

theorem walk_all (w : World) (a : Int) (q : Nat) (A : Option Addr) (c : Nat) (l : List Int) (hc : l.length ≤ c) (hcm : c ≤ maxLen) (hm : MemI w q A l) (ha : Fits a) (hf : ∀ x ∈ l, Fits x) :
    Calls Try.prog 4 #[.int .i64 a, .slice A l.length c] w fun e w' => e = .returned (.bool true) ∧ Below w.heap.size w w' := by
  by_cases h : 50 < l.length
  · exact walk_long w a A _ c h
  · exact walk w a q A c l hc hcm hm ha hf (by omega)

set_option maxRecDepth 100000 in
theorem lifted (os : Os) (started : os.Started) (H : Type) (enc : TypeId × Value → H) :
    ReturnsInHanded {} Try.checked os 4 .any (Rows.timesSumsSpec.pre6 enc Try.prog Try.f4 Rows.timesSumsRow.domain false) (Rows.timesSumsSpec.post enc Try.prog Try.f4 false true false false) := by
  refine returnsInHanded_of_change (C := Try.checked) own_knob started (by kernel_rfl) Try.func4
    (ChangeSpec.witness6 (enc := enc) (C := Try.checked) false ⟨#[], #[.int .i64 0, .slice none 0 0], []⟩ 8 (by kernel_rfl) (by kernel_rfl) (by kernel_rfl) (by kernel_rfl)) ?_
  intro W base args ds gs before hval0 hW hcnd _
  have hval : ∀ (j : Nat) t v, Try.f4.params[j]? = some t → args[j]? = some v → Value.okWide Try.prog W .any base t v := hval0
  have hW' := hW
  obtain ⟨p, q, hA0, hV, rfl, hfz, hnd⟩ := hW
  have hA : DataW.TrodAll enc Try.prog W 0 (fun _ => true) true Try.f4.params.toList args.toList ds p := hA0
  rw [Try.params4] at hA hval
  obtain ⟨v0, v1, d0, d1, p0, p1, rfl, rfl, rfl, h0, h1⟩ := trodAll_two hA
  obtain ⟨rfl, rfl⟩ := trodVars_none hV
  have hvl0 := hval 0 2 v0 rfl rfl
  have hvl1 := hval 1 26 v1 rfl rfl
  obtain ⟨a, rfl, rfl, rfl, w0⟩ := open_int Try.underlying2 (hval 0 2 v0 rfl rfl) h0
  have f0 := fits_lit w0
  obtain ⟨A, qq, c, l, rfl, hc, hcm, hm, hf⟩ := open_row64 (hval 1 26 v1 rfl rfl) h1
  clear hA0 hval0
  refine (walk_all W a qq A c l hc hcm hm f0 hf).mono fun e W' ⟨he, bel⟩ => ?_
  subst he
  exact ⟨_, rfl, _, _, _, [], _, [], hW', trodAll_mk1 (shut_bool Try.underlying4 _), trodAll_mk2 (shut_int Try.underlying2 w0) (keep_arg (by kernel_rfl) (of_decide_eq_true (by kernel_rfl)) h1 bel), rfl, bel.frame _, fun h => by cases h⟩

theorem over : Rows.timesSumsRow.holds Try.pinned (OpenSpec.ofChange Rows.timesSumsSpec) :=
  OpenClaim.holds_of_wide 4 Try.f4 rfl rfl rfl rfl rfl rfl rfl ⟨rfl, rfl, rfl, rfl, rfl⟩ rfl rfl rfl rfl rfl (by kernel_rfl) Try.func4 (by kernel_rfl)
    (of_decide_eq_true (by kernel_rfl)) (by unfold Func.isWrapper; first | (rw [if_pos (by decide +kernel)]; kernel_rfl) | (rw [if_neg (by decide +kernel)]; exact ⟨rfl, rfl⟩))
    (fun os started H enc _ => lifted os started H enc)

/-- The statement. -/
theorem proved : Rows.TimesSumsSaid := over
#print axioms proved
end Go.Proofs.Ytlimfchobijhaaa.timesSums
