/-
  Sums and differences that saturate: package times and the reference's, by contracts.
-/
import Derived.Test.YtlimfchobijhaaaInts
import Derived.IntWalk
import Derived.Lib.Hide
import Derived.OpenShut
namespace Go.Proofs.Ytlimfchobijhaaa
open Go.RowKit Go.ChangeShapes Go.WideShapes
set_option linter.unusedVariables false

theorem ret_int {k : IntKind} {a b : Int} (h : a = b) : Ending.returned (.int k a) = .returned (.int k b) := by rw [h]

/-- The numbers of 64 bits with a sign. -/
def Fits (n : Int) : Prop := -9223372036854775808 ≤ n ∧ n ≤ 9223372036854775807
def clamp (n : Int) : Int := if 9223372036854775807 < n then 9223372036854775807 else if n < -9223372036854775808 then -9223372036854775808 else n
def sAdd (a b : Int) : Int := clamp (a + b)
def sSub (a b : Int) : Int := clamp (a - b)
def sApart (a b : Int) : Int := if a < b then sSub b a else sSub a b
def sSide (t s e k : Int) : Int := if t < sSub s k then -1 else if sAdd e k < t then 1 else 0
theorem clamp_fits (n : Int) : Fits (clamp n) := by unfold Fits clamp; omega
theorem sAdd_fits (a b : Int) : Fits (sAdd a b) := clamp_fits _
theorem sSub_fits (a b : Int) : Fits (sSub a b) := clamp_fits _
theorem fits_lit {n : Int} (h : (Lit.int .i64 n).wf = true) : Fits n := by
  have := bounds_i64 h
  unfold Fits
  omega
theorem fold_fits (f : Int → Int → Int) (hf : ∀ a b, Fits a → Fits b → Fits (f a b)) (l : List Int) (h : ∀ x ∈ l, Fits x) (a : Int) (ha : Fits a) : Fits (l.foldl f a) := by
  induction l generalizing a with
  | nil => exact ha
  | cons x r ih => exact ih (fun y hy => h y (by simp [hy])) _ (hf _ _ ha (h x (by simp)))
theorem take_snocI (l : List Int) (k : Nat) (h : k < l.length) : l.take (k + 1) = l.take k ++ [l[k]'h] := List.take_succ_eq_append_getElem h
theorem foldl_take (f : Int → Int → Int) (a : Int) (l : List Int) (k : Nat) (h : k < l.length) : (l.take (k + 1)).foldl f a = f ((l.take k).foldl f a) (l[k]'h) := by
  rw [take_snocI l k h, List.foldl_append]
  rfl
def iMax (a b : Int) : Int := if a < b then b else a

theorem step_add (x y : Int) (w : World) (hx : Fits x) (hy : Fits y) : Calls Try.prog 19 #[.int .i64 x, .int .i64 y] w fun e w' => e = .returned (.int .i64 (sAdd x y)) ∧ w = w' := by
  unfold Fits at hx hy
  go_enter Try.func19, Try.ntmps19
  go_wp2
  all_goals
    unfold wrap64 at *
    go_ret
    exact ⟨ret_int (by unfold sAdd clamp; omega), rfl⟩
theorem iMax_fits (a b : Int) (ha : Fits a) (hb : Fits b) : Fits (iMax a b) := by unfold iMax; split <;> assumption
theorem step_max (x y : Int) (w : World) : Calls Try.prog 20 #[.int .i64 x, .int .i64 y] w fun e w' => e = .returned (.int .i64 (iMax x y)) ∧ w = w' := by
  go_enter Try.func20, Try.ntmps20
  go_wp2
  all_goals
    go_ret
    exact ⟨ret_int (by unfold iMax; omega), rfl⟩
theorem sub_any (x y : Int) (w : World) (hx : Fits x) (hy : Fits y) : Calls Try.prog 10 #[.int .i64 x, .int .i64 y] w fun e w' => e = .returned (.int .i64 (sSub x y)) ∧ w = w' := by
  unfold Fits at hx hy
  go_enter Try.func10, Try.ntmps10
  go_wp2
  all_goals
    unfold wrap64 at *
    go_ret
    exact ⟨ret_int (by unfold sSub clamp; omega), rfl⟩
theorem radd_any (x y : Int) (w : World) (hx : Fits x) (hy : Fits y) : Calls Try.prog 9 #[.int .i64 x, .int .i64 y] w fun e w' => e = .returned (.int .i64 (sAdd x y)) ∧ w = w' := by
  obtain ⟨hx1, hx2⟩ := hx
  obtain ⟨hy1, hy2⟩ := hy
  go_enter Try.func9, Try.ntmps9
  go_wp2
  all_goals
    go_ret
    exact ⟨ret_int (by unfold sAdd clamp; omega), rfl⟩
theorem rsub_any (x y : Int) (w : World) (hx : Fits x) (hy : Fits y) : Calls Try.prog 11 #[.int .i64 x, .int .i64 y] w fun e w' => e = .returned (.int .i64 (sSub x y)) ∧ w = w' := by
  obtain ⟨hx1, hx2⟩ := hx
  obtain ⟨hy1, hy2⟩ := hy
  go_enter Try.func11, Try.ntmps11
  go_wp2
  all_goals
    go_ret
    exact ⟨ret_int (by unfold sSub clamp; omega), rfl⟩
theorem rapart_any (x y : Int) (w : World) (hx : Fits x) (hy : Fits y) : Calls Try.prog 13 #[.int .i64 x, .int .i64 y] w fun e w' => e = .returned (.int .i64 (sApart x y)) ∧ w = w' := by
  go_enter Try.func13, Try.ntmps13
  go_wp2_with (first | (go_at_call 11; refine (rsub_any _ _ _ (by assumption) (by assumption)).mono ?_; rintro e w' ⟨rfl, rfl⟩))
  all_goals
    go_ret
    exact ⟨ret_int (by unfold sApart; first | rw [if_pos (by omega)] | rw [if_neg (by omega)]), rfl⟩
theorem apart_any (x y : Int) (w : World) (hx : Fits x) (hy : Fits y) : Calls Try.prog 12 #[.int .i64 x, .int .i64 y] w fun e w' => e = .returned (.int .i64 (sApart x y)) ∧ w = w' := by
  go_enter Try.func12, Try.ntmps12
  go_wp2_with fail
  all_goals
    refine (sub_any _ _ _ (by assumption) (by assumption)).mono ?_
    rintro e w' ⟨rfl, rfl⟩
    go_wp2_with fail
    go_ret
    exact ⟨ret_int (by unfold sApart; first | (rw [if_pos (by omega)]; done) | (rw [if_neg (by omega)]; done) | (have e : x = y := (by omega); subst e; simp)), rfl⟩

theorem fold_add (a : Int) (w : World) (q : Nat) (A : Option Addr) (n c : Nat) (l : List Int) (hn : n = l.length) (hm : MemI w q A l) (hl : l.length ≤ 140737488355328) (ha : Fits a) (hf : ∀ x ∈ l, Fits x) :
    Calls Try.prog 18 #[.int .i64 a, .slice A n c, .func (.func 19) #[] #[]] w fun e w' => e = .returned (.int .i64 (l.foldl sAdd a)) ∧ w = w' := by
  subst hn
  have HM := Lib.hid hm
  have HF := Lib.hid hf
  clear hm hf
  go_enter Try.func18, Try.ntmps18
  go_wp2
  go_loop [0, 11] (fun o i => ∃ k : Nat, k ≤ l.length ∧ i = .int .i64 k ∧ o = .int .i64 ((l.take k).foldl sAdd a)) (fun _ i => l.length - (intOf i).toNat)
  case atStart => exact ⟨0, Nat.zero_le _, rfl, rfl⟩
  case round =>
    obtain ⟨k, hk, rfl, rfl⟩ := hrel
    by_cases hlt : k < l.length
    · obtain ⟨o, rfl, hc⟩ := HM.out.at_ hlt
      have hfo : Fits ((l.take k).foldl sAdd a) := fold_fits sAdd (fun a b _ _ => sAdd_fits a b) _ (fun x hx => HF.out x (List.mem_of_mem_take hx)) a ha
      have hfk : Fits (l[k]'hlt) := HF.out _ (List.getElem_mem hlt)
      have hst := Lib.hid (foldl_take sAdd a l k hlt)
      go_wp2_with fail
      refine (step_add _ _ _ hfo hfk).mono ?_
      rintro e w' ⟨rfl, rfl⟩
      go_wp2_with fail
      go_round
      case rel => exact ⟨k + 1, by omega, by go_num, by rw [hst.out]⟩
      case measure => simp [intOf]; omega
    · have hkl := Lib.hid (show k = l.length by omega)
      go_wp2
      go_ret
      exact ⟨ret_int (by rw [List.take_of_length_le (Nat.le_of_eq hkl.out.symm)]), rfl⟩
theorem fold_most (a : Int) (w : World) (q : Nat) (A : Option Addr) (n c : Nat) (l : List Int) (hn : n = l.length) (hm : MemI w q A l) (hl : l.length ≤ 140737488355328) (ha : Fits a) (hf : ∀ x ∈ l, Fits x) :
    Calls Try.prog 18 #[.int .i64 a, .slice A n c, .func (.func 20) #[] #[]] w fun e w' => e = .returned (.int .i64 (l.foldl iMax a)) ∧ w = w' := by
  subst hn
  have HM := Lib.hid hm
  have HF := Lib.hid hf
  clear hm hf
  go_enter Try.func18, Try.ntmps18
  go_wp2
  go_loop [0, 11] (fun o i => ∃ k : Nat, k ≤ l.length ∧ i = .int .i64 k ∧ o = .int .i64 ((l.take k).foldl iMax a)) (fun _ i => l.length - (intOf i).toNat)
  case atStart => exact ⟨0, Nat.zero_le _, rfl, rfl⟩
  case round =>
    obtain ⟨k, hk, rfl, rfl⟩ := hrel
    by_cases hlt : k < l.length
    · obtain ⟨o, rfl, hc⟩ := HM.out.at_ hlt
      have hfo : Fits ((l.take k).foldl iMax a) := fold_fits iMax iMax_fits _ (fun x hx => HF.out x (List.mem_of_mem_take hx)) a ha
      have hfk : Fits (l[k]'hlt) := HF.out _ (List.getElem_mem hlt)
      have hst := Lib.hid (foldl_take iMax a l k hlt)
      go_wp2_with fail
      refine (step_max _ _ _).mono ?_
      rintro e w' ⟨rfl, rfl⟩
      go_wp2_with fail
      go_round
      case rel => exact ⟨k + 1, by omega, by go_num, by rw [hst.out]⟩
      case measure => simp [intOf]; omega
    · have hkl := Lib.hid (show k = l.length by omega)
      go_wp2
      go_ret
      exact ⟨ret_int (by rw [List.take_of_length_le (Nat.le_of_eq hkl.out.symm)]), rfl⟩

theorem add_any (a : Int) (w : World) (q : Nat) (A : Option Addr) (n c : Nat) (l : List Int) (hn : n = l.length) (hm : MemI w q A l) (hl : l.length ≤ 140737488355328) (ha : Fits a) (hf : ∀ x ∈ l, Fits x) :
    Calls Try.prog 8 #[.int .i64 a, .slice A n c] w fun e w' => e = .returned (.int .i64 (l.foldl sAdd a)) ∧ w = w' := by
  subst hn
  have HM := Lib.hid hm
  have HF := Lib.hid hf
  clear hm hf
  go_enter Try.func8, Try.ntmps8
  go_wp2_with fail
  refine (fold_add a _ q A _ c l rfl HM.out hl ha HF.out).mono ?_
  rintro e w' ⟨rfl, rfl⟩
  go_wp2_with fail
  go_ret
  exact ⟨rfl, rfl⟩
theorem add_one (a b : Int) (w : World) (q : Nat) (c : Nat) (hm : MemI w q (some ⟨q, 0, none⟩) [b]) (ha : Fits a) (hb : Fits b) :
    Calls Try.prog 8 #[.int .i64 a, .slice (some ⟨q, 0, none⟩) 1 c] w fun e w' => e = .returned (.int .i64 (sAdd a b)) ∧ w = w' :=
  add_any a w q _ 1 c [b] rfl hm (by simp) ha (by simpa using hb)
theorem add_none (a : Int) (w : World) (ha : Fits a) :
    Calls Try.prog 8 #[.int .i64 a, .slice none 0 0] w fun e w' => e = .returned (.int .i64 a) ∧ w = w' :=
  add_any a w 0 none 0 0 [] rfl (.inl rfl) (by simp) ha (by simp)
theorem most_any (w : World) (q : Nat) (A : Option Addr) (n c : Nat) (l : List Int) (hn : n = l.length) (hm : MemI w q A l) (hl : l.length ≤ 140737488355328) (hf : ∀ x ∈ l, Fits x) :
    Calls Try.prog 14 #[.slice A n c] w fun e w' => e = .returned (.int .i64 (l.foldl iMax (-9223372036854775808))) ∧ w = w' := by
  subst hn
  have HM := Lib.hid hm
  have HF := Lib.hid hf
  clear hm hf
  go_enter Try.func14, Try.ntmps14
  go_wp2_with fail
  refine (fold_most _ _ q A _ c l rfl HM.out hl (by unfold Fits; omega) HF.out).mono ?_
  rintro e w' ⟨rfl, rfl⟩
  go_wp2_with fail
  go_ret
  exact ⟨rfl, rfl⟩
theorem mem_one (w : World) (b : Int) : MemI (w.alloc (.cells #[.int .i64 b] 2)) w.heap.size (some ⟨w.heap.size, 0, none⟩) [b] := memI_lit rfl
theorem mem_new (w : World) (q : Nat) (b : Int) (hq : q = w.heap.size) : MemI (w.alloc (.cells #[.int .i64 b] 2)) q (some ⟨q, 0, none⟩) [b] := by subst hq; exact mem_one w b
theorem window_any (s e k : Int) (w : World) (hs : Fits s) (he : Fits e) (hk : Fits k) :
    Calls Try.prog 17 #[.int .i64 s, .int .i64 e, .int .i64 k] w fun en w' => en = .returned (.tuple #[.int .i64 (sSub s k), .int .i64 (sAdd e k)]) ∧ Below w.heap.size w w' := by
  go_enter Try.func17, Try.ntmps17
  go_wp2_with fail
  refine (sub_any _ _ _ hs hk).mono ?_
  rintro en w1 ⟨rfl, rfl⟩
  go_wp2_with fail
  refine (add_one _ _ _ _ _ (mem_one _ _) he hk).mono ?_
  rintro en w1 ⟨rfl, rfl⟩
  go_wp2_with fail
  go_ret2
  exact ⟨rfl, (Below.refl _ _).alloc (Nat.le_refl _) _⟩
theorem side_any (t s e k : Int) (w : World) (hs : Fits s) (he : Fits e) (hk : Fits k) :
    Calls Try.prog 15 #[.int .i64 t, .int .i64 s, .int .i64 e, .int .i64 k] w fun en w' => en = .returned (.int .i64 (sSide t s e k)) ∧ Below w.heap.size w w' := by
  go_enter Try.func15, Try.ntmps15
  go_wp2_with fail
  refine (window_any _ _ _ _ hs he hk).mono ?_
  rintro en w1 ⟨rfl, b1⟩
  go_wp2_with fail
  all_goals
    go_ret
    exact ⟨ret_int (by unfold sSide; omega), b1⟩
theorem rside_any (t s e k : Int) (w : World) (hs : Fits s) (he : Fits e) (hk : Fits k) :
    Calls Try.prog 16 #[.int .i64 t, .int .i64 s, .int .i64 e, .int .i64 k] w fun en w' => en = .returned (.int .i64 (sSide t s e k)) ∧ w = w' := by
  go_enter Try.func16, Try.ntmps16
  go_wp2_with (first | (go_at_call 11; refine (rsub_any _ _ _ hs hk).mono ?_; rintro en w' ⟨rfl, rfl⟩) | (go_at_call 9; refine (radd_any _ _ _ he hk).mono ?_; rintro en w' ⟨rfl, rfl⟩))
  all_goals
    go_ret
    exact ⟨ret_int (by unfold sSide; omega), rfl⟩
end Go.Proofs.Ytlimfchobijhaaa
