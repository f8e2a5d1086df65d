/-
  The reference's Text.
-/
import Derived.Test.YtnejidaplbonoaaNameE
namespace Go.Proofs.Ytnejidaplbonoaa
open Go.RowKit
set_option linter.unusedVariables false

/-- The texts of parts, with a slash between each two. -/
def joinP : List ByteArray → List UInt8
  | [] => []
  | s :: r => escL s.data.toList ++ r.flatMap fun t => 47 :: escL t.data.toList
/-- The text of a name; nothing for others. -/
def textL (n : Nm) : List UInt8 := if isN n then joinP n.2 ++ 64 :: escL n.1.data.toList else []
theorem esc_size {s : ByteArray} (h : isW s = true) : (strOf (escL s.data.toList)).size ≤ 200 := by
  have h1 := escL_len s.data.toList
  have h2 := (isW_size h).2
  have h3 : s.data.toList.length = s.size := by simp
  rw [strOf_size]
  omega
theorem joinP_snoc (l : List ByteArray) (s : ByteArray) (h : l ≠ []) : joinP (l ++ [s]) = joinP l ++ 47 :: escL s.data.toList := by
  cases l with
  | nil => exact absurd rfl h
  | cons a r =>
    show escL a.data.toList ++ (r ++ [s]).flatMap _ = escL a.data.toList ++ r.flatMap _ ++ _
    rw [List.flatMap_append, List.flatMap_cons, List.flatMap_nil, List.append_nil, List.append_assoc]
theorem joinP_len (l : List ByteArray) (h : ∀ s ∈ l, isW s = true) : (joinP l).length ≤ 201 * l.length := by
  have he : ∀ s ∈ l, (escL s.data.toList).length ≤ 200 := fun s hs => by
    have h1 := esc_size (h s hs)
    rw [strOf_size] at h1
    exact h1
  have hf : ∀ r : List ByteArray, (∀ s ∈ r, (escL s.data.toList).length ≤ 200) → (r.flatMap fun t => 47 :: escL t.data.toList).length ≤ 201 * r.length := by
    intro r
    induction r with
    | nil => intro _; simp
    | cons a r ih =>
      intro hr
      have h1 := hr a (List.mem_cons_self ..)
      have h2 := ih fun s hs => hr s (List.mem_cons_of_mem _ hs)
      rw [List.flatMap_cons, List.length_append, List.length_cons, List.length_cons]
      omega
  cases l with
  | nil => simp [joinP]
  | cons a r =>
    have h1 := he a (List.mem_cons_self ..)
    have h2 := hf r fun s hs => he s (List.mem_cons_of_mem _ hs)
    show (escL a.data.toList ++ r.flatMap _).length ≤ _
    rw [List.length_append, List.length_cons]
    omega
theorem joinP_next (L : List ByteArray) (k : Nat) (h : k < L.length) (h1 : 1 ≤ k) : joinP (L.take (k + 1)) = joinP (L.take k) ++ 47 :: escL L[k].data.toList := by
  rw [List.take_succ_eq_append_getElem h, joinP_snoc]
  intro e
  have h2 := congrArg List.length e
  rw [List.length_take, List.length_nil] at h2
  omega
theorem joinP_one (L : List ByteArray) (h : 0 < L.length) : joinP (L.take 1) = escL L[0].data.toList := by
  cases L with
  | nil => simp at h
  | cons a r => simp [joinP]
set_option maxHeartbeats 1600000 in
theorem retext_any (w : World) (R : ByteArray) (L : List ByteArray) (q : Nat) (A : Option Addr) (c : Nat) (hR : R.size ≤ maxLen) (hS : ∀ s ∈ L, s.size ≤ maxLen) (hl : L.length ≤ 9223372036854775807) (hm : MemS w q A L) :
    Calls Try.prog 13 #[.agg #[.string R, .slice A L.length c]] w fun e w' => e = .returned (.string (strOf (textL (R, L)))) ∧ Below w.heap.size w w' := by
  have HM := kept hm
  have HS := kept hS
  clear hm hS
  go_enter Try.func13, Try.ntmps13
  go_upto_region 1 with (fail)
  go_name_world W0 hW0
  have HB := kept (show Blk W0 w.heap.size 24 #[.string R, .slice A L.length c] by rw [← hW0]; exact Blk.new w _ _)
  have HW := kept (show Below w.heap.size w W0 by rw [← hW0]; exact (Below.refl _ w).alloc (Nat.le_refl _) _)
  replace HM := kept (HM.out.below0 HW.out)
  clear hW0
  have hc0 : W0.cell? ⟨w.heap.size, 0, none⟩ = some (.string R) := by rw [HB.out.cell]; rfl
  have hc1 : W0.cell? ⟨w.heap.size, 1, none⟩ = some (.slice A L.length c) := by rw [HB.out.cell]; rfl
  cases hN : isN (R, L) with
  | false =>
    have HT := kept (show strOf (textL (R, L)) = ⟨#[]⟩ by unfold textL; rw [hN]; rfl)
    go_wp2_with (first | (go_at_call 12; refine (revalid_any _ R L q A c hR HS.out hl HM.out).mono ?_; rintro e w1 ⟨rfl, k1⟩))
    go_ret
    exact ⟨ret_str HT.out, HW.out.trans (k1.mono HW.out.size)⟩
  | true =>
    obtain ⟨hp, hr, h1, h8⟩ := isN_parts hN
    have HP := kept hp
    have HRW := kept hr
    have HT := kept (show strOf (textL (R, L)) = strOf (joinP L ++ 64 :: escL R.data.toList) by unfold textL; rw [hN]; rfl)
    clear hp hr
    go_upto_region 3 with (first | (go_at_call 12; refine (revalid_any _ R L q A c hR HS.out hl HM.out).mono ?_; rintro e w1 ⟨rfl, k1⟩))
    replace HB := kept (HB.out.below k1 HB.out.lt)
    replace HM := kept (HM.out.below0 k1)
    replace HW := kept (below_next HW.out k1)
    have HL := kept h1
    have H8 := kept h8
    clear k1 hc0 hc1 h1 h8
    have hc0 : w1.cell? ⟨w.heap.size, 0, none⟩ = some (.string R) := by rw [HB.out.cell]; rfl
    have hc1 : w1.cell? ⟨w.heap.size, 1, none⟩ = some (.slice A L.length c) := by rw [HB.out.cell]; rfl
    have hp0 : 0 < L.length := HL.out
    obtain ⟨o, hA, hk0⟩ := HM.out.at_ hp0
    subst hA
    rw [Nat.add_zero] at hk0
    have HE0 := kept (HP.out _ (List.getElem_mem hp0))
    have HJ := kept (joinP_one L hp0)
    have hi1 : (0 : Int) < (L.length : Int) := by omega
    generalize hs0 : L[0] = s0 at *
    clear hs0
    go_upto_region 5 with (first | (go_at_call 32; refine (reesc_any s0 _ (by have := (isW_size HE0.out).2; omega)).mono ?_; rintro e w2 ⟨rfl, rfl⟩))
    rw [← HJ.out]
    clear hk0 HE0 HJ
    go_loop [3, 4] (fun out i => ∃ k : Nat, 1 ≤ k ∧ k ≤ L.length ∧ i = .int .i64 k ∧ out = .string (strOf (joinP (L.take k)))) (fun _ i => L.length - (intOf i).toNat)
    case atStart => exact ⟨1, Nat.le_refl _, HL.out, rfl, rfl⟩
    case round =>
      obtain ⟨k, h1k, hk, rfl, rfl⟩ := hrel
      obtain ⟨X, hX⟩ : ∃ X, strOf (joinP (L.take k)) = X := ⟨_, rfl⟩
      have hXs : X.size ≤ 2000 := by
        rw [← hX, strOf_size]
        have h1 := joinP_len (L.take k) fun s hs => HP.out s (List.mem_of_mem_take hs)
        have h2 := H8.out
        rw [List.length_take] at h1
        omega
      rw [hX]
      by_cases hlt : k < L.length
      · obtain ⟨o', hA', hck⟩ := HM.out.at_ hlt
        injection hA' with hA'
        injection hA' with _ hA'
        subst hA'
        have hZ := HP.out _ (List.getElem_mem hlt)
        have hi0 : (0 : Int) ≤ (k : Int) := by omega
        have hi2 : (k : Int) < (L.length : Int) := by omega
        have hJ := joinP_next L k hlt h1k
        generalize hs : L[k] = s at *
        have HZ := kept hZ
        have HN := kept (show X ++ ⟨#[47]⟩ ++ strOf (escL s.data.toList) = strOf (joinP (L.take (k + 1))) by
          rw [hJ, ← hX]
          refine (congrArg (· ++ strOf (escL s.data.toList)) (strOf_append _ [47])).trans ?_
          rw [strOf_append, List.append_assoc]
          rfl)
        have hes := esc_size hZ
        have hz1 : ¬ 9223372036854775807 < X.size + 1 := by omega
        have hz2 : ¬ 9223372036854775807 < X.size + 1 + (strOf (escL s.data.toList)).size := by omega
        clear hX hJ hs hZ
        go_wp2_with (first | (go_at_call 32; refine (reesc_any s _ (by have := (isW_size HZ.out).2; omega)).mono ?_; rintro e w2 ⟨rfl, rfl⟩))
        go_round
        case rel => exact ⟨k + 1, by omega, by omega, by go_num, by rw [HN.out]⟩
        case measure => simp [intOf]; omega
      · have HN := kept (show strOf (textL (R, L)) = X ++ ⟨#[64]⟩ ++ strOf (escL R.data.toList) by
          rw [HT.out, ← hX, List.take_of_length_le (by omega)]
          refine Eq.trans ?_ (congrArg (· ++ strOf (escL R.data.toList)) (strOf_append _ [64]).symm)
          rw [strOf_append, List.append_assoc]
          rfl)
        have hes := esc_size HRW.out
        have hz1 : ¬ 9223372036854775807 < X.size + 1 := by omega
        have hz2 : ¬ 9223372036854775807 < X.size + 1 + (strOf (escL R.data.toList)).size := by omega
        clear hX
        go_wp2_with (first | (go_at_call 32; refine (reesc_any R _ (by have := (isW_size HRW.out).2; omega)).mono ?_; rintro e w2 ⟨rfl, rfl⟩))
        go_ret
        exact ⟨ret_str HN.out, HW.out⟩
end Go.Proofs.Ytnejidaplbonoaa
