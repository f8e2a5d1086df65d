/-
  The reference's split.
-/
import Derived.Test.YtnejidaplbonoaaNameP
import Derived.Test.YtnejidaplbonoaaStrs
namespace Go.Proofs.Ytnejidaplbonoaa
open Go.RowKit
set_option linter.unusedVariables false

/-- The parts of bytes at a sign that has no backslash in front of it; cur is the part that was begun. -/
def splitL (c : UInt8) : List UInt8 → List UInt8 → List (List UInt8)
  | cur, [] => [cur]
  | cur, [b] => if b = 92 then [cur ++ [b]] else if b = c then [cur, []] else [cur ++ [b]]
  | cur, b :: d :: r => if b = 92 then splitL c (cur ++ [b, d]) r else if b = c then cur :: splitL c [] (d :: r) else splitL c (cur ++ [b]) (d :: r)
theorem splitL_mark (c : UInt8) (cur : List UInt8) (d : UInt8) (r : List UInt8) : splitL c cur (92 :: d :: r) = splitL c (cur ++ [92, d]) r := by
  rw [splitL, if_pos rfl]
theorem splitL_mark1 (c : UInt8) (cur : List UInt8) : splitL c cur [92] = splitL c (cur ++ [92]) [] := by
  simp [splitL]
theorem splitL_sign (c : UInt8) (cur : List UInt8) (r : List UInt8) (h : c ≠ 92) : splitL c cur (c :: r) = cur :: splitL c [] r := by
  cases r with
  | nil => rw [splitL, splitL, if_neg h, if_pos rfl]
  | cons d r => rw [splitL, if_neg h, if_pos rfl]
theorem splitL_next (c : UInt8) (cur : List UInt8) (b : UInt8) (r : List UInt8) (h : b ≠ 92) (h2 : b ≠ c) : splitL c cur (b :: r) = splitL c (cur ++ [b]) r := by
  cases r with
  | nil => rw [splitL, splitL, if_neg h, if_neg h2]
  | cons d r => rw [splitL, if_neg h, if_neg h2]
/-- The bytes from one place to another one. -/
def cutL (l : List UInt8) (i k : Nat) : List UInt8 := (l.take k).drop i
theorem cutL_nil (l : List UInt8) (k : Nat) : cutL l k k = [] := List.drop_of_length_le (by rw [List.length_take]; omega)
theorem cutL_next (s : ByteArray) (i k : Nat) (h : k < s.size) (hi : i ≤ k) : cutL s.data.toList i (k + 1) = cutL s.data.toList i k ++ [s[k]] := by
  unfold cutL
  rw [str_take s k h, List.drop_append_of_le_length (by rw [List.length_take]; have : s.data.toList.length = s.size := by simp
                                                        omega)]
theorem cutL_all (s : ByteArray) (i k : Nat) (h : s.size ≤ k) : cutL s.data.toList i k = cutL s.data.toList i s.size := by
  unfold cutL
  rw [List.take_of_length_le (by simpa using h), List.take_of_length_le (by simp)]
theorem str_cut (s : ByteArray) (i k : Nat) : s.extract i k = strOf (cutL s.data.toList i k) := by
  apply str_ext
  rw [strOf_list, ByteArray.data_extract, Array.toList_extract, List.extract_eq_take_drop]
  unfold cutL
  rw [List.drop_take]
set_option maxHeartbeats 1600000 in
theorem resplit_any (s : ByteArray) (c : UInt8) (w : World) (hs : s.size ≤ 1000) (hc : c ≠ 92) :
    Calls Try.prog 38 #[.string s, .int .u8 (c.toNat : Int)] w fun e w' => ∃ v, e = .returned v ∧ OwnS 9 w' w.heap.size v ((splitL c [] s.data.toList).map strOf) ∧ Below w.heap.size w w' := by
  obtain ⟨i0, hi0, hz0, hs0, hb0⟩ := str_parts
  have HC := kept hc
  clear hc
  go_enter Try.func38, Try.ntmps38
  go_wp2
  go_loopw [5, 6, 7] (fun out f i wr => ∃ (j k : Nat) (v : Value) (D : List (List UInt8)), j ≤ k ∧ j ≤ s.size ∧ k ≤ s.size + 1 ∧ i = .int .i64 k ∧ f = .int .i64 j ∧ v = out ∧ D.length ≤ k ∧ Kept (OwnS 9 wr w.heap.size v (D.map strOf)) ∧ Kept (Below w.heap.size w wr) ∧ Kept (splitL c [] s.data.toList = D ++ splitL c (cutL s.data.toList j k) (s.data.toList.drop k))) (fun _ _ i _ => s.size + 1 - (intOf i).toNat)
  case atStart => exact ⟨0, 0, _, [], Nat.le_refl _, Nat.zero_le _, Nat.zero_le _, rfl, rfl, rfl, Nat.le_refl _, kept (OwnS.nil_ _ _ _), kept (Below.refl _ _), kept rfl⟩
  case round =>
    obtain ⟨j, k, v, D, hjk, hjs, hks, rfl, rfl, rfl, hD, HO, HW, HA⟩ := hrel
    by_cases hlt : k < s.size
    · have hd := drop_at s k hlt
      have hcut := cutL_next s j k hlt hjk
      by_cases h92 : s[k] = 92
      · have hbn : ((s[k].toNat : Nat) : Int) = 92 := by rw [h92]; rfl
        have HN := kept (show splitL c [] s.data.toList = D ++ splitL c (cutL s.data.toList j (k + 1 + 1)) (s.data.toList.drop (k + 1 + 1)) by
          rw [HA.out, hd, h92]
          by_cases h2 : k + 1 < s.size
          · rw [drop_at s (k + 1) h2, splitL_mark, cutL_next s j (k + 1) h2 (by omega), hcut, h92, List.append_assoc]
            rfl
          · rw [drop_end s (k + 1) (by omega), drop_end s (k + 1 + 1) (by omega), splitL_mark1, cutL_all s j (k + 1 + 1) (by omega), ← cutL_all s j (k + 1) (by omega), hcut, h92])
        clear hd hcut h92
        go_wp2
        go_roundw
        case rel => exact ⟨j, k + 1 + 1, _, D, by omega, by omega, by omega, by go_num, rfl, rfl, by omega, HO, HW, HN⟩
        case measure => simp [intOf]; omega
      · have hbn : ((s[k].toNat : Int) == 92) = false := beq_false_of_ne fun z => h92 (UInt8.toNat_inj.1 (by show s[k].toNat = 92; omega))
        by_cases hsc : s[k] = c
        · have hbc : ((s[k].toNat : Int) == (c.toNat : Int)) = true := by rw [hsc]; simp
          have HN := kept (show splitL c [] s.data.toList = (D ++ [cutL s.data.toList j k]) ++ splitL c (cutL s.data.toList (k + 1) (k + 1)) (s.data.toList.drop (k + 1)) by
            rw [HA.out, hd, hsc, splitL_sign _ _ _ HC.out, cutL_nil, List.append_assoc]
            rfl)
          have HT := kept (str_cut s j k)
          have hj1 : (j : Int) ≤ (k : Int) := by omega
          have hk1 : (k : Int) ≤ (s.size : Int) := by omega
          clear hd hcut h92 hsc
          generalize hX : s.extract j k = X at *
          have hO1 := HO.out.alloc (.cells #[.string X] 9)
          have hM1 : MemS (wr.alloc (.cells #[.string X] 9)) wr.heap.size (some ⟨wr.heap.size, 0, none⟩) [X] := memS_lit (l := [X]) rfl
          have hl1 : (D.map strOf).length + ([X] : List ByteArray).length ≤ 1000000 := by rw [List.length_map, List.length_cons, List.length_nil]; omega
          have hB1 : w.heap.size ≤ (wr.alloc (.cells #[.string X] 9)).heap.size := by have := HW.out.size; simp; omega
          have hbel := fun (W3 : World) (hg : (wr.alloc (.cells #[.string X] 9)).grownBy W3 v.ownBlock) => (HW.out.alloc HW.out.size (.cells #[.string X] 9)).grown hg hB1 (fun k hk => (OwnS.lt HO.out k hk).1)
          have HBEL := kept hbel
          clear hbel
          go_wp2_with (at_builtin; refine wpList_append_strs (T := 9) rfl (.tmp 25) (.tmp 30) 22 rfl w.heap.size i0 Try.underlying22 hi0 hz0 hs0 hb0 v (D.map strOf) rfl hO1 wr.heap.size (some ⟨wr.heap.size, 0, none⟩) 1 1 [X] rfl rfl hM1 hl1 hB1 ?_; intro v3 W3 ho3 hg3)
          have HO3 := kept (show OwnS 9 W3 w.heap.size v3 ((D ++ [cutL s.data.toList j k]).map strOf) by
            rw [List.map_append]
            rw [HT.out] at ho3
            exact ho3)
          have HW3 := kept (HBEL.out W3 hg3)
          clear ho3 hg3 hO1 hM1 hl1 hB1
          go_wp2
          go_roundw
          case rel => exact ⟨k + 1, k + 1, _, D ++ [cutL s.data.toList j k], by omega, by omega, by omega, by go_num, by go_num, rfl, by rw [List.length_append, List.length_cons, List.length_nil]; omega, HO3, HW3, HN⟩
          case measure => simp [intOf]; omega
        · have hbc : ((s[k].toNat : Int) == (c.toNat : Int)) = false := beq_false_of_ne fun z => hsc (UInt8.toNat_inj.1 (by omega))
          have HN := kept (show splitL c [] s.data.toList = D ++ splitL c (cutL s.data.toList j (k + 1)) (s.data.toList.drop (k + 1)) by
            rw [HA.out, hd, splitL_next _ _ _ _ h92 hsc, hcut])
          clear hd hcut h92 hsc
          go_wp2
          go_roundw
          case rel => exact ⟨j, k + 1, _, D, by omega, by omega, by omega, by go_num, rfl, rfl, by omega, HO, HW, HN⟩
          case measure => simp [intOf]; omega
    · have HN := kept (show (splitL c [] s.data.toList).map strOf = D.map strOf ++ [s.extract j s.size] by
        rw [HA.out, drop_end s k (by omega), cutL_all s j k (by omega), splitL, str_cut, List.map_append]
        rfl)
      have hj1 : (j : Int) ≤ (s.size : Int) := by omega
      generalize hX : s.extract j s.size = X at *
      have hO1 := HO.out.alloc (.cells #[.string X] 9)
      have hM1 : MemS (wr.alloc (.cells #[.string X] 9)) wr.heap.size (some ⟨wr.heap.size, 0, none⟩) [X] := memS_lit (l := [X]) rfl
      have hl1 : (D.map strOf).length + ([X] : List ByteArray).length ≤ 1000000 := by rw [List.length_map, List.length_cons, List.length_nil]; omega
      have hB1 : w.heap.size ≤ (wr.alloc (.cells #[.string X] 9)).heap.size := by have := HW.out.size; simp; omega
      have hbel := fun (W3 : World) (hg : (wr.alloc (.cells #[.string X] 9)).grownBy W3 v.ownBlock) => (HW.out.alloc HW.out.size (.cells #[.string X] 9)).grown hg hB1 (fun k hk => (OwnS.lt HO.out k hk).1)
      have HBEL := kept hbel
      clear hbel
      go_wp2_with (at_builtin; refine wpList_append_strs (T := 9) rfl (.tmp 34) (.tmp 38) 22 rfl w.heap.size i0 Try.underlying22 hi0 hz0 hs0 hb0 v (D.map strOf) rfl hO1 wr.heap.size (some ⟨wr.heap.size, 0, none⟩) 1 1 [X] rfl rfl hM1 hl1 hB1 ?_; intro v3 W3 ho3 hg3)
      have HO3 := kept (show OwnS 9 W3 w.heap.size v3 ((splitL c [] s.data.toList).map strOf) by
        rw [HN.out]
        exact ho3)
      have HW3 := kept (HBEL.out W3 hg3)
      clear ho3 hg3 hO1 hM1 hl1 hB1
      go_wp2
      go_ret
      exact ⟨_, rfl, HO3.out, HW3.out⟩
end Go.Proofs.Ytnejidaplbonoaa
