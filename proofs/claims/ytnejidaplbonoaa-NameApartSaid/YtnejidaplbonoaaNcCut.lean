/-
  cut of package name, by a contract.
-/
import Derived.Test.YtnejidaplbonoaaNcEsc
import Derived.Test.YtnejidaplbonoaaNameS
namespace Go.Proofs.Ytnejidaplbonoaa
open Go.RowKit
set_option linter.unusedVariables false
set_option linter.unusedSimpArgs false

/-- The first word of a text (behind what was read already), the byte that ends it, what follows. -/
def wcut : List UInt8 → List UInt8 → List UInt8 × UInt8 × List UInt8
  | O, [] => (O, 0, [])
  | O, [b] => if isM b then (O, b, []) else (O ++ [b], 0, [])
  | O, b :: c :: r => if isM b then (if b = 92 ∧ isM c = true then wcut (O ++ [c]) r else (O, b, c :: r)) else wcut (O ++ [b]) (c :: r)
theorem wcut_word (O : List UInt8) (b : UInt8) (r : List UInt8) (h : isM b = false) : wcut O (b :: r) = wcut (O ++ [b]) r := by
  cases r with
  | nil => simp [wcut, h]
  | cons c r => simp [wcut, h]
theorem wcut_mark (O : List UInt8) (c : UInt8) (r : List UInt8) (h : isM c = true) : wcut O (92 :: c :: r) = wcut (O ++ [c]) r := by
  rw [wcut, if_pos (by decide), if_pos ⟨rfl, h⟩]
theorem wcut_end (O : List UInt8) (b : UInt8) (r : List UInt8) (h : isM b = true) (h2 : b ≠ 92 ∨ r = [] ∨ ∃ c r', r = c :: r' ∧ isM c = false) : wcut O (b :: r) = (O, b, r) := by
  cases r with
  | nil => rw [wcut, if_pos h]
  | cons c r =>
    rw [wcut, if_pos h, if_neg]
    rintro ⟨h3, h4⟩
    rcases h2 with h2 | h2 | ⟨c', r', h2, h5⟩
    · exact h2 h3
    · cases h2
    · injection h2 with h2 _
      subst h2
      rw [h5] at h4
      cases h4
theorem str_rest (s : ByteArray) (k : Nat) : s.extract k s.size = strOf (s.data.toList.drop k) := by
  rw [str_cut]
  unfold cutL
  rw [List.take_of_length_le (by simp)]
/-- What cut returns. -/
def cutV (p : List UInt8 × UInt8 × List UInt8) : Value := .tuple #[.string (strOf p.1), .int .u8 (p.2.1.toNat : Int), .string (strOf p.2.2)]
set_option maxHeartbeats 8000000 in
theorem ncut_any (s : ByteArray) (w : World) (hs : s.size ≤ 1000000) :
    Calls Try.prog 33 #[.string s] w fun e w' => e = .returned (cutV (wcut [] s.data.toList)) ∧ Below w.heap.size w w' := by
  obtain ⟨i0, hi0, hz0, hs0, hb0⟩ := info_parts u8_info
  obtain ⟨Z, hZ⟩ : ∃ Z, wcut [] s.data.toList = Z := ⟨_, rfl⟩
  rw [hZ]
  have HZ := kept hZ
  clear hZ
  go_enter Try.func33, Try.ntmps33
  go_wp2
  go_loopw [5, 6] (fun out i wr => ∃ (k : Nat) (v : Value) (O : List UInt8), k ≤ s.size ∧ i = .int .i64 k ∧ v = out ∧ O.length ≤ k ∧ Kept (Own wr w.heap.size v O) ∧ Kept (Below w.heap.size w wr) ∧ Kept (wcut O (s.data.toList.drop k) = Z)) (fun _ i _ => s.size - (intOf i).toNat)
  case atStart => exact ⟨0, _, [], Nat.zero_le _, rfl, rfl, Nat.zero_le _, kept (Own.nil_ _ _), kept (Below.refl _ _), HZ⟩
  case round =>
    obtain ⟨k, v, O, hk, rfl, rfl, hO, HO, HW, HA⟩ := hrel
    by_cases hlt : k < s.size
    · have hd := drop_at s k hlt
      cases hM : isM s[k] with
      | false =>
        have HN := kept (show wcut (O ++ [s[k]]) (s.data.toList.drop (k + 1)) = Z by rw [← wcut_word _ _ _ hM, ← hd]; exact HA.out)
        clear hd HA
        generalize hb : s[k] = b at *
        have hM2 := mem_one wr b
        have hB2 : w.heap.size ≤ (wr.alloc (.cells #[.int .u8 (b.toNat : Int)] 5)).heap.size := by have := HW.out.size; simp; omega
        have HO4 := kept (HO.out.alloc (.cells #[.int .u8 (b.toNat : Int)] 5))
        go_wp2_with (first | (go_at_call 43; refine (special_any b _).mono ?_; rintro e w1 ⟨rfl, rfl⟩) | (at_builtin; refine wpList_append_bytes rfl (.tmp 47) (.tmp 51) 28 rfl w.heap.size i0 Try.underlying28 hi0 hz0 hs0 hb0 v O rfl HO4.out w1.heap.size (some ⟨w1.heap.size, 0, none⟩) 1 1 [b] rfl rfl hM2 (by simp; omega) hB2 ?_; intro v4 W4 ho4 hg4))
        go_roundw
        case rel => exact ⟨k + 1, v4, O ++ [b], by omega, by go_num, rfl, by simp; omega, kept ho4, kept (own_snoc HW.out ho4 HO.out hg4), HN⟩
        case measure => simp [intOf]; omega
      | true =>
        by_cases hc : s[k] = 92 ∧ ∃ h : k + 1 < s.size, isM s[k + 1] = true
        · obtain ⟨hb, h2, hM2⟩ := hc
          have HN := kept (show wcut (O ++ [s[k + 1]]) (s.data.toList.drop (k + 1 + 1)) = Z by rw [← wcut_mark _ _ _ hM2, ← drop_at s (k + 1) h2, ← hb, ← hd]; exact HA.out)
          clear hd HA
          generalize hb2 : s[k + 1] = b at *
          have hbn : ((s[k].toNat : Nat) : Int) = 92 := by rw [hb]; rfl
          have hne : ((k : Int) + 1 == (s.size : Int)) = false := beq_false_of_ne (by omega)
          have hlt2 : (k : Int) + 1 < (s.size : Int) := by omega
          have hz1 : isZ 92 = true := by decide
          have hz2 : isZ (b.toNat : Int) = true := by rw [isZ_byte]; exact hM2
          have hbl := byte_lt b
          clear hb hM hM2
          have hM3 := mem_one wr b
          have hB2 : w.heap.size ≤ (wr.alloc (.cells #[.int .u8 (b.toNat : Int)] 5)).heap.size := by have := HW.out.size; simp; omega
          have HO4 := kept (HO.out.alloc (.cells #[.int .u8 (b.toNat : Int)] 5))
          go_wp2_with (first | (go_at_call 43; refine (special_z _ (by omega) (by omega) _).mono ?_; rintro e w1 ⟨rfl, rfl⟩) | (at_builtin; refine wpList_append_bytes rfl (.tmp 47) (.tmp 51) 28 rfl w.heap.size i0 Try.underlying28 hi0 hz0 hs0 hb0 v O rfl HO4.out w1.heap.size (some ⟨w1.heap.size, 0, none⟩) 1 1 [b] rfl rfl hM3 (by simp; omega) hB2 ?_; intro v4 W4 ho4 hg4))
          go_roundw
          case rel => exact ⟨k + 1 + 1, v4, O ++ [b], by omega, by go_num, rfl, by simp; omega, kept ho4, kept (own_snoc HW.out ho4 HO.out hg4), HN⟩
          case measure => simp [intOf]; omega
        · have HN := kept (show Z = (O, s[k], s.data.toList.drop (k + 1)) by
            rw [← HA.out, hd]
            refine wcut_end _ _ _ hM ?_
            by_cases h92 : s[k] = 92
            · by_cases h2 : k + 1 < s.size
              · refine .inr (.inr ⟨s[k + 1], _, drop_at s (k + 1) h2, ?_⟩)
                cases h3 : isM s[k + 1] with
                | false => rfl
                | true => exact absurd ⟨h92, h2, h3⟩ hc
              · exact .inr (.inl (drop_end s (k + 1) (by omega)))
            · exact .inl h92)
          have HR := kept (str_rest s (k + 1))
          clear hd HA
          obtain ⟨A1, q1, c1, hv1, hc1, hcm1, hm1, -, -⟩ := HO.out.form
          subst hv1
          have hcv := fun n => conv_str (hm1.drewN n) _ c1 rfl
          clear hm1
          have hk1 : (k : Int) + 1 ≤ (s.size : Int) := by omega
          have hbl := byte_lt s[k]
          by_cases h92 : s[k] = 92
          · have hbn : ((s[k].toNat : Nat) : Int) = 92 := by rw [h92]; rfl
            have hz1 : isZ 92 = true := by decide
            rw [h92] at HN
            by_cases h2 : k + 1 < s.size
            · have hM2 : isM s[k + 1] = false := by
                cases h3 : isM s[k + 1] with
                | false => rfl
                | true => exact absurd ⟨h92, h2, h3⟩ hc
              have hne : ((k : Int) + 1 == (s.size : Int)) = false := beq_false_of_ne (by omega)
              have hlt2 : (k : Int) + 1 < (s.size : Int) := by omega
              have hz2 : isZ (s[k + 1].toNat : Int) = false := by rw [isZ_byte]; exact hM2
              have hbl2 := byte_lt s[k + 1]
              clear hM hM2 hc h92
              go_wp2_with (first | (go_at_call 43; refine (special_z _ (by omega) (by omega) _).mono ?_; rintro e w1 ⟨rfl, rfl⟩))
              go_quiet (fail)
              go_wp2
              go_ret3
              refine ⟨?_, below_drewN HW.out _⟩
              rw [HN.out, HR.out]
              rfl
            · have hne : ((k : Int) + 1 == (s.size : Int)) = true := by rw [show ((k : Int) + 1) = (s.size : Int) by omega]; simp
              clear hM hc h92
              go_wp2_with (first | (go_at_call 43; refine (special_z _ (by omega) (by omega) _).mono ?_; rintro e w1 ⟨rfl, rfl⟩))
              go_quiet (fail)
              go_wp2
              go_ret3
              refine ⟨?_, below_drewN HW.out _⟩
              rw [HN.out, HR.out]
              rfl
          · have hbn : ((s[k].toNat : Int) != 92) = true := bne_iff_ne.2 fun z => h92 (UInt8.toNat_inj.1 (by show s[k].toNat = 92; omega))
            have hz1 : isZ (s[k].toNat : Int) = true := by rw [isZ_byte]; exact hM
            clear hM hc h92
            go_wp2_with (first | (go_at_call 43; refine (special_z _ (by omega) (by omega) _).mono ?_; rintro e w1 ⟨rfl, rfl⟩))
            go_quiet (fail)
            go_wp2
            go_ret3
            refine ⟨?_, below_drewN HW.out _⟩
            rw [HN.out, HR.out]
            rfl
    · have HN := kept (show Z = (O, 0, []) by rw [← HA.out, drop_end s k (by omega), wcut])
      obtain ⟨A1, q1, c1, hv1, hc1, hcm1, hm1, -, -⟩ := HO.out.form
      subst hv1
      have hcv := conv_str hm1 _ c1 rfl
      clear hm1
      go_wp2
      go_ret3
      exact ⟨by rw [HN.out]; rfl, HW.out⟩
end Go.Proofs.Ytnejidaplbonoaa
