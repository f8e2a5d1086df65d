/-
  isSpecial and escaped of package name, by contracts.
-/
import Derived.Test.YtnejidaplbonoaaNameE
import Derived.Test.YtnejidaplbonoaaNameR
import Derived.Deep.Cut
namespace Go.Proofs.Ytnejidaplbonoaa
open Go.RowKit
set_option linter.unusedVariables false
set_option linter.unusedSimpArgs false

theorem special_any (b : UInt8) (w : World) :
    Calls Try.prog 43 #[.int .u8 (b.toNat : Int)] w fun e w' => e = .returned (.bool (isM b)) ∧ w' = w := by
  by_cases h1 : b = 47
  · subst h1
    go_enter Try.func43, Try.ntmps43
    go_wp2
    go_ret
    exact ⟨rfl, rfl⟩
  by_cases h2 : b = 64
  · subst h2
    go_enter Try.func43, Try.ntmps43
    go_wp2
    go_ret
    exact ⟨rfl, rfl⟩
  by_cases h3 : b = 92
  · subst h3
    go_enter Try.func43, Try.ntmps43
    go_wp2
    go_ret
    exact ⟨rfl, rfl⟩
  have hM : isM b = false := by
    unfold isM
    rw [beq_false_of_ne h1, beq_false_of_ne h2, beq_false_of_ne h3]
    rfl
  have n1 : ((b.toNat : Int) == 47) = false := beq_false_of_ne fun z => h1 (UInt8.toNat_inj.1 (by show b.toNat = 47; omega))
  have n2 : ((b.toNat : Int) == 64) = false := beq_false_of_ne fun z => h2 (UInt8.toNat_inj.1 (by show b.toNat = 64; omega))
  have n3 : ((b.toNat : Int) == 92) = false := beq_false_of_ne fun z => h3 (UInt8.toNat_inj.1 (by show b.toNat = 92; omega))
  rw [hM]
  clear h1 h2 h3 hM
  go_enter Try.func43, Try.ntmps43
  go_wp2
  go_ret
  exact ⟨rfl, rfl⟩
/-- The same of a number. -/
def isZ (z : Int) : Bool := isM (UInt8.ofNat z.toNat)
theorem isZ_byte (b : UInt8) : isZ (b.toNat : Int) = isM b := by
  unfold isZ
  rw [show ((b.toNat : Int)).toNat = b.toNat by omega]
  congr 1
  exact UInt8.toNat_inj.1 (by rw [UInt8.toNat_ofNat']; have := byte_lt b; omega)
theorem special_z (z : Int) (h0 : 0 ≤ z) (h1 : z < 256) (w : World) :
    Calls Try.prog 43 #[.int .u8 z] w fun e w' => e = .returned (.bool (isZ z)) ∧ w' = w := by
  obtain ⟨b, rfl⟩ : ∃ b : UInt8, z = (b.toNat : Int) := ⟨UInt8.ofNat z.toNat, by rw [UInt8.toNat_ofNat']; omega⟩
  rw [isZ_byte]
  exact special_any b w
/-- append(v, b) of one byte that lies in a new block. -/
theorem own_snoc {w W W3 : World} {v v3 : Value} {l : List UInt8} {b : UInt8} {c : Value} (hw : Below w.heap.size w W)
    (ho : Own W3 w.heap.size v3 (l ++ [b])) (hv : Own W w.heap.size v l) (hg : (W.alloc (.cells #[c] 5)).grownBy W3 v.ownBlock) : Below w.heap.size w W3 :=
  (hw.alloc hw.size (.cells #[c] 5)).grown hg (by have := hw.size; simp; omega) fun k hk => (World.ownsRow.lt hv k hk).1
theorem mem_one (W : World) (b : UInt8) : Mem (W.alloc (.cells #[.int .u8 (b.toNat : Int)] 5)) W.heap.size (some ⟨W.heap.size, 0, none⟩) [b] := by
  refine .inr ⟨0, rfl, fun j b' hj => ?_⟩
  rw [(Blk.new W _ _).cell]
  match j, hj with
  | 0, hj => injection hj with hj; subst hj; rfl
set_option maxHeartbeats 4000000 in
theorem escaped_any (s : ByteArray) (w : World) (hs : s.size ≤ 1000000) :
    Calls Try.prog 25 #[.string s] w fun e w' => e = .returned (.string (strOf (escL s.data.toList))) ∧ Below w.heap.size w w' := by
  obtain ⟨i0, hi0, hz0, hs0, hb0⟩ := info_parts u8_info
  go_enter Try.func25, Try.ntmps25
  go_wp2
  go_loopw [3, 4, 7] (fun out _ i wr => ∃ (k : Nat) (v : Value), k ≤ s.size ∧ i = .int .i64 k ∧ v = out ∧ Kept (Own wr w.heap.size v (escL (s.data.toList.take k))) ∧ Kept (Below w.heap.size w wr)) (fun _ _ i _ => s.size - (intOf i).toNat)
  case atStart => exact ⟨0, _, Nat.zero_le _, rfl, rfl, kept (Own.nil_ _ _), kept (Below.refl _ _)⟩
  case round =>
    obtain ⟨k, v, hk, rfl, rfl, HO, HW⟩ := hrel
    have HL := kept (escL_len (s.data.toList.take k))
    have HK := kept (List.length_take_le k s.data.toList)
    by_cases hlt : k < s.size
    · have hT := str_take s k hlt
      have hS := escL_snoc (s.data.toList.take k) s[k]
      have HX := kept (show (escL (s.data.toList.take k)).length ≤ 2000000 by have h1 := HL.out; have h2 := HK.out; omega)
      generalize hb : s[k] = b at *
      generalize hE : escL (s.data.toList.take k) = E at *
      cases hM : isM b with
      | true =>
        have HN := kept (show E ++ [92] ++ [b] = escL (s.data.toList.take (k + 1)) by rw [hT, hS, if_pos hM, List.append_assoc]; rfl)
        clear hT hS
        have hM1 := mem_one wr 92
        have hB1 : w.heap.size ≤ (wr.alloc (.cells #[.int .u8 ((92 : UInt8).toNat : Int)] 5)).heap.size := by have := HW.out.size; simp; omega
        have HO1 := kept (HO.out.alloc (.cells #[.int .u8 ((92 : UInt8).toNat : Int)] 5))
        go_upto_region 7 with (first | (go_at_call 43; refine (special_any b _).mono ?_; rintro e w1 ⟨rfl, rfl⟩) | (at_builtin; refine wpList_append_bytes rfl (.tmp 14) (.tmp 15) 28 rfl w.heap.size i0 Try.underlying28 hi0 hz0 hs0 hb0 v E rfl HO1.out w1.heap.size (some ⟨w1.heap.size, 0, none⟩) 1 1 [92] rfl rfl hM1 (by have := HX.out; simp; omega) hB1 ?_; intro v3 W3 ho3 hg3))
        have HO3 := kept ho3
        have HW3 := kept (own_snoc HW.out ho3 HO.out hg3)
        clear ho3 hg3 hM1 hB1 HO1
        have hM2 := mem_one W3 b
        have hB2 : w.heap.size ≤ (W3.alloc (.cells #[.int .u8 (b.toNat : Int)] 5)).heap.size := by have := HW3.out.size; simp; omega
        have HO4 := kept (HO3.out.alloc (.cells #[.int .u8 (b.toNat : Int)] 5))
        go_wp2_with (at_builtin; refine wpList_append_bytes rfl (.tmp 17) (.tmp 21) 28 rfl w.heap.size i0 Try.underlying28 hi0 hz0 hs0 hb0 v3 (E ++ [92]) rfl HO4.out W3.heap.size (some ⟨W3.heap.size, 0, none⟩) 1 1 [b] rfl rfl hM2 (by have := HX.out; simp; omega) hB2 ?_; intro v4 W4 ho4 hg4)
        go_roundw
        case rel => exact ⟨k + 1, v4, by omega, by go_num, rfl, kept (by rw [← HN.out]; exact ho4), kept (own_snoc HW3.out ho4 HO3.out hg4)⟩
        case measure => simp [intOf]; omega
      | false =>
        have HN := kept (show E ++ [b] = escL (s.data.toList.take (k + 1)) by rw [hT, hS, if_neg (by rw [hM]; simp)])
        clear hT hS
        have hM2 := mem_one wr b
        have hB2 : w.heap.size ≤ (wr.alloc (.cells #[.int .u8 (b.toNat : Int)] 5)).heap.size := by have := HW.out.size; simp; omega
        have HO4 := kept (HO.out.alloc (.cells #[.int .u8 (b.toNat : Int)] 5))
        go_wp2_with (first | (go_at_call 43; refine (special_any b _).mono ?_; rintro e w1 ⟨rfl, rfl⟩) | (at_builtin; refine wpList_append_bytes rfl (.tmp 17) (.tmp 21) 28 rfl w.heap.size i0 Try.underlying28 hi0 hz0 hs0 hb0 v E rfl HO4.out w1.heap.size (some ⟨w1.heap.size, 0, none⟩) 1 1 [b] rfl rfl hM2 (by have := HX.out; simp; omega) hB2 ?_; intro v4 W4 ho4 hg4))
        go_roundw
        case rel => exact ⟨k + 1, v4, by omega, by go_num, rfl, kept (by rw [← HN.out]; exact ho4), kept (own_snoc HW.out ho4 HO.out hg4)⟩
        case measure => simp [intOf]; omega
    · have HE := kept (show escL (s.data.toList.take k) = escL s.data.toList by rw [List.take_of_length_le (by simp; omega)])
      replace HO := kept (show Own wr w.heap.size v (escL s.data.toList) by rw [← HE.out]; exact HO.out)
      clear HE HL HK
      obtain ⟨A1, q1, c1, hv1, hc1, hcm1, hm1, -, -⟩ := HO.out.form
      subst hv1
      have hcv := conv_str hm1 _ c1 rfl
      clear hm1
      go_wp2
      go_ret
      exact ⟨rfl, HW.out⟩
end Go.Proofs.Ytnejidaplbonoaa
