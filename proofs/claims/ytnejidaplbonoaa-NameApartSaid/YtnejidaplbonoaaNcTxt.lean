/-
  Text of package name, by a contract.
-/
import Derived.Test.YtnejidaplbonoaaNcVal
import Derived.Test.YtnejidaplbonoaaNcEsc
import Derived.Test.YtnejidaplbonoaaNcJoin
import Derived.Test.YtnejidaplbonoaaNameT
import Derived.Test.YtnejidaplbonoaaTailQ
namespace Go.Proofs.Ytnejidaplbonoaa
open Go.RowKit
set_option linter.unusedVariables false
set_option linter.unusedSimpArgs false

/-- A word with its backslashes. -/
def escS (s : ByteArray) : ByteArray := strOf (escL s.data.toList)
theorem join_joinP (L : List ByteArray) : Lib.join ((L.map escS).map (·.data.toList)) [47] = joinP L := by
  cases L with
  | nil => rfl
  | cons s r =>
    rw [List.map_cons, List.map_cons, Lib.join_cons, joinP]
    congr 1
    unfold Lib.joinTail
    rw [List.map_map, List.map_map, List.flatMap_def]
    rfl
theorem mem_oneS (W : World) (X : ByteArray) : MemS (W.alloc (.cells #[.string X] 9)) W.heap.size (some ⟨W.heap.size, 0, none⟩) [X] := memS_lit (l := [X]) rfl
theorem own_snocS {T : TypeId} {w W W3 : World} {v : Value} {l : List ByteArray} {c : Value} (hw : Below w.heap.size w W)
    (hv : OwnS T W w.heap.size v l) (hg : (W.alloc (.cells #[c] T)).grownBy W3 v.ownBlock) : Below w.heap.size w W3 :=
  (hw.alloc hw.size (.cells #[c] T)).grown hg (by have := hw.size; simp; omega) fun k hk => (OwnS.lt hv k hk).1
set_option maxHeartbeats 8000000 in
set_option maxRecDepth 100000 in
theorem ntext_any (w : World) (R : ByteArray) (L : List ByteArray) (q : Nat) (A : Option Addr) (c : Nat) (hR : R.size ≤ maxLen) (hS : ∀ s ∈ L, s.size ≤ maxLen) (hl : L.length ≤ maxLen) (hm : MemS w q A L) :
    Calls Try.prog 9 #[.agg #[.string R, .slice A L.length c]] w fun e w' => e = .returned (.string (strOf (textL (R, L)))) ∧ Below w.heap.size w w' := by
  obtain ⟨i0, hi0, hz0, hs0, hb0⟩ := str_parts
  have HM := kept hm
  have HS := kept hS
  have HLm := kept hl
  clear hm hS hl
  go_enter Try.func9, Try.ntmps9
  go_upto_region 1 with (fail)
  go_name_world W0 hW0
  have HB := kept (show Blk W0 w.heap.size 24 #[.string R, .slice A L.length c] by rw [← hW0]; exact Blk.new w _ _)
  have HW := kept (show Below w.heap.size w W0 by rw [← hW0]; exact (Below.refl _ w).alloc (Nat.le_refl _) _)
  replace HM := kept (HM.out.below0 HW.out)
  clear hW0
  have hc0 : W0.cell? ⟨w.heap.size, 0, none⟩ = some (.string R) := by rw [HB.out.cell]; rfl
  have hc1 : W0.cell? ⟨w.heap.size, 1, none⟩ = some (.slice A L.length c) := by rw [HB.out.cell]; rfl
  cases hN : isN (R, L) with
  | false =>
    have HT := kept (show strOf (textL (R, L)) = ⟨#[]⟩ by unfold textL; rw [hN]; rfl)
    go_wp2_with (first | (go_at_call 11; refine (nvalid_any _ R L q A c hR HS.out HLm.out HM.out).mono ?_; rintro e w1 ⟨rfl, k1⟩))
    go_ret
    exact ⟨ret_str HT.out, HW.out.trans (k1.mono HW.out.size)⟩
  | true =>
    obtain ⟨hp, hr, h1, h8⟩ := isN_parts hN
    have HP := kept hp
    have HRW := kept hr
    have HT := kept (show strOf (textL (R, L)) = strOf (joinP L ++ 64 :: escL R.data.toList) by unfold textL; rw [hN]; rfl)
    have hll : L.length ≤ 8 := h8
    clear hp hr h1 h8
    go_upto_region 4 with (first | (go_at_call 11; refine (nvalid_any _ R L q A c hR HS.out HLm.out HM.out).mono ?_; rintro e w1 ⟨rfl, k1⟩))
    replace HB := kept (HB.out.below k1 HB.out.lt)
    replace HM := kept (HM.out.below0 k1)
    replace HW := kept (below_next HW.out k1)
    clear k1 hc0 hc1
    have hc1 : w1.cell? ⟨w.heap.size, 1, none⟩ = some (.slice A L.length c) := by rw [HB.out.cell]; rfl
    go_wp2
    go_loopw [3, 5, 12] (fun out _ i wr => ∃ (k : Nat) (v : Value), k ≤ L.length ∧ i = .int .i64 k ∧ v = out ∧ Kept (OwnS 9 wr w1.heap.size v ((L.take k).map escS)) ∧ Kept (Below w1.heap.size w1 wr)) (fun _ _ i _ => L.length - (intOf i).toNat)
    case atStart => exact ⟨0, _, Nat.zero_le _, rfl, rfl, kept (OwnS.nil_ _ _ _), kept (Below.refl _ _)⟩
    case round =>
      obtain ⟨k, v, hk, rfl, rfl, HO, HV⟩ := hrel
      by_cases hlt : k < L.length
      · obtain ⟨o, hA, hck⟩ := (HM.out.below0 HV.out).at_ hlt
        subst hA
        have HZ := kept (show (L[k]).size ≤ 1000000 by have := (isW_size (HP.out _ (List.getElem_mem hlt))).2; omega)
        have hk0 : (0 : Int) ≤ (k : Int) := by omega
        have hk1 : (k : Int) < (L.length : Int) := by omega
        have HX := kept (show (L.take (k + 1)).map escS = (L.take k).map escS ++ [escS L[k]] by rw [List.take_succ_eq_append_getElem hlt, List.map_append]; rfl)
        have HLn := kept (show ((L.take k).map escS).length ≤ 8 by rw [List.length_map, List.length_take]; omega)
        generalize hs : L[k] = s at *
        generalize hE : (L.take k).map escS = E at *
        obtain ⟨X, hX⟩ : ∃ X, strOf (escL s.data.toList) = X := ⟨_, rfl⟩
        have HXX := kept (show escS s = X from hX)
        have HC := kept (fun W => hX ▸ escaped_any s W HZ.out)
        clear hs hE hX
        go_upto_region 8 with (first
          | (go_at_call 25; refine (HC.out _).mono ?_; rintro e w2 ⟨rfl, k2⟩
             have HO2 := kept (HO.out.below k2)
             have HV2 := kept (below_next HV.out k2)
             have hM2 := mem_oneS w2 X
             have hB2 : w1.heap.size ≤ (w2.alloc (.cells #[.string X] 9)).heap.size := by have := HV2.out.size; simp; omega
             have HO4 := kept (HO2.out.alloc (.cells #[.string X] 9)))
          | (at_builtin; refine wpList_append_strs (T := 9) rfl (.tmp 16) (.tmp 19) 22 rfl w1.heap.size i0 Try.underlying22 hi0 hz0 hs0 hb0 v E rfl HO4.out w2.heap.size (some ⟨w2.heap.size, 0, none⟩) 1 1 [X] rfl rfl hM2 (by have := HLn.out; simp; omega) hB2 ?_; intro v4 W4 ho4 hg4))
        have HV4 := kept (own_snocS HV2.out HO2.out hg4)
        have HO5 := kept (show OwnS 9 W4 w1.heap.size v4 ((L.take (k + 1)).map escS) by rw [HX.out, HXX.out]; exact ho4)
        clear ho4 hg4 hM2 hB2 HO4
        go_wp2
        go_roundw
        case rel => exact ⟨k + 1, v4, by omega, by go_num, rfl, HO5, HV4⟩
        case measure => simp [intOf]; omega
      · have HF := kept (show OwnS 9 wr w1.heap.size v (L.map escS) by
          have h := HO.out
          rw [List.take_of_length_le (by omega)] at h
          exact h)
        clear HO
        replace HB := kept (HB.out.below HV.out HB.out.lt)
        replace HW := kept (below_next HW.out HV.out)
        obtain ⟨A1, q1, c1, hv1, hcc1, hcm1, hm1⟩ := HF.out.form
        subst hv1
        rw [List.length_map] at hcc1 ⊢
        have hjl := joinP_len L fun s hs => HP.out s hs
        have hJ := fun (W : World) (hM : MemS W q1 A1 (L.map escS)) => joinS_any W (L.map escS) q1 A1 L.length c1 ⟨#[47]⟩ (by rw [List.length_map]) (by rw [List.length_map]; exact hcc1) hM (by rw [List.length_map]; omega) (by
          have e := join_joinP L
          show (Lib.join ((L.map escS).map (·.data.toList)) [47]).length ≤ _
          rw [e]
          omega)
        have HJL := kept hjl
        clear hjl
        obtain ⟨X, hX⟩ : ∃ X, strOf (joinP L) = X := ⟨_, rfl⟩
        have HJ := kept (show ∀ W, MemS W q1 A1 (L.map escS) → Calls Try.prog 26 #[.slice A1 L.length c1, .string ⟨#[47]⟩] W fun e w' => e = .returned (.string X) ∧ Below W.heap.size W w' from fun W hM => by
          rw [← hX, ← join_joinP L]
          exact hJ W hM)
        have hXs : X.size ≤ 2000 := by rw [← hX, strOf_size]; have := HJL.out; omega
        obtain ⟨Y, hY⟩ : ∃ Y, strOf (escL R.data.toList) = Y := ⟨_, rfl⟩
        have hYs : Y.size ≤ 200 := by rw [← hY]; exact esc_size HRW.out
        have HE := kept (show ∀ W, Calls Try.prog 25 #[.string R] W fun e w' => e = .returned (.string Y) ∧ Below W.heap.size W w' from fun W => hY ▸ escaped_any R W (by have := (isW_size HRW.out).2; omega))
        have HN := kept (show strOf (textL (R, L)) = X ++ ⟨#[64]⟩ ++ Y by
          rw [HT.out, ← hX, ← hY]
          refine Eq.trans ?_ (congrArg (· ++ strOf (escL R.data.toList)) (strOf_append _ [64]).symm)
          rw [strOf_append, List.append_assoc]
          rfl)
        have hz1 : ¬ 9223372036854775807 < X.size + 1 := by omega
        have hz2 : ¬ 9223372036854775807 < X.size + 1 + Y.size := by omega
        clear hJ hX hY
        obtain ⟨C, hCd⟩ : ∃ C : World → Prop, C = fun w' => Below wr.heap.size wr w' := ⟨_, rfl⟩
        have HC := kept (show ∀ w', C w' → Below wr.heap.size wr w' from fun w' h => by rw [hCd] at h; exact h)
        have HC' := kept (show ∀ w', Below wr.heap.size wr w' → C w' from fun w' h => by rw [hCd]; exact h)
        clear hCd
        have QR := kept (show ∀ w', C w' → w'.cell? ⟨w.heap.size, 0, none⟩ = some (.string R) from fun w' h => by rw [(HB.out.below (HC.out _ h) HB.out.lt).cell]; rfl)
        have QM := kept (show ∀ w', C w' → MemS w' q1 A1 (L.map escS) from fun w' h => hm1.below0 (HC.out _ h))
        clear hm1
        go_upto_region 9 with (fail)
        refine wp_region_class C (by kernel_rfl) (by kernel_rfl) (HC'.out _ (Below.refl _ wr).drew) ?_
        quiet_step (exact fun _ => rfl)
        quiet_step (exact fun hw' => (HJ.out _ (QM.out _ hw')).mono fun e w'' he => ⟨he.1, HC'.out _ ((HC.out _ hw').trans (he.2.mono (HC.out _ hw').size))⟩)
        quiet_step (exact fun _ => rfl)
        quiet_step (exact fun _ => rfl)
        refine quiet_cell (by rfl) 9 (.tmp 25) rfl w.heap.size 0 (by rfl) (.string R) _ QR.out Try.underlying9 rfl ?_
        quiet_step (exact fun hw' => (HE.out _).mono fun e w'' he => ⟨he.1, HC'.out _ ((HC.out _ hw').trans (he.2.mono (HC.out _ hw').size))⟩)
        quiet_step (exact fun _ => rfl)
        quiet_step (exact fun _ => rfl)
        refine wpQuiet_nil ?_
        intro W9 hC9
        have b9 := kept (below_next HW.out (HC.out _ hC9))
        go_wp2_with fail
        go_ret
        exact ⟨ret_str HN.out, b9.out⟩
end Go.Proofs.Ytnejidaplbonoaa
