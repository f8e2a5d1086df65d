/-
  Package aes: the round keys, by a contract.
-/
import Derived.Test.YtnfgmgkdkfeekaaPm18
import Derived.Test.YtnfgmgkdkfeekaaPm19
import Derived.Test.YtnfgmgkdkfeekaaPm9
namespace Go.Proofs.Ytnfgmgkdkfeekaa
open Go.RowKit
set_option linter.unusedVariables false
set_option linter.unusedSimpArgs false

theorem kp_pow (n : Nat) : kp n = gpow 2 n := by
  induction n with
  | zero => rfl
  | succ n ih =>
    rw [kp, ih, xt_two, gf_comm]
    rfl
/-- The next row of the round keys. -/
theorem aKey_next (key : Nat → UInt8) (i : Nat) (hi : i < 10) : ∀ q r, q < 4 → r < 4 → aKey key (16 * (i + 1) + (4 * q + r)) = nkC (kRow (aKey key) i) (nkT (kRow (aKey key) i) (kp i)) q r := by
  intro q
  induction q with
  | zero =>
    intro r _ hr
    have h := aKey_at key (4 * (i + 1) + 0) r (by omega) hr
    rw [if_neg (by omega)] at h
    rw [show 16 * (i + 1) + (4 * 0 + r) = 4 * (4 * (i + 1) + 0) + r by omega, h, nkC]
    unfold kRow
    rw [show 4 * (4 * (i + 1) + 0 - 4) + r = 16 * i + r by omega]
    congr 1
    unfold kT nkT
    rw [if_pos (by omega), show (4 * (i + 1) + 0 - 1) / 4 = i by omega, show 4 * (4 * (i + 1) + 0 - 1) + 1 = 16 * i + 13 by omega, show 4 * (4 * (i + 1) + 0 - 1) + (r + 1) % 4 = 16 * i + (12 + (r + 1) % 4) by omega, sbx_at, sbx_at]
  | succ q ih =>
    intro r hq hr
    have h := aKey_at key (4 * (i + 1) + (q + 1)) r (by omega) hr
    rw [if_neg (by omega)] at h
    rw [show 16 * (i + 1) + (4 * (q + 1) + r) = 4 * (4 * (i + 1) + (q + 1)) + r by omega, h, nkC, ← ih r (by omega) hr]
    rw [show kRow (aKey key) i (4 * (q + 1) + r) = aKey key (16 * i + (4 * (q + 1) + r)) from rfl]
    rw [show 4 * (4 * (i + 1) + (q + 1) - 4) + r = 16 * i + (4 * (q + 1) + r) by omega]
    congr 1
    unfold kT
    rw [if_neg (by omega), show 4 * (4 * (i + 1) + (q + 1) - 1) + r = 16 * (i + 1) + (4 * q + r) by omega]
theorem aKey_row (key : Nat → UInt8) (i : Nat) (hi : i < 10) : Eq16 (nkV (kRow (aKey key) i) (nkT (kRow (aKey key) i) (gpowZ 2 (i : Int)))) (kRow (aKey key) (i + 1)) := fun j hj => by
  have h := aKey_next key i hi (j / 4) (j % 4) (by omega) (by omega)
  have e : gpowZ 2 (i : Int) = kp i := by
    unfold gpowZ
    rw [if_neg (by omega), kp_pow]
    rfl
  rw [e]
  unfold nkV
  rw [← h]
  unfold kRow
  rw [show 4 * (j / 4) + j % 4 = j by omega]
/-- The round keys behind i rounds. -/
def ksF (ks : Nat → UInt8) (i : Nat) : Nat → UInt8 := fun j => if j < 16 * (i + 1) then ks j else 0
theorem ksF_all (ks : Nat → UInt8) : bA 176 (ksF ks 10) = bA 176 ks := bA_ext fun j hj => if_pos (by omega)
theorem ksF_row (ks : Nat → UInt8) (i : Nat) : Eq16 (kRow (ksF ks i) i) (kRow ks i) := fun j hj => if_pos (by omega)
theorem blk_setBytes {g : Nat} {t : TypeId} {n : Nat} (L : List UInt8) : ∀ (o : Nat) (w : World) (f : Nat → UInt8), Blk w g t (bA n f) → Blk (w.setCells g o (L.map bv)) g t (bA n fun j => if o ≤ j ∧ j < o + L.length then L.getD (j - o) 0 else f j) := by
  induction L with
  | nil =>
    intro o w f h
    rw [show bA n (fun j => if o ≤ j ∧ j < o + ([] : List UInt8).length then ([] : List UInt8).getD (j - o) 0 else f j) = bA n f from bA_ext fun j _ => if_neg (by rw [List.length_nil]; omega)]
    exact h
  | cons x L ih =>
    intro o w f h
    have h1 := ih (o + 1) (w.setCell ⟨g, o, none⟩ (bv x)) (fun j => if j = o then x else f j) (h.putB o x fun j _ => rfl)
    refine Eq.mp ?_ h1
    congr 1
    refine bA_ext fun j _ => ?_
    by_cases e : j = o
    · subst e
      rw [if_neg (by omega), if_pos rfl, if_pos (by simp), Nat.sub_self]
      rfl
    · by_cases h2 : o + 1 ≤ j ∧ j < o + 1 + L.length
      · rw [if_pos h2, if_pos (by simp; omega), show j - o = (j - (o + 1)) + 1 by omega]
        rfl
      · rw [if_neg h2, if_neg e, if_neg (by simp; omega)]
theorem below_setBytes {B : Nat} (g : Nat) (vs : List Value) (hb : B ≤ g) : ∀ (o : Nat) (w : World), Below B w (w.setCells g o vs) := by
  induction vs with
  | nil => exact fun _ _ => Below.refl _ _
  | cons v r ih => exact fun o w => ((Below.refl B w).setCell (p := ⟨g, o, none⟩) hb v).trans (ih _ _)
theorem bA_list (n : Nat) (f : Nat → UInt8) : (bA n f).toList = ((List.range n).map f).map bv := by
  rw [List.map_map]
  rfl
theorem ksF_step {w : World} {g : Nat} {t : TypeId} (ks m : Nat → UInt8) (i : Nat) (hi : i < 10) (hm : Eq16 m (kRow ks (i + 1))) (h : Blk w g t (bA 176 (ksF ks i))) : Blk (w.setCells g ((i + 1) * 16) (bA 16 m).toList) g t (bA 176 (ksF ks (i + 1))) := by
  have e : bA 176 (fun j => if (i + 1) * 16 ≤ j ∧ j < (i + 1) * 16 + ((List.range 16).map m).length then ((List.range 16).map m).getD (j - (i + 1) * 16) 0 else ksF ks i j) = bA 176 (ksF ks (i + 1)) := bA_ext fun j hj => by
    rw [List.length_map, List.length_range]
    unfold ksF
    by_cases h2 : (i + 1) * 16 ≤ j ∧ j < (i + 1) * 16 + 16
    · rw [if_pos h2, if_pos (by omega)]
      have h16 : j - (i + 1) * 16 < 16 := by omega
      rw [List.getD_eq_getElem?_getD, List.getElem?_map, List.getElem?_range h16]
      show m (j - (i + 1) * 16) = ks j
      rw [hm _ h16]
      unfold kRow
      rw [show 16 * (i + 1) + (j - (i + 1) * 16) = j by omega]
    · rw [if_neg h2]
      by_cases h3 : j < 16 * (i + 1)
      · rw [if_pos h3, if_pos (by omega)]
      · rw [if_neg h3, if_neg (by omega)]
  have h1 := blk_setBytes (g := g) (t := t) (n := 176) ((List.range 16).map m) ((i + 1) * 16) w (ksF ks i) h
  rw [e, ← bA_list] at h1
  exact h1
/-- The first row alone. -/
def iniF (key : Nat → UInt8) : Nat → UInt8 := fun j => if j < 16 then key j else 0
theorem built_ini (key : Nat → UInt8) : Try.prog.built 56 [(0, .agg (bA 16 key))] = some (bA 176 (iniF key)) := by kernel_rfl
theorem iniF_ks (key : Nat → UInt8) : bA 176 (iniF key) = bA 176 (ksF (aKey key) 0) := bA_ext fun j hj => by
  unfold iniF ksF
  by_cases h : j < 16
  · rw [if_pos h, if_pos (by omega)]
    have := aKey_first key j h
    unfold kRow at this
    rw [show 16 * 0 + j = j by omega] at this
    exact this.symm
  · rw [if_neg h, if_neg (by omega)]
theorem wpList_builtA {P : Program} {ops : Array Oper} {rest : List Oper} {o : Oper} {a : Act} {w : World} {Q : Exit → Act → World → Prop} (hg : o.guard = none) (t : TypeId) (parts : Array (Nat × Operand)) (ho : o.op = .build t parts) (ps : List (Nat × Value)) (cells : Array Value)
    (hp : (parts.toList.map fun (i, x) => (i, a.eval x)) = ps) (hb : P.built t ps = some cells) (h : wpList P ops Q rest (a.put o.dst (.agg cells)) w) : wpList P ops Q (o :: rest) a w := by
  have e : P.built t (parts.map fun (i, x) => (i, a.eval x)).toList = some cells := by rw [Array.toList_map, hp]; exact hb
  exact wpList_build hg t parts ho (by rw [e]; rfl) (by rw [e]; exact h)
set_option maxHeartbeats 1000000 in
set_option maxRecDepth 100000 in
theorem akeys_any (w : World) (key : Nat → UInt8) : Calls Try.prog 28 #[.agg (bA 16 key)] w fun e w' => e = .returned (.agg (bA 176 (aKey key))) ∧ Below w.heap.size w w' := by
  have HROW := kept (aKey_row key)
  have HINI := kept (iniF_ks key)
  obtain ⟨ks, hks⟩ : ∃ ks, aKey key = ks := ⟨_, rfl⟩
  rw [hks] at HROW HINI
  rw [hks]
  clear hks
  have hz1 := zero11
  go_enter Try.func28, Try.ntmps28
  go_upto_region 1 with (fail)
  go_name_world W0 hW0
  have HK0 := kept (show Blk W0 w.heap.size 22 (bA 16 key) by rw [← hW0]; exact (Blk.new w _ _).alloc _)
  have HZ0 := kept (show Blk W0 (w.heap.size + 1) 56 (bA 176 fun _ => 0) by
    rw [← hW0]
    have n1 := Blk.new (w.alloc (.cells (bA 16 key) 22)) 56 (bA 176 fun _ => 0)
    simp only [World.size_alloc] at n1
    exact n1)
  have HW0 := kept (show Below w.heap.size w W0 by rw [← hW0]; exact ((Below.refl _ _).alloc (Nat.le_refl _) _).alloc (by simp) _)
  clear hW0
  have HBU := kept (built_ini key)
  clear hz1
  have hg : w.heap.size + 1 < W0.heap.size := HZ0.out.lt
  have hz1 := zero11
  go_upto_region 2 with (first | (refine wpList_builtA rfl 56 #[(0, .tmp 5)] rfl [(0, .agg (bA 16 key))] (bA 176 (iniF key)) rfl HBU.out ?_) | (refine wpList_load_row rfl 22 (.tmp 1) rfl w.heap.size rfl 22 (bA 16 key) (0, 0) _ HK0.out Try.underlying22 rfl (by rw [b16_size, bA_size]) ?_) | (refine wpList_store_row rfl 56 (.tmp 3) (.tmp 6) rfl W0.heap.size (bA 176 (iniF key)) rfl rfl 56 (bA 176 fun _ => 0) (Blk.new W0 _ _) (by rw [b176_size, bA_size]) (by rw [bA_size, bA_size]) (bA_one _ _) ?_))
  go_name_world W2 hW2
  have HZ2 := kept (show Blk W2 (w.heap.size + 1) 56 (bA 176 fun _ => 0) by rw [← hW2]; exact (HZ0.out.alloc _).row_far (by omega))
  have HW2 := kept (show Below w.heap.size w W2 by rw [← hW2]; exact below_setRow (HW0.out.alloc HW0.out.size _) (by omega) _)
  have HS2 := kept (show Blk W2 W0.heap.size 56 (bA 176 (ksF ks 0)) by rw [← hW2, ← HINI.out]; exact setRow_heap _ _ _ _ _ _ (Blk.new W0 _ _))
  clear hW2 hz1 HK0 HZ0 HW0 HBU
  generalize W0.heap.size = g3 at hg HS2
  go_wp2_with fail
  go_loopw [7] (fun i wr => ∃ n : Nat, n ≤ 10 ∧ i = .int .i64 n ∧ Kept (Blk wr g3 56 (bA 176 (ksF ks n))) ∧ Kept (Blk wr (w.heap.size + 1) 56 (bA 176 fun _ => 0)) ∧ Kept (Below w.heap.size w wr)) (fun i _ => 10 - (intOf i).toNat)
  case atStart => exact ⟨0, Nat.zero_le _, rfl, HS2, HZ2, HW2⟩
  case round =>
    obtain ⟨n, hn, rfl, HS3, HZ3, HW3⟩ := hrel
    rename World => W3
    clear HS2 HZ2 HW2
    by_cases hlt : n < 10
    · have hn10 : (n : Int) < 10 := by omega
      have hn11 : (n : Int) < 11 := by omega
      have hm11 : (n : Int) + 1 < 11 := by omega
      have hn0 : 0 ≤ (n : Int) := by omega
      have hwr : IntKind.i64.wrap ((n : Int) + 1) = ((n + 1 : Nat) : Int) := IntWalk.i64_in _ (by omega)
      have HR := kept (HROW.out n hlt)
      have hcong : Eq16 (kRow (ksF ks n) n) (kRow ks n) := ksF_row ks n
      obtain ⟨C, hCd⟩ : ∃ C : World → Prop, C = fun w' => Below W3.heap.size W3 w' := ⟨_, rfl⟩
      have HC := kept (show ∀ w', C w' → Below W3.heap.size W3 w' from fun w' h => by rw [hCd] at h; exact h)
      have HC' := kept (show ∀ w', Below W3.heap.size W3 w' → C w' from fun w' h => by rw [hCd]; exact h)
      clear hCd
      have R1 := kept (show ∀ w', C w' → w'.rangeAt g3 (n * 16) (bA 16 (kRow ks n)).toList from fun w' h => by
        rw [← hcong.arr]
        exact (HS3.out.below (HC.out _ h) HS3.out.lt).row_range n (by omega))
      have HP := kept (fun w => fpow_any w 2 (n : Int) (by omega) (by omega))
      have HNX := kept (fun w => anext_any w (kRow ks n) (gpowZ 2 (n : Int)))
      generalize gpowZ 2 (n : Int) = pw at HP HNX HR
      generalize kRow ks n = K at R1 HNX HR hcong
      obtain ⟨M, hM⟩ : ∃ M, nkV K (nkT K pw) = M := ⟨_, rfl⟩
      rw [hM] at HR HNX
      clear hM hcong
      obtain ⟨m, hm⟩ : ∃ m, n + 1 = m := ⟨_, rfl⟩
      have HM := kept hm
      have hm11' : (m : Int) < 11 := by omega
      have hm0 : 0 ≤ (m : Int) := by omega
      rw [hm] at hwr
      have hlt10 := hlt
      have HLT := kept hlt
      clear hm hlt10 hlt hn hm11
      go_wp2_with fail
      refine wp_region_tail C 9 (by kernel_rfl) (by kernel_rfl) (HC'.out _ (Below.refl _ W3).drew) ?_
      simp only [List.take_succ_cons, List.take_zero, List.drop_succ_cons, List.drop_zero]
      quiet_step (exact fun _ => rfl)
      quiet_step (exact fun _ => rfl)
      quiet_step (exact fun _ => rfl)
      quiet_step (exact fun _ => rfl)
      refine quiet_load (by rfl) 22 (.tmp 13) rfl g3 (n * 16) (by rfl) (bA 16 K).toList _ R1.out Try.underlying22 rfl (s16_len _) ?_
      quiet_step (exact fun _ => rfl)
      quiet_step (exact fun hw' => (HP.out _).mono fun e w'' he => ⟨he.1, HC'.out _ ((HC.out _ hw').trans (he.2.mono (HC.out _ hw').size))⟩)
      quiet_step (exact fun hw' => (HNX.out _).mono fun e w'' he => ⟨he.1, HC'.out _ ((HC.out _ hw').trans (he.2.mono (HC.out _ hw').size))⟩)
      quiet_step (exact fun _ => rfl)
      refine wpQuiet_nil ?_
      intro W4 hC4
      have hb4 := HC.out _ hC4
      have HS4 := kept (HS3.out.below hb4 HS3.out.lt)
      have HZ4 := kept (HZ3.out.below hb4 HZ3.out.lt)
      have HW4 := kept (HW3.out.trans (hb4.mono HW3.out.size))
      clear hC4 hb4 HC HC' R1 HS3 HZ3 HW3 HP HNX
      have HTH := kept (show W4.there g3 (m * 16) (bA 16 M).size from fun j hj => by
        rw [bA_size] at hj
        have h1 := HM.out
        have h2 := HLT.out
        refine ⟨?_, HS4.out.frozen _⟩
        rw [HS4.out.cell, bA_at _ _ (by omega)]
        rfl)
      have HST := kept (show Blk (W4.setCells g3 (m * 16) (bA 16 M).toList) g3 56 (bA 176 (ksF ks (n + 1))) by
        rw [← HM.out]
        exact ksF_step ks M n HLT.out HR.out HS4.out)
      have HZT := kept (show Blk (W4.setCells g3 (m * 16) (bA 16 M).toList) (w.heap.size + 1) 56 (bA 176 fun _ => 0) from HZ4.out.below (below_setBytes (B := w.heap.size + 1 + 1) g3 _ (by omega) _ _) (by omega))
      have HWT := kept (show Below w.heap.size w (W4.setCells g3 (m * 16) (bA 16 M).toList) from HW4.out.trans (below_setBytes g3 _ (by omega) _ _))
      obtain ⟨R, hR⟩ : ∃ R, bA 16 M = R := ⟨_, rfl⟩
      have hR1 : R.all (·.oneCell') = true := by rw [← hR]; exact bA_one _ _
      have hRS : R.size = 16 := by rw [← hR]; exact bA_size _ _
      rw [hR] at HTH HST HZT HWT
      rw [hR]
      clear hR HS4 HZ4 HW4
      refine wpList_store_mid rfl 22 (.tmp 18) (.tmp 17) rfl g3 (m * 16) R rfl rfl HTH.out (by rw [b16_size, hRS]) hR1 ?_
      generalize W4.setCells g3 (m * 16) R.toList = W5 at HST HZT HWT
      go_wp2
      refine ⟨⟨n + 1, by have := HLT.out; omega, by rw [HM.out], HST, HZT, HWT⟩, ?_⟩
      have h1 := HM.out
      have h2 := HLT.out
      simp [intOf]
      omega
    · obtain rfl : n = 10 := by omega
      have HS4 := kept (show Blk W3 g3 56 (bA 176 ks) by rw [← ksF_all]; exact HS3.out)
      clear HS3 hn hlt HROW HINI
      go_wp2_with (first | (refine wpList_load_row rfl 56 (.tmp 3) rfl g3 rfl 56 (bA 176 ks) (0, 0) _ HS4.out Try.underlying56 rfl (by rw [b176_size, bA_size]) ?_) | (refine wpList_store_row rfl 56 (.tmp 2) (.tmp 20) rfl (w.heap.size + 1) (bA 176 ks) rfl rfl 56 (bA 176 fun _ => 0) HZ3.out (by rw [b176_size, bA_size]) (by rw [bA_size, bA_size]) (bA_one _ _) ?_))
      exact bodyPost_ret (v := .agg (bA 176 ks)) (results_cell_row Try.results28 _ _ (w.heap.size + 1) 56 (bA 176 ks) (0, 0) _ rfl (setRow_heap _ _ _ _ _ _ HZ3.out) Try.underlying56 rfl (by rw [b176_size, bA_size])) rfl ⟨rfl, below_setRow HW3.out (by omega) _⟩
end Go.Proofs.Ytnfgmgkdkfeekaa
