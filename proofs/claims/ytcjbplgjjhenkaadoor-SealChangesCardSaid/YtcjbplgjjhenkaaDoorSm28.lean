/-
  Sum, Check of package mac, by contracts.
-/
import Derived.Test.YtcjbplgjjhenkaaDoorSm25
import Derived.Test.YtcjbplgjjhenkaaDoorSm19
import Derived.OrdersHeld
import Derived.Deep.RegionHeld
import Derived.Deep.Upon
import Derived.Test.YtcjbplgjjhenkaaDoorSm17
import Derived.StillTailTactics
import Derived.Deep.Cut
/-
  coder of package mac, by a contract: the function that makes codes, with the inner and the outer block that it keeps.
-/
namespace Go.Proofs.YtcjbplgjjhenkaaDoor
open Go.RowKit
set_option linter.unusedVariables false
set_option linter.unusedSimpArgs false

theorem blk_setRest {w : World} {g : Nat} {t : TypeId} (pre new old : List Value) (h : Blk w g t (pre ++ old).toArray) (hl : old.length = new.length) : Blk (w.setCells g pre.length new) g t (pre ++ new).toArray := by
  induction new generalizing pre old w with
  | nil =>
    obtain rfl : old = [] := List.length_eq_zero_iff.1 hl
    exact h
  | cons v r ih =>
    cases old with
    | nil => cases hl
    | cons u s =>
      have h1 := h.put pre.length v
      have e : (pre ++ u :: s).toArray.setIfInBounds pre.length v = ((pre ++ [v]) ++ s).toArray := by
        rw [List.setIfInBounds_toArray, List.set_append_right _ _ (Nat.le_refl _)]
        simp
      rw [e] at h1
      have h2 := ih (pre ++ [v]) s h1 (by simpa using hl)
      rw [List.length_append, List.length_singleton, List.append_assoc] at h2
      exact h2
/-- A whole row stored over a block. -/
theorem blk_setAll {w : World} {g : Nat} {t : TypeId} {cs new : Array Value} (h : Blk w g t cs) (hl : cs.size = new.size) : Blk (w.setCells g 0 new.toList) g t new := by
  have := blk_setRest (w := w) (g := g) (t := t) [] new.toList cs.toList (by simpa using h) (by simpa using hl)
  simpa using this
theorem below_setCells {B : Nat} (w : World) (g o : Nat) (vs : List Value) (hb : B ≤ g) : Below B w (w.setCells g o vs) := by
  induction vs generalizing w o with
  | nil => exact Below.refl _ _
  | cons v r ih => exact (((Below.refl B w).setCell (p := ⟨g, o, none⟩) hb v).trans (ih _ _))
theorem blk_there {w : World} {g : Nat} {t : TypeId} {cs : Array Value} (h : Blk w g t cs) {n : Nat} (hn : n = cs.size) : w.there g 0 n := by
  subst hn
  intro j hj
  refine ⟨?_, h.frozen _⟩
  rw [Nat.zero_add, h.cell]
  simp [hj]
/-- v is a function that makes codes under the key k: it keeps the inner and the outer block, which lie in memory from block B on. -/
def Coder (w : World) (B : Nat) (v : Value) (k : List UInt8) : Prop :=
  ∃ gi go, v = .func (.func 38) #[] #[.pointer (some ⟨gi, 0, none⟩), .pointer (some ⟨go, 0, none⟩)] ∧ B ≤ gi ∧ B ≤ go ∧ Blk w gi 67 ((xorB 54 (padK k)).map bv).toArray ∧ Blk w go 67 ((xorB 92 (padK k)).map bv).toArray
set_option maxHeartbeats 16000000 in
set_option maxRecDepth 100000 in
theorem coder_any (w : World) (q : Nat) (A : Option Addr) (n c : Nat) (k : List UInt8) (hK : KAt w) (hn : n = k.length) (hm : Mem w q A k) (hc : k.length ≤ c) (hkl : k.length ≤ 140737488355328) :
    Calls Tryd.prog 28 #[.slice A n c] w fun e w' => (∃ gi go, e = .returned (.func (.func 38) #[] #[.pointer (some ⟨gi, 0, none⟩), .pointer (some ⟨go, 0, none⟩)]) ∧ w.heap.size ≤ gi ∧ w.heap.size ≤ go ∧ Blk w' gi 67 ((xorB 54 (padK k)).map bv).toArray ∧ Blk w' go 67 ((xorB 92 (padK k)).map bv).toArray) ∧ Below w.heap.size w w' := by
  have HPAD := kept (pad_any w q A n c k hK hn hm hc hkl)
  have hpl := padK_len k
  obtain ⟨P, hP⟩ : ∃ P, padK k = P := ⟨_, rfl⟩
  rw [hP] at HPAD hpl
  rw [hP]
  have HPL := kept hpl
  have hmf : ∀ (fn : Fn) (first cap : Array Value) (w : World), (Instr.makeFunc fn first cap).run Tryd.prog w = .ok (.func fn first cap) w := fun _ _ _ _ => rfl
  clear hn hm hc hkl hK hpl hP
  go_enter Tryd.func28, Tryd.ntmps28
  go_wp2_with fail
  refine HPAD.out.mono ?_
  rintro e W0 ⟨rfl, b0⟩
  go_wp2_with (refine wpList_store_row rfl 67 _ _ rfl W0.heap.size (P.map bv).toArray rfl rfl 67 (Array.replicate 64 (.int .u8 0)) (Blk.new W0 _ _) (by rw [b64_size]; simp [HPL.out]) (by simp [HPL.out]) (padded_one P) ?_)
  go_name_world W1 hW1
  have hB1 : Blk W1 W0.heap.size 67 (P.map bv).toArray := by rw [← hW1]; exact setRow_heap _ _ _ _ _ _ (Blk.new W0 _ _)
  have hb1 : Below w.heap.size w W1 := by rw [← hW1]; exact below_setRow (b0.alloc b0.size _) b0.size _
  obtain ⟨gP, hgP⟩ : ∃ g, W0.heap.size = g := ⟨_, rfl⟩
  rw [hgP] at hB1
  rw [hgP]
  have hpw : w.heap.size ≤ gP := by have := b0.size; omega
  have hkeep : ∀ w' w'' : World, (w'.rangeAt gP 0 (P.map bv) ∧ Below w.heap.size w w') → Below w'.heap.size w' w'' → (w''.rangeAt gP 0 (P.map bv) ∧ Below w.heap.size w w'') := by
    intro w' w'' h hb
    refine ⟨?_, h.2.trans (hb.mono h.2.size)⟩
    intro j v hv
    have h1 := h.1 j v hv
    exact (hb.cell (p := ⟨gP, 0 + j, none⟩) (World.block_lt_of_cell? w' _ h1)).trans h1
  have hS : (fun w' : World => w'.rangeAt gP 0 (P.map bv) ∧ Below w.heap.size w w') W1.drew := ⟨by have := range_of_blk hB1; simpa using this, hb1.drew⟩
  have HS := kept hS
  have HKEEP := kept hkeep
  have HLT := kept (show ∀ w' : World, (w'.rangeAt gP 0 (P.map bv) ∧ Below w.heap.size w w') → gP < w'.heap.size from fun w' h => by
    obtain ⟨v, hv⟩ : ∃ v, (P.map bv)[0]? = some v := ⟨_, List.getElem?_eq_getElem (by rw [List.length_map, HPL.out]; omega)⟩
    exact World.block_lt_of_cell? w' _ (h.1 0 v hv))
  have n44 : (Tryd.prog.info? 67).map (·.size) = some (P.map bv).length := by rw [b64_size, List.length_map, HPL.out]
  clear hS hkeep hB1 hb1 b0 hgP hW1 HPAD
  refine wp_region_held_drew (S := fun w' : World => w'.rangeAt gP 0 (P.map bv) ∧ Below w.heap.size w w') (by kernel_rfl) HS.out (fun _ => ?_)
  generalize W1.drew = W2 at HS ⊢
  refine wpAnyH_take (i := 0) (v := _) rfl (by kernel_rfl) (by kernel_rfl) (by kernel_rfl) (fun _ _ _ h => h) (yieldsIf_load_mid (by rfl) 67 (.tmp 3) rfl gP 0 rfl (P.map bv) _ (fun w' h => h.1) Tryd.underlying67 rfl n44) HS.out ?_
  try simp only [Act.put, List.getElem_toArray, List.getElem_cons_zero, List.getElem_cons_succ, List.setIfInBounds_toArray, List.set_cons_zero, List.set_cons_succ]
  refine wpAnyH_take (i := 2) (v := _) rfl (by kernel_rfl) (by kernel_rfl) (by kernel_rfl) (fun _ _ _ h => h) (yieldsIf_load_mid (by rfl) 67 (.tmp 3) rfl gP 0 rfl (P.map bv) _ (fun w' h => h.1) Tryd.underlying67 rfl n44) HS.out ?_
  try simp only [Act.put, List.getElem_toArray, List.getElem_cons_zero, List.getElem_cons_succ, List.setIfInBounds_toArray, List.set_cons_zero, List.set_cons_succ]
  refine wpAnyH_ready (rs := [1, 4, 5]) (by kernel_rfl) (by simp) ?_
  refine AllReadyH.cons rfl (fun K hK => ?_) (AllReadyH.cons rfl (fun K hK => ?_) (AllReadyH.cons rfl (fun K hK => ?_) (AllReadyH.nil)))
  · go_simp
    refine (mask_any W2 P 54 HPL.out).mono ?_
    rintro e Y1 ⟨rfl, hb1⟩
    have S_2 := kept (HKEEP.out _ _ HS.out hb1)
    clear HS
    refine hK.out _ _ S_2.out (fun _ => ?_)
    clear hK K
    try simp only [Act.put, List.getElem_toArray, List.getElem_cons_zero, List.getElem_cons_succ, List.setIfInBounds_toArray, List.set_cons_zero, List.set_cons_succ]
    refine wpAnyH_ready (rs := [3, 4, 5]) (by kernel_rfl) (by simp) ?_
    refine AllReadyH.cons rfl (fun K hK => ?_) (AllReadyH.cons rfl (fun K hK => ?_) (AllReadyH.cons rfl (fun K hK => ?_) (AllReadyH.nil)))
    · go_simp
      refine (mask_any Y1 P 92 HPL.out).mono ?_
      rintro e Y3 ⟨rfl, hb3⟩
      have S_4 := kept (HKEEP.out _ _ S_2.out hb3)
      clear S_2
      refine hK.out _ _ S_4.out (fun _ => ?_)
      clear hK K
      try simp only [Act.put, List.getElem_toArray, List.getElem_cons_zero, List.getElem_cons_succ, List.setIfInBounds_toArray, List.set_cons_zero, List.set_cons_succ]
      refine wpAnyH_ready (rs := [4, 5]) (by kernel_rfl) (by simp) ?_
      refine AllReadyH.cons rfl (fun K hK => ?_) (AllReadyH.cons rfl (fun K hK => ?_) (AllReadyH.nil))
      · go_simp
        have hba5 : Below Y3.heap.size Y3 (Y3.alloc (.cells (Array.replicate 64 (.int .u8 0)) 67)) := (Below.refl _ Y3).alloc (Nat.le_refl _) _
        have I_5 := kept (show Blk (Y3.alloc (.cells (Array.replicate 64 (.int .u8 0)) 67)) Y3.heap.size 67 (Array.replicate 64 (.int .u8 0)) ∧ gP < Y3.heap.size from ⟨Blk.new Y3 _ _, HLT.out _ S_4.out⟩)
        have S_6 := kept (HKEEP.out _ _ S_4.out hba5)
        clear S_4
        refine hK.out _ _ S_6.out (fun _ => ?_)
        clear hK K
        try simp only [Act.put, List.getElem_toArray, List.getElem_cons_zero, List.getElem_cons_succ, List.setIfInBounds_toArray, List.set_cons_zero, List.set_cons_succ]
        change wpAnyH _ _ _ _ _ _ _ _ (Y3.alloc (.cells (Array.replicate 64 (.int .u8 0)) 67))
        obtain ⟨X5, hX5⟩ : ∃ Y, Y3.alloc (.cells (Array.replicate 64 (.int .u8 0)) 67) = Y := ⟨_, rfl⟩
        obtain ⟨g5, hg5⟩ : ∃ g, Y3.heap.size = g := ⟨_, rfl⟩
        rw [hX5] at S_6
        rw [hX5] at I_5
        rw [hg5] at I_5
        rw [hX5, hg5]
        clear hX5 hg5 hba5
        refine wpAnyH_ready (rs := [5]) (by kernel_rfl) (by simp) ?_
        refine AllReadyH.cons rfl (fun K hK => ?_) (AllReadyH.nil)
        have hlt := I_5.out.1.lt
        go_simp
        have hba7 : Below X5.heap.size X5 (X5.alloc (.cells (Array.replicate 64 (.int .u8 0)) 67)) := (Below.refl _ X5).alloc (Nat.le_refl _) _
        have O_7 := kept (show Blk (X5.alloc (.cells (Array.replicate 64 (.int .u8 0)) 67)) X5.heap.size 67 (Array.replicate 64 (.int .u8 0)) ∧ gP < X5.heap.size from ⟨Blk.new X5 _ _, HLT.out _ S_6.out⟩)
        have S_8 := kept (HKEEP.out _ _ S_6.out hba7)
        clear S_6
        have I_9 := kept ((show _ ∧ _ from ⟨I_5.out.1.below hba7 I_5.out.1.lt, I_5.out.2⟩))
        clear I_5
        refine hK.out _ _ S_8.out (fun _ => ?_)
        clear hK K
        try simp only [Act.put, List.getElem_toArray, List.getElem_cons_zero, List.getElem_cons_succ, List.setIfInBounds_toArray, List.set_cons_zero, List.set_cons_succ]
        change wpAnyH _ _ _ _ _ _ _ _ (X5.alloc (.cells (Array.replicate 64 (.int .u8 0)) 67))
        obtain ⟨X7, hX7⟩ : ∃ Y, X5.alloc (.cells (Array.replicate 64 (.int .u8 0)) 67) = Y := ⟨_, rfl⟩
        obtain ⟨g7, hg7⟩ : ∃ g, X5.heap.size = g := ⟨_, rfl⟩
        rw [hX7] at S_8
        rw [hX7] at I_9
        rw [hX7] at O_7
        rw [hg7] at hlt
        rw [hg7] at O_7
        rw [hX7, hg7]
        clear hX7 hg7 hba7
        have HNE := kept (show g5 ≠ g7 by omega)
        clear hlt
        refine wpAnyH_ready (rs := [6]) (by kernel_rfl) (by simp) ?_
        refine AllReadyH.cons rfl (fun K hK => ?_) (AllReadyH.nil)
        refine step_store_mid rfl 67 (.tmp 4) (.tmp 9) rfl g5 0 ((xorB 54 P).map bv).toArray rfl rfl (blk_there I_9.out.1 (by simp [xorB_len, HPL.out])) (by rw [b64_size]; simp [xorB_len, HPL.out]) (padded_one _) ?_
        have hbs10 : Below w.heap.size X7 (X7.setCells g5 0 ((xorB 54 P).map bv).toArray.toList) := below_setCells _ _ _ _ (by have := I_9.out.2; omega)
        have S_10 := kept (show (fun w' : World => w'.rangeAt gP 0 (P.map bv) ∧ Below w.heap.size w w') (X7.setCells g5 0 ((xorB 54 P).map bv).toArray.toList) from ⟨World.rangeAt_setCells_apart S_8.out.1 _ _ _ (.inl (by have := I_9.out.2; omega)), S_8.out.2.trans hbs10⟩)
        have I_10 := kept (show Blk _ g5 67 ((xorB 54 P).map bv).toArray ∧ gP < g5 from ⟨blk_setAll I_9.out.1 (by simp [xorB_len, HPL.out]), I_9.out.2⟩)
        have O_10 := kept (show Blk (X7.setCells g5 0 ((xorB 54 P).map bv).toArray.toList) g7 67 _ ∧ gP < g7 from ⟨O_7.out.1.keep (World.heap_setCells_other _ _ _ _ O_7.out.1.lt (HNE.out.symm)), O_7.out.2⟩)
        refine hK.out _ _ S_10.out (fun _ => ?_)
        clear hK K
        try simp only [Act.put, List.getElem_toArray, List.getElem_cons_zero, List.getElem_cons_succ, List.setIfInBounds_toArray, List.set_cons_zero, List.set_cons_succ]
        obtain ⟨X10, hX10⟩ : ∃ Y, X7.setCells g5 0 ((xorB 54 P).map bv).toArray.toList = Y := ⟨_, rfl⟩
        rw [hX10] at S_10
        rw [hX10] at I_10
        rw [hX10] at O_10
        rw [hX10]
        clear hX10 hbs10
        refine wpAnyH_ready (rs := [7]) (by kernel_rfl) (by simp) ?_
        refine AllReadyH.cons rfl (fun K hK => ?_) (AllReadyH.nil)
        refine step_store_mid rfl 67 (.tmp 5) (.tmp 11) rfl g7 0 ((xorB 92 P).map bv).toArray rfl rfl (blk_there O_10.out.1 (by simp [xorB_len, HPL.out])) (by rw [b64_size]; simp [xorB_len, HPL.out]) (padded_one _) ?_
        have hbs11 : Below w.heap.size X10 (X10.setCells g7 0 ((xorB 92 P).map bv).toArray.toList) := below_setCells _ _ _ _ (by have := O_10.out.2; omega)
        have S_11 := kept (show (fun w' : World => w'.rangeAt gP 0 (P.map bv) ∧ Below w.heap.size w w') (X10.setCells g7 0 ((xorB 92 P).map bv).toArray.toList) from ⟨World.rangeAt_setCells_apart S_10.out.1 _ _ _ (.inl (by have := O_10.out.2; omega)), S_10.out.2.trans hbs11⟩)
        have O_11 := kept (show Blk _ g7 67 ((xorB 92 P).map bv).toArray ∧ gP < g7 from ⟨blk_setAll O_10.out.1 (by simp [xorB_len, HPL.out]), O_10.out.2⟩)
        have I_11 := kept (show Blk (X10.setCells g7 0 ((xorB 92 P).map bv).toArray.toList) g5 67 _ ∧ gP < g5 from ⟨I_10.out.1.keep (World.heap_setCells_other _ _ _ _ I_10.out.1.lt (HNE.out)), I_10.out.2⟩)
        refine hK.out _ _ S_11.out (fun _ => ?_)
        clear hK K
        try simp only [Act.put, List.getElem_toArray, List.getElem_cons_zero, List.getElem_cons_succ, List.setIfInBounds_toArray, List.set_cons_zero, List.set_cons_succ]
        obtain ⟨X11, hX11⟩ : ∃ Y, X10.setCells g7 0 ((xorB 92 P).map bv).toArray.toList = Y := ⟨_, rfl⟩
        rw [hX11] at S_11
        rw [hX11] at O_11
        rw [hX11] at I_11
        rw [hX11]
        clear hX11 hbs11
        refine wpAnyH_done (by kernel_rfl) ?_ _
        go_wp2
        go_ret
        exact ⟨⟨g5, g7, rfl, (by have := I_11.out.2; omega), (by have := O_11.out.2; omega), I_11.out.1, O_11.out.1⟩, S_11.out.2⟩
      · go_simp
        have hba12 : Below Y3.heap.size Y3 (Y3.alloc (.cells (Array.replicate 64 (.int .u8 0)) 67)) := (Below.refl _ Y3).alloc (Nat.le_refl _) _
        have O_12 := kept (show Blk (Y3.alloc (.cells (Array.replicate 64 (.int .u8 0)) 67)) Y3.heap.size 67 (Array.replicate 64 (.int .u8 0)) ∧ gP < Y3.heap.size from ⟨Blk.new Y3 _ _, HLT.out _ S_4.out⟩)
        have S_13 := kept (HKEEP.out _ _ S_4.out hba12)
        clear S_4
        refine hK.out _ _ S_13.out (fun _ => ?_)
        clear hK K
        try simp only [Act.put, List.getElem_toArray, List.getElem_cons_zero, List.getElem_cons_succ, List.setIfInBounds_toArray, List.set_cons_zero, List.set_cons_succ]
        change wpAnyH _ _ _ _ _ _ _ _ (Y3.alloc (.cells (Array.replicate 64 (.int .u8 0)) 67))
        obtain ⟨X12, hX12⟩ : ∃ Y, Y3.alloc (.cells (Array.replicate 64 (.int .u8 0)) 67) = Y := ⟨_, rfl⟩
        obtain ⟨g12, hg12⟩ : ∃ g, Y3.heap.size = g := ⟨_, rfl⟩
        rw [hX12] at S_13
        rw [hX12] at O_12
        rw [hg12] at O_12
        rw [hX12, hg12]
        clear hX12 hg12 hba12
        refine wpAnyH_ready (rs := [4]) (by kernel_rfl) (by simp) ?_
        refine AllReadyH.cons rfl (fun K hK => ?_) (AllReadyH.nil)
        have hlt := O_12.out.1.lt
        go_simp
        have hba14 : Below X12.heap.size X12 (X12.alloc (.cells (Array.replicate 64 (.int .u8 0)) 67)) := (Below.refl _ X12).alloc (Nat.le_refl _) _
        have I_14 := kept (show Blk (X12.alloc (.cells (Array.replicate 64 (.int .u8 0)) 67)) X12.heap.size 67 (Array.replicate 64 (.int .u8 0)) ∧ gP < X12.heap.size from ⟨Blk.new X12 _ _, HLT.out _ S_13.out⟩)
        have S_15 := kept (HKEEP.out _ _ S_13.out hba14)
        clear S_13
        have O_16 := kept ((show _ ∧ _ from ⟨O_12.out.1.below hba14 O_12.out.1.lt, O_12.out.2⟩))
        clear O_12
        refine hK.out _ _ S_15.out (fun _ => ?_)
        clear hK K
        try simp only [Act.put, List.getElem_toArray, List.getElem_cons_zero, List.getElem_cons_succ, List.setIfInBounds_toArray, List.set_cons_zero, List.set_cons_succ]
        change wpAnyH _ _ _ _ _ _ _ _ (X12.alloc (.cells (Array.replicate 64 (.int .u8 0)) 67))
        obtain ⟨X14, hX14⟩ : ∃ Y, X12.alloc (.cells (Array.replicate 64 (.int .u8 0)) 67) = Y := ⟨_, rfl⟩
        obtain ⟨g14, hg14⟩ : ∃ g, X12.heap.size = g := ⟨_, rfl⟩
        rw [hX14] at S_15
        rw [hX14] at O_16
        rw [hX14] at I_14
        rw [hg14] at hlt
        rw [hg14] at I_14
        rw [hX14, hg14]
        clear hX14 hg14 hba14
        have HNE := kept (show g14 ≠ g12 by omega)
        clear hlt
        refine wpAnyH_ready (rs := [6]) (by kernel_rfl) (by simp) ?_
        refine AllReadyH.cons rfl (fun K hK => ?_) (AllReadyH.nil)
        refine step_store_mid rfl 67 (.tmp 4) (.tmp 9) rfl g14 0 ((xorB 54 P).map bv).toArray rfl rfl (blk_there I_14.out.1 (by simp [xorB_len, HPL.out])) (by rw [b64_size]; simp [xorB_len, HPL.out]) (padded_one _) ?_
        have hbs17 : Below w.heap.size X14 (X14.setCells g14 0 ((xorB 54 P).map bv).toArray.toList) := below_setCells _ _ _ _ (by have := I_14.out.2; omega)
        have S_17 := kept (show (fun w' : World => w'.rangeAt gP 0 (P.map bv) ∧ Below w.heap.size w w') (X14.setCells g14 0 ((xorB 54 P).map bv).toArray.toList) from ⟨World.rangeAt_setCells_apart S_15.out.1 _ _ _ (.inl (by have := I_14.out.2; omega)), S_15.out.2.trans hbs17⟩)
        have I_17 := kept (show Blk _ g14 67 ((xorB 54 P).map bv).toArray ∧ gP < g14 from ⟨blk_setAll I_14.out.1 (by simp [xorB_len, HPL.out]), I_14.out.2⟩)
        have O_17 := kept (show Blk (X14.setCells g14 0 ((xorB 54 P).map bv).toArray.toList) g12 67 _ ∧ gP < g12 from ⟨O_16.out.1.keep (World.heap_setCells_other _ _ _ _ O_16.out.1.lt (HNE.out.symm)), O_16.out.2⟩)
        refine hK.out _ _ S_17.out (fun _ => ?_)
        clear hK K
        try simp only [Act.put, List.getElem_toArray, List.getElem_cons_zero, List.getElem_cons_succ, List.setIfInBounds_toArray, List.set_cons_zero, List.set_cons_succ]
        obtain ⟨X17, hX17⟩ : ∃ Y, X14.setCells g14 0 ((xorB 54 P).map bv).toArray.toList = Y := ⟨_, rfl⟩
        rw [hX17] at S_17
        rw [hX17] at I_17
        rw [hX17] at O_17
        rw [hX17]
        clear hX17 hbs17
        refine wpAnyH_ready (rs := [7]) (by kernel_rfl) (by simp) ?_
        refine AllReadyH.cons rfl (fun K hK => ?_) (AllReadyH.nil)
        refine step_store_mid rfl 67 (.tmp 5) (.tmp 11) rfl g12 0 ((xorB 92 P).map bv).toArray rfl rfl (blk_there O_17.out.1 (by simp [xorB_len, HPL.out])) (by rw [b64_size]; simp [xorB_len, HPL.out]) (padded_one _) ?_
        have hbs18 : Below w.heap.size X17 (X17.setCells g12 0 ((xorB 92 P).map bv).toArray.toList) := below_setCells _ _ _ _ (by have := O_17.out.2; omega)
        have S_18 := kept (show (fun w' : World => w'.rangeAt gP 0 (P.map bv) ∧ Below w.heap.size w w') (X17.setCells g12 0 ((xorB 92 P).map bv).toArray.toList) from ⟨World.rangeAt_setCells_apart S_17.out.1 _ _ _ (.inl (by have := O_17.out.2; omega)), S_17.out.2.trans hbs18⟩)
        have O_18 := kept (show Blk _ g12 67 ((xorB 92 P).map bv).toArray ∧ gP < g12 from ⟨blk_setAll O_17.out.1 (by simp [xorB_len, HPL.out]), O_17.out.2⟩)
        have I_18 := kept (show Blk (X17.setCells g12 0 ((xorB 92 P).map bv).toArray.toList) g14 67 _ ∧ gP < g14 from ⟨I_17.out.1.keep (World.heap_setCells_other _ _ _ _ I_17.out.1.lt (HNE.out)), I_17.out.2⟩)
        refine hK.out _ _ S_18.out (fun _ => ?_)
        clear hK K
        try simp only [Act.put, List.getElem_toArray, List.getElem_cons_zero, List.getElem_cons_succ, List.setIfInBounds_toArray, List.set_cons_zero, List.set_cons_succ]
        obtain ⟨X18, hX18⟩ : ∃ Y, X17.setCells g12 0 ((xorB 92 P).map bv).toArray.toList = Y := ⟨_, rfl⟩
        rw [hX18] at S_18
        rw [hX18] at O_18
        rw [hX18] at I_18
        rw [hX18]
        clear hX18 hbs18
        refine wpAnyH_done (by kernel_rfl) ?_ _
        go_wp2
        go_ret
        exact ⟨⟨g14, g12, rfl, (by have := I_18.out.2; omega), (by have := O_18.out.2; omega), I_18.out.1, O_18.out.1⟩, S_18.out.2⟩
    · go_simp
      have hba19 : Below Y1.heap.size Y1 (Y1.alloc (.cells (Array.replicate 64 (.int .u8 0)) 67)) := (Below.refl _ Y1).alloc (Nat.le_refl _) _
      have I_19 := kept (show Blk (Y1.alloc (.cells (Array.replicate 64 (.int .u8 0)) 67)) Y1.heap.size 67 (Array.replicate 64 (.int .u8 0)) ∧ gP < Y1.heap.size from ⟨Blk.new Y1 _ _, HLT.out _ S_2.out⟩)
      have S_20 := kept (HKEEP.out _ _ S_2.out hba19)
      clear S_2
      refine hK.out _ _ S_20.out (fun _ => ?_)
      clear hK K
      try simp only [Act.put, List.getElem_toArray, List.getElem_cons_zero, List.getElem_cons_succ, List.setIfInBounds_toArray, List.set_cons_zero, List.set_cons_succ]
      change wpAnyH _ _ _ _ _ _ _ _ (Y1.alloc (.cells (Array.replicate 64 (.int .u8 0)) 67))
      obtain ⟨X19, hX19⟩ : ∃ Y, Y1.alloc (.cells (Array.replicate 64 (.int .u8 0)) 67) = Y := ⟨_, rfl⟩
      obtain ⟨g19, hg19⟩ : ∃ g, Y1.heap.size = g := ⟨_, rfl⟩
      rw [hX19] at S_20
      rw [hX19] at I_19
      rw [hg19] at I_19
      rw [hX19, hg19]
      clear hX19 hg19 hba19
      refine wpAnyH_ready (rs := [3, 5]) (by kernel_rfl) (by simp) ?_
      refine AllReadyH.cons rfl (fun K hK => ?_) (AllReadyH.cons rfl (fun K hK => ?_) (AllReadyH.nil))
      · go_simp
        refine (mask_any X19 P 92 HPL.out).mono ?_
        rintro e Y21 ⟨rfl, hb21⟩
        have S_22 := kept (HKEEP.out _ _ S_20.out hb21)
        clear S_20
        have I_23 := kept ((show _ ∧ _ from ⟨I_19.out.1.below hb21 I_19.out.1.lt, I_19.out.2⟩))
        clear I_19
        refine hK.out _ _ S_22.out (fun _ => ?_)
        clear hK K
        try simp only [Act.put, List.getElem_toArray, List.getElem_cons_zero, List.getElem_cons_succ, List.setIfInBounds_toArray, List.set_cons_zero, List.set_cons_succ]
        refine wpAnyH_ready (rs := [5]) (by kernel_rfl) (by simp) ?_
        refine AllReadyH.cons rfl (fun K hK => ?_) (AllReadyH.nil)
        have hlt := I_23.out.1.lt
        go_simp
        have hba24 : Below Y21.heap.size Y21 (Y21.alloc (.cells (Array.replicate 64 (.int .u8 0)) 67)) := (Below.refl _ Y21).alloc (Nat.le_refl _) _
        have O_24 := kept (show Blk (Y21.alloc (.cells (Array.replicate 64 (.int .u8 0)) 67)) Y21.heap.size 67 (Array.replicate 64 (.int .u8 0)) ∧ gP < Y21.heap.size from ⟨Blk.new Y21 _ _, HLT.out _ S_22.out⟩)
        have S_25 := kept (HKEEP.out _ _ S_22.out hba24)
        clear S_22
        have I_26 := kept ((show _ ∧ _ from ⟨I_23.out.1.below hba24 I_23.out.1.lt, I_23.out.2⟩))
        clear I_23
        refine hK.out _ _ S_25.out (fun _ => ?_)
        clear hK K
        try simp only [Act.put, List.getElem_toArray, List.getElem_cons_zero, List.getElem_cons_succ, List.setIfInBounds_toArray, List.set_cons_zero, List.set_cons_succ]
        change wpAnyH _ _ _ _ _ _ _ _ (Y21.alloc (.cells (Array.replicate 64 (.int .u8 0)) 67))
        obtain ⟨X24, hX24⟩ : ∃ Y, Y21.alloc (.cells (Array.replicate 64 (.int .u8 0)) 67) = Y := ⟨_, rfl⟩
        obtain ⟨g24, hg24⟩ : ∃ g, Y21.heap.size = g := ⟨_, rfl⟩
        rw [hX24] at S_25
        rw [hX24] at I_26
        rw [hX24] at O_24
        rw [hg24] at hlt
        rw [hg24] at O_24
        rw [hX24, hg24]
        clear hX24 hg24 hba24
        have HNE := kept (show g19 ≠ g24 by omega)
        clear hlt
        refine wpAnyH_ready (rs := [6]) (by kernel_rfl) (by simp) ?_
        refine AllReadyH.cons rfl (fun K hK => ?_) (AllReadyH.nil)
        refine step_store_mid rfl 67 (.tmp 4) (.tmp 9) rfl g19 0 ((xorB 54 P).map bv).toArray rfl rfl (blk_there I_26.out.1 (by simp [xorB_len, HPL.out])) (by rw [b64_size]; simp [xorB_len, HPL.out]) (padded_one _) ?_
        have hbs27 : Below w.heap.size X24 (X24.setCells g19 0 ((xorB 54 P).map bv).toArray.toList) := below_setCells _ _ _ _ (by have := I_26.out.2; omega)
        have S_27 := kept (show (fun w' : World => w'.rangeAt gP 0 (P.map bv) ∧ Below w.heap.size w w') (X24.setCells g19 0 ((xorB 54 P).map bv).toArray.toList) from ⟨World.rangeAt_setCells_apart S_25.out.1 _ _ _ (.inl (by have := I_26.out.2; omega)), S_25.out.2.trans hbs27⟩)
        have I_27 := kept (show Blk _ g19 67 ((xorB 54 P).map bv).toArray ∧ gP < g19 from ⟨blk_setAll I_26.out.1 (by simp [xorB_len, HPL.out]), I_26.out.2⟩)
        have O_27 := kept (show Blk (X24.setCells g19 0 ((xorB 54 P).map bv).toArray.toList) g24 67 _ ∧ gP < g24 from ⟨O_24.out.1.keep (World.heap_setCells_other _ _ _ _ O_24.out.1.lt (HNE.out.symm)), O_24.out.2⟩)
        refine hK.out _ _ S_27.out (fun _ => ?_)
        clear hK K
        try simp only [Act.put, List.getElem_toArray, List.getElem_cons_zero, List.getElem_cons_succ, List.setIfInBounds_toArray, List.set_cons_zero, List.set_cons_succ]
        obtain ⟨X27, hX27⟩ : ∃ Y, X24.setCells g19 0 ((xorB 54 P).map bv).toArray.toList = Y := ⟨_, rfl⟩
        rw [hX27] at S_27
        rw [hX27] at I_27
        rw [hX27] at O_27
        rw [hX27]
        clear hX27 hbs27
        refine wpAnyH_ready (rs := [7]) (by kernel_rfl) (by simp) ?_
        refine AllReadyH.cons rfl (fun K hK => ?_) (AllReadyH.nil)
        refine step_store_mid rfl 67 (.tmp 5) (.tmp 11) rfl g24 0 ((xorB 92 P).map bv).toArray rfl rfl (blk_there O_27.out.1 (by simp [xorB_len, HPL.out])) (by rw [b64_size]; simp [xorB_len, HPL.out]) (padded_one _) ?_
        have hbs28 : Below w.heap.size X27 (X27.setCells g24 0 ((xorB 92 P).map bv).toArray.toList) := below_setCells _ _ _ _ (by have := O_27.out.2; omega)
        have S_28 := kept (show (fun w' : World => w'.rangeAt gP 0 (P.map bv) ∧ Below w.heap.size w w') (X27.setCells g24 0 ((xorB 92 P).map bv).toArray.toList) from ⟨World.rangeAt_setCells_apart S_27.out.1 _ _ _ (.inl (by have := O_27.out.2; omega)), S_27.out.2.trans hbs28⟩)
        have O_28 := kept (show Blk _ g24 67 ((xorB 92 P).map bv).toArray ∧ gP < g24 from ⟨blk_setAll O_27.out.1 (by simp [xorB_len, HPL.out]), O_27.out.2⟩)
        have I_28 := kept (show Blk (X27.setCells g24 0 ((xorB 92 P).map bv).toArray.toList) g19 67 _ ∧ gP < g19 from ⟨I_27.out.1.keep (World.heap_setCells_other _ _ _ _ I_27.out.1.lt (HNE.out)), I_27.out.2⟩)
        refine hK.out _ _ S_28.out (fun _ => ?_)
        clear hK K
        try simp only [Act.put, List.getElem_toArray, List.getElem_cons_zero, List.getElem_cons_succ, List.setIfInBounds_toArray, List.set_cons_zero, List.set_cons_succ]
        obtain ⟨X28, hX28⟩ : ∃ Y, X27.setCells g24 0 ((xorB 92 P).map bv).toArray.toList = Y := ⟨_, rfl⟩
        rw [hX28] at S_28
        rw [hX28] at O_28
        rw [hX28] at I_28
        rw [hX28]
        clear hX28 hbs28
        refine wpAnyH_done (by kernel_rfl) ?_ _
        go_wp2
        go_ret
        exact ⟨⟨g19, g24, rfl, (by have := I_28.out.2; omega), (by have := O_28.out.2; omega), I_28.out.1, O_28.out.1⟩, S_28.out.2⟩
      · have hlt := I_19.out.1.lt
        go_simp
        have hba29 : Below X19.heap.size X19 (X19.alloc (.cells (Array.replicate 64 (.int .u8 0)) 67)) := (Below.refl _ X19).alloc (Nat.le_refl _) _
        have O_29 := kept (show Blk (X19.alloc (.cells (Array.replicate 64 (.int .u8 0)) 67)) X19.heap.size 67 (Array.replicate 64 (.int .u8 0)) ∧ gP < X19.heap.size from ⟨Blk.new X19 _ _, HLT.out _ S_20.out⟩)
        have S_30 := kept (HKEEP.out _ _ S_20.out hba29)
        clear S_20
        have I_31 := kept ((show _ ∧ _ from ⟨I_19.out.1.below hba29 I_19.out.1.lt, I_19.out.2⟩))
        clear I_19
        refine hK.out _ _ S_30.out (fun _ => ?_)
        clear hK K
        try simp only [Act.put, List.getElem_toArray, List.getElem_cons_zero, List.getElem_cons_succ, List.setIfInBounds_toArray, List.set_cons_zero, List.set_cons_succ]
        change wpAnyH _ _ _ _ _ _ _ _ (X19.alloc (.cells (Array.replicate 64 (.int .u8 0)) 67))
        obtain ⟨X29, hX29⟩ : ∃ Y, X19.alloc (.cells (Array.replicate 64 (.int .u8 0)) 67) = Y := ⟨_, rfl⟩
        obtain ⟨g29, hg29⟩ : ∃ g, X19.heap.size = g := ⟨_, rfl⟩
        rw [hX29] at S_30
        rw [hX29] at I_31
        rw [hX29] at O_29
        rw [hg29] at hlt
        rw [hg29] at O_29
        rw [hX29, hg29]
        clear hX29 hg29 hba29
        have HNE := kept (show g19 ≠ g29 by omega)
        clear hlt
        refine wpAnyH_ready (rs := [3]) (by kernel_rfl) (by simp) ?_
        refine AllReadyH.cons rfl (fun K hK => ?_) (AllReadyH.nil)
        go_simp
        refine (mask_any X29 P 92 HPL.out).mono ?_
        rintro e Y32 ⟨rfl, hb32⟩
        have S_33 := kept (HKEEP.out _ _ S_30.out hb32)
        clear S_30
        have I_34 := kept ((show _ ∧ _ from ⟨I_31.out.1.below hb32 I_31.out.1.lt, I_31.out.2⟩))
        clear I_31
        have O_35 := kept ((show _ ∧ _ from ⟨O_29.out.1.below hb32 O_29.out.1.lt, O_29.out.2⟩))
        clear O_29
        refine hK.out _ _ S_33.out (fun _ => ?_)
        clear hK K
        try simp only [Act.put, List.getElem_toArray, List.getElem_cons_zero, List.getElem_cons_succ, List.setIfInBounds_toArray, List.set_cons_zero, List.set_cons_succ]
        refine wpAnyH_ready (rs := [6]) (by kernel_rfl) (by simp) ?_
        refine AllReadyH.cons rfl (fun K hK => ?_) (AllReadyH.nil)
        refine step_store_mid rfl 67 (.tmp 4) (.tmp 9) rfl g19 0 ((xorB 54 P).map bv).toArray rfl rfl (blk_there I_34.out.1 (by simp [xorB_len, HPL.out])) (by rw [b64_size]; simp [xorB_len, HPL.out]) (padded_one _) ?_
        have hbs36 : Below w.heap.size Y32 (Y32.setCells g19 0 ((xorB 54 P).map bv).toArray.toList) := below_setCells _ _ _ _ (by have := I_34.out.2; omega)
        have S_36 := kept (show (fun w' : World => w'.rangeAt gP 0 (P.map bv) ∧ Below w.heap.size w w') (Y32.setCells g19 0 ((xorB 54 P).map bv).toArray.toList) from ⟨World.rangeAt_setCells_apart S_33.out.1 _ _ _ (.inl (by have := I_34.out.2; omega)), S_33.out.2.trans hbs36⟩)
        have I_36 := kept (show Blk _ g19 67 ((xorB 54 P).map bv).toArray ∧ gP < g19 from ⟨blk_setAll I_34.out.1 (by simp [xorB_len, HPL.out]), I_34.out.2⟩)
        have O_36 := kept (show Blk (Y32.setCells g19 0 ((xorB 54 P).map bv).toArray.toList) g29 67 _ ∧ gP < g29 from ⟨O_35.out.1.keep (World.heap_setCells_other _ _ _ _ O_35.out.1.lt (HNE.out.symm)), O_35.out.2⟩)
        refine hK.out _ _ S_36.out (fun _ => ?_)
        clear hK K
        try simp only [Act.put, List.getElem_toArray, List.getElem_cons_zero, List.getElem_cons_succ, List.setIfInBounds_toArray, List.set_cons_zero, List.set_cons_succ]
        obtain ⟨X36, hX36⟩ : ∃ Y, Y32.setCells g19 0 ((xorB 54 P).map bv).toArray.toList = Y := ⟨_, rfl⟩
        rw [hX36] at S_36
        rw [hX36] at I_36
        rw [hX36] at O_36
        rw [hX36]
        clear hX36 hbs36
        refine wpAnyH_ready (rs := [7]) (by kernel_rfl) (by simp) ?_
        refine AllReadyH.cons rfl (fun K hK => ?_) (AllReadyH.nil)
        refine step_store_mid rfl 67 (.tmp 5) (.tmp 11) rfl g29 0 ((xorB 92 P).map bv).toArray rfl rfl (blk_there O_36.out.1 (by simp [xorB_len, HPL.out])) (by rw [b64_size]; simp [xorB_len, HPL.out]) (padded_one _) ?_
        have hbs37 : Below w.heap.size X36 (X36.setCells g29 0 ((xorB 92 P).map bv).toArray.toList) := below_setCells _ _ _ _ (by have := O_36.out.2; omega)
        have S_37 := kept (show (fun w' : World => w'.rangeAt gP 0 (P.map bv) ∧ Below w.heap.size w w') (X36.setCells g29 0 ((xorB 92 P).map bv).toArray.toList) from ⟨World.rangeAt_setCells_apart S_36.out.1 _ _ _ (.inl (by have := O_36.out.2; omega)), S_36.out.2.trans hbs37⟩)
        have O_37 := kept (show Blk _ g29 67 ((xorB 92 P).map bv).toArray ∧ gP < g29 from ⟨blk_setAll O_36.out.1 (by simp [xorB_len, HPL.out]), O_36.out.2⟩)
        have I_37 := kept (show Blk (X36.setCells g29 0 ((xorB 92 P).map bv).toArray.toList) g19 67 _ ∧ gP < g19 from ⟨I_36.out.1.keep (World.heap_setCells_other _ _ _ _ I_36.out.1.lt (HNE.out)), I_36.out.2⟩)
        refine hK.out _ _ S_37.out (fun _ => ?_)
        clear hK K
        try simp only [Act.put, List.getElem_toArray, List.getElem_cons_zero, List.getElem_cons_succ, List.setIfInBounds_toArray, List.set_cons_zero, List.set_cons_succ]
        obtain ⟨X37, hX37⟩ : ∃ Y, X36.setCells g29 0 ((xorB 92 P).map bv).toArray.toList = Y := ⟨_, rfl⟩
        rw [hX37] at S_37
        rw [hX37] at O_37
        rw [hX37] at I_37
        rw [hX37]
        clear hX37 hbs37
        refine wpAnyH_done (by kernel_rfl) ?_ _
        go_wp2
        go_ret
        exact ⟨⟨g19, g29, rfl, (by have := I_37.out.2; omega), (by have := O_37.out.2; omega), I_37.out.1, O_37.out.1⟩, S_37.out.2⟩
    · go_simp
      have hba38 : Below Y1.heap.size Y1 (Y1.alloc (.cells (Array.replicate 64 (.int .u8 0)) 67)) := (Below.refl _ Y1).alloc (Nat.le_refl _) _
      have O_38 := kept (show Blk (Y1.alloc (.cells (Array.replicate 64 (.int .u8 0)) 67)) Y1.heap.size 67 (Array.replicate 64 (.int .u8 0)) ∧ gP < Y1.heap.size from ⟨Blk.new Y1 _ _, HLT.out _ S_2.out⟩)
      have S_39 := kept (HKEEP.out _ _ S_2.out hba38)
      clear S_2
      refine hK.out _ _ S_39.out (fun _ => ?_)
      clear hK K
      try simp only [Act.put, List.getElem_toArray, List.getElem_cons_zero, List.getElem_cons_succ, List.setIfInBounds_toArray, List.set_cons_zero, List.set_cons_succ]
      change wpAnyH _ _ _ _ _ _ _ _ (Y1.alloc (.cells (Array.replicate 64 (.int .u8 0)) 67))
      obtain ⟨X38, hX38⟩ : ∃ Y, Y1.alloc (.cells (Array.replicate 64 (.int .u8 0)) 67) = Y := ⟨_, rfl⟩
      obtain ⟨g38, hg38⟩ : ∃ g, Y1.heap.size = g := ⟨_, rfl⟩
      rw [hX38] at S_39
      rw [hX38] at O_38
      rw [hg38] at O_38
      rw [hX38, hg38]
      clear hX38 hg38 hba38
      refine wpAnyH_ready (rs := [3, 4]) (by kernel_rfl) (by simp) ?_
      refine AllReadyH.cons rfl (fun K hK => ?_) (AllReadyH.cons rfl (fun K hK => ?_) (AllReadyH.nil))
      · go_simp
        refine (mask_any X38 P 92 HPL.out).mono ?_
        rintro e Y40 ⟨rfl, hb40⟩
        have S_41 := kept (HKEEP.out _ _ S_39.out hb40)
        clear S_39
        have O_42 := kept ((show _ ∧ _ from ⟨O_38.out.1.below hb40 O_38.out.1.lt, O_38.out.2⟩))
        clear O_38
        refine hK.out _ _ S_41.out (fun _ => ?_)
        clear hK K
        try simp only [Act.put, List.getElem_toArray, List.getElem_cons_zero, List.getElem_cons_succ, List.setIfInBounds_toArray, List.set_cons_zero, List.set_cons_succ]
        refine wpAnyH_ready (rs := [4]) (by kernel_rfl) (by simp) ?_
        refine AllReadyH.cons rfl (fun K hK => ?_) (AllReadyH.nil)
        have hlt := O_42.out.1.lt
        go_simp
        have hba43 : Below Y40.heap.size Y40 (Y40.alloc (.cells (Array.replicate 64 (.int .u8 0)) 67)) := (Below.refl _ Y40).alloc (Nat.le_refl _) _
        have I_43 := kept (show Blk (Y40.alloc (.cells (Array.replicate 64 (.int .u8 0)) 67)) Y40.heap.size 67 (Array.replicate 64 (.int .u8 0)) ∧ gP < Y40.heap.size from ⟨Blk.new Y40 _ _, HLT.out _ S_41.out⟩)
        have S_44 := kept (HKEEP.out _ _ S_41.out hba43)
        clear S_41
        have O_45 := kept ((show _ ∧ _ from ⟨O_42.out.1.below hba43 O_42.out.1.lt, O_42.out.2⟩))
        clear O_42
        refine hK.out _ _ S_44.out (fun _ => ?_)
        clear hK K
        try simp only [Act.put, List.getElem_toArray, List.getElem_cons_zero, List.getElem_cons_succ, List.setIfInBounds_toArray, List.set_cons_zero, List.set_cons_succ]
        change wpAnyH _ _ _ _ _ _ _ _ (Y40.alloc (.cells (Array.replicate 64 (.int .u8 0)) 67))
        obtain ⟨X43, hX43⟩ : ∃ Y, Y40.alloc (.cells (Array.replicate 64 (.int .u8 0)) 67) = Y := ⟨_, rfl⟩
        obtain ⟨g43, hg43⟩ : ∃ g, Y40.heap.size = g := ⟨_, rfl⟩
        rw [hX43] at S_44
        rw [hX43] at O_45
        rw [hX43] at I_43
        rw [hg43] at hlt
        rw [hg43] at I_43
        rw [hX43, hg43]
        clear hX43 hg43 hba43
        have HNE := kept (show g43 ≠ g38 by omega)
        clear hlt
        refine wpAnyH_ready (rs := [6]) (by kernel_rfl) (by simp) ?_
        refine AllReadyH.cons rfl (fun K hK => ?_) (AllReadyH.nil)
        refine step_store_mid rfl 67 (.tmp 4) (.tmp 9) rfl g43 0 ((xorB 54 P).map bv).toArray rfl rfl (blk_there I_43.out.1 (by simp [xorB_len, HPL.out])) (by rw [b64_size]; simp [xorB_len, HPL.out]) (padded_one _) ?_
        have hbs46 : Below w.heap.size X43 (X43.setCells g43 0 ((xorB 54 P).map bv).toArray.toList) := below_setCells _ _ _ _ (by have := I_43.out.2; omega)
        have S_46 := kept (show (fun w' : World => w'.rangeAt gP 0 (P.map bv) ∧ Below w.heap.size w w') (X43.setCells g43 0 ((xorB 54 P).map bv).toArray.toList) from ⟨World.rangeAt_setCells_apart S_44.out.1 _ _ _ (.inl (by have := I_43.out.2; omega)), S_44.out.2.trans hbs46⟩)
        have I_46 := kept (show Blk _ g43 67 ((xorB 54 P).map bv).toArray ∧ gP < g43 from ⟨blk_setAll I_43.out.1 (by simp [xorB_len, HPL.out]), I_43.out.2⟩)
        have O_46 := kept (show Blk (X43.setCells g43 0 ((xorB 54 P).map bv).toArray.toList) g38 67 _ ∧ gP < g38 from ⟨O_45.out.1.keep (World.heap_setCells_other _ _ _ _ O_45.out.1.lt (HNE.out.symm)), O_45.out.2⟩)
        refine hK.out _ _ S_46.out (fun _ => ?_)
        clear hK K
        try simp only [Act.put, List.getElem_toArray, List.getElem_cons_zero, List.getElem_cons_succ, List.setIfInBounds_toArray, List.set_cons_zero, List.set_cons_succ]
        obtain ⟨X46, hX46⟩ : ∃ Y, X43.setCells g43 0 ((xorB 54 P).map bv).toArray.toList = Y := ⟨_, rfl⟩
        rw [hX46] at S_46
        rw [hX46] at I_46
        rw [hX46] at O_46
        rw [hX46]
        clear hX46 hbs46
        refine wpAnyH_ready (rs := [7]) (by kernel_rfl) (by simp) ?_
        refine AllReadyH.cons rfl (fun K hK => ?_) (AllReadyH.nil)
        refine step_store_mid rfl 67 (.tmp 5) (.tmp 11) rfl g38 0 ((xorB 92 P).map bv).toArray rfl rfl (blk_there O_46.out.1 (by simp [xorB_len, HPL.out])) (by rw [b64_size]; simp [xorB_len, HPL.out]) (padded_one _) ?_
        have hbs47 : Below w.heap.size X46 (X46.setCells g38 0 ((xorB 92 P).map bv).toArray.toList) := below_setCells _ _ _ _ (by have := O_46.out.2; omega)
        have S_47 := kept (show (fun w' : World => w'.rangeAt gP 0 (P.map bv) ∧ Below w.heap.size w w') (X46.setCells g38 0 ((xorB 92 P).map bv).toArray.toList) from ⟨World.rangeAt_setCells_apart S_46.out.1 _ _ _ (.inl (by have := O_46.out.2; omega)), S_46.out.2.trans hbs47⟩)
        have O_47 := kept (show Blk _ g38 67 ((xorB 92 P).map bv).toArray ∧ gP < g38 from ⟨blk_setAll O_46.out.1 (by simp [xorB_len, HPL.out]), O_46.out.2⟩)
        have I_47 := kept (show Blk (X46.setCells g38 0 ((xorB 92 P).map bv).toArray.toList) g43 67 _ ∧ gP < g43 from ⟨I_46.out.1.keep (World.heap_setCells_other _ _ _ _ I_46.out.1.lt (HNE.out)), I_46.out.2⟩)
        refine hK.out _ _ S_47.out (fun _ => ?_)
        clear hK K
        try simp only [Act.put, List.getElem_toArray, List.getElem_cons_zero, List.getElem_cons_succ, List.setIfInBounds_toArray, List.set_cons_zero, List.set_cons_succ]
        obtain ⟨X47, hX47⟩ : ∃ Y, X46.setCells g38 0 ((xorB 92 P).map bv).toArray.toList = Y := ⟨_, rfl⟩
        rw [hX47] at S_47
        rw [hX47] at O_47
        rw [hX47] at I_47
        rw [hX47]
        clear hX47 hbs47
        refine wpAnyH_done (by kernel_rfl) ?_ _
        go_wp2
        go_ret
        exact ⟨⟨g43, g38, rfl, (by have := I_47.out.2; omega), (by have := O_47.out.2; omega), I_47.out.1, O_47.out.1⟩, S_47.out.2⟩
      · have hlt := O_38.out.1.lt
        go_simp
        have hba48 : Below X38.heap.size X38 (X38.alloc (.cells (Array.replicate 64 (.int .u8 0)) 67)) := (Below.refl _ X38).alloc (Nat.le_refl _) _
        have I_48 := kept (show Blk (X38.alloc (.cells (Array.replicate 64 (.int .u8 0)) 67)) X38.heap.size 67 (Array.replicate 64 (.int .u8 0)) ∧ gP < X38.heap.size from ⟨Blk.new X38 _ _, HLT.out _ S_39.out⟩)
        have S_49 := kept (HKEEP.out _ _ S_39.out hba48)
        clear S_39
        have O_50 := kept ((show _ ∧ _ from ⟨O_38.out.1.below hba48 O_38.out.1.lt, O_38.out.2⟩))
        clear O_38
        refine hK.out _ _ S_49.out (fun _ => ?_)
        clear hK K
        try simp only [Act.put, List.getElem_toArray, List.getElem_cons_zero, List.getElem_cons_succ, List.setIfInBounds_toArray, List.set_cons_zero, List.set_cons_succ]
        change wpAnyH _ _ _ _ _ _ _ _ (X38.alloc (.cells (Array.replicate 64 (.int .u8 0)) 67))
        obtain ⟨X48, hX48⟩ : ∃ Y, X38.alloc (.cells (Array.replicate 64 (.int .u8 0)) 67) = Y := ⟨_, rfl⟩
        obtain ⟨g48, hg48⟩ : ∃ g, X38.heap.size = g := ⟨_, rfl⟩
        rw [hX48] at S_49
        rw [hX48] at O_50
        rw [hX48] at I_48
        rw [hg48] at hlt
        rw [hg48] at I_48
        rw [hX48, hg48]
        clear hX48 hg48 hba48
        have HNE := kept (show g48 ≠ g38 by omega)
        clear hlt
        refine wpAnyH_ready (rs := [3]) (by kernel_rfl) (by simp) ?_
        refine AllReadyH.cons rfl (fun K hK => ?_) (AllReadyH.nil)
        go_simp
        refine (mask_any X48 P 92 HPL.out).mono ?_
        rintro e Y51 ⟨rfl, hb51⟩
        have S_52 := kept (HKEEP.out _ _ S_49.out hb51)
        clear S_49
        have O_53 := kept ((show _ ∧ _ from ⟨O_50.out.1.below hb51 O_50.out.1.lt, O_50.out.2⟩))
        clear O_50
        have I_54 := kept ((show _ ∧ _ from ⟨I_48.out.1.below hb51 I_48.out.1.lt, I_48.out.2⟩))
        clear I_48
        refine hK.out _ _ S_52.out (fun _ => ?_)
        clear hK K
        try simp only [Act.put, List.getElem_toArray, List.getElem_cons_zero, List.getElem_cons_succ, List.setIfInBounds_toArray, List.set_cons_zero, List.set_cons_succ]
        refine wpAnyH_ready (rs := [6]) (by kernel_rfl) (by simp) ?_
        refine AllReadyH.cons rfl (fun K hK => ?_) (AllReadyH.nil)
        refine step_store_mid rfl 67 (.tmp 4) (.tmp 9) rfl g48 0 ((xorB 54 P).map bv).toArray rfl rfl (blk_there I_54.out.1 (by simp [xorB_len, HPL.out])) (by rw [b64_size]; simp [xorB_len, HPL.out]) (padded_one _) ?_
        have hbs55 : Below w.heap.size Y51 (Y51.setCells g48 0 ((xorB 54 P).map bv).toArray.toList) := below_setCells _ _ _ _ (by have := I_54.out.2; omega)
        have S_55 := kept (show (fun w' : World => w'.rangeAt gP 0 (P.map bv) ∧ Below w.heap.size w w') (Y51.setCells g48 0 ((xorB 54 P).map bv).toArray.toList) from ⟨World.rangeAt_setCells_apart S_52.out.1 _ _ _ (.inl (by have := I_54.out.2; omega)), S_52.out.2.trans hbs55⟩)
        have I_55 := kept (show Blk _ g48 67 ((xorB 54 P).map bv).toArray ∧ gP < g48 from ⟨blk_setAll I_54.out.1 (by simp [xorB_len, HPL.out]), I_54.out.2⟩)
        have O_55 := kept (show Blk (Y51.setCells g48 0 ((xorB 54 P).map bv).toArray.toList) g38 67 _ ∧ gP < g38 from ⟨O_53.out.1.keep (World.heap_setCells_other _ _ _ _ O_53.out.1.lt (HNE.out.symm)), O_53.out.2⟩)
        refine hK.out _ _ S_55.out (fun _ => ?_)
        clear hK K
        try simp only [Act.put, List.getElem_toArray, List.getElem_cons_zero, List.getElem_cons_succ, List.setIfInBounds_toArray, List.set_cons_zero, List.set_cons_succ]
        obtain ⟨X55, hX55⟩ : ∃ Y, Y51.setCells g48 0 ((xorB 54 P).map bv).toArray.toList = Y := ⟨_, rfl⟩
        rw [hX55] at S_55
        rw [hX55] at I_55
        rw [hX55] at O_55
        rw [hX55]
        clear hX55 hbs55
        refine wpAnyH_ready (rs := [7]) (by kernel_rfl) (by simp) ?_
        refine AllReadyH.cons rfl (fun K hK => ?_) (AllReadyH.nil)
        refine step_store_mid rfl 67 (.tmp 5) (.tmp 11) rfl g38 0 ((xorB 92 P).map bv).toArray rfl rfl (blk_there O_55.out.1 (by simp [xorB_len, HPL.out])) (by rw [b64_size]; simp [xorB_len, HPL.out]) (padded_one _) ?_
        have hbs56 : Below w.heap.size X55 (X55.setCells g38 0 ((xorB 92 P).map bv).toArray.toList) := below_setCells _ _ _ _ (by have := O_55.out.2; omega)
        have S_56 := kept (show (fun w' : World => w'.rangeAt gP 0 (P.map bv) ∧ Below w.heap.size w w') (X55.setCells g38 0 ((xorB 92 P).map bv).toArray.toList) from ⟨World.rangeAt_setCells_apart S_55.out.1 _ _ _ (.inl (by have := O_55.out.2; omega)), S_55.out.2.trans hbs56⟩)
        have O_56 := kept (show Blk _ g38 67 ((xorB 92 P).map bv).toArray ∧ gP < g38 from ⟨blk_setAll O_55.out.1 (by simp [xorB_len, HPL.out]), O_55.out.2⟩)
        have I_56 := kept (show Blk (X55.setCells g38 0 ((xorB 92 P).map bv).toArray.toList) g48 67 _ ∧ gP < g48 from ⟨I_55.out.1.keep (World.heap_setCells_other _ _ _ _ I_55.out.1.lt (HNE.out)), I_55.out.2⟩)
        refine hK.out _ _ S_56.out (fun _ => ?_)
        clear hK K
        try simp only [Act.put, List.getElem_toArray, List.getElem_cons_zero, List.getElem_cons_succ, List.setIfInBounds_toArray, List.set_cons_zero, List.set_cons_succ]
        obtain ⟨X56, hX56⟩ : ∃ Y, X55.setCells g38 0 ((xorB 92 P).map bv).toArray.toList = Y := ⟨_, rfl⟩
        rw [hX56] at S_56
        rw [hX56] at O_56
        rw [hX56] at I_56
        rw [hX56]
        clear hX56 hbs56
        refine wpAnyH_done (by kernel_rfl) ?_ _
        go_wp2
        go_ret
        exact ⟨⟨g48, g38, rfl, (by have := I_56.out.2; omega), (by have := O_56.out.2; omega), I_56.out.1, O_56.out.1⟩, S_56.out.2⟩
  · go_simp
    have hba57 : Below W2.heap.size W2 (W2.alloc (.cells (Array.replicate 64 (.int .u8 0)) 67)) := (Below.refl _ W2).alloc (Nat.le_refl _) _
    have I_57 := kept (show Blk (W2.alloc (.cells (Array.replicate 64 (.int .u8 0)) 67)) W2.heap.size 67 (Array.replicate 64 (.int .u8 0)) ∧ gP < W2.heap.size from ⟨Blk.new W2 _ _, HLT.out _ HS.out⟩)
    have S_58 := kept (HKEEP.out _ _ HS.out hba57)
    clear HS
    refine hK.out _ _ S_58.out (fun _ => ?_)
    clear hK K
    try simp only [Act.put, List.getElem_toArray, List.getElem_cons_zero, List.getElem_cons_succ, List.setIfInBounds_toArray, List.set_cons_zero, List.set_cons_succ]
    change wpAnyH _ _ _ _ _ _ _ _ (W2.alloc (.cells (Array.replicate 64 (.int .u8 0)) 67))
    obtain ⟨X57, hX57⟩ : ∃ Y, W2.alloc (.cells (Array.replicate 64 (.int .u8 0)) 67) = Y := ⟨_, rfl⟩
    obtain ⟨g57, hg57⟩ : ∃ g, W2.heap.size = g := ⟨_, rfl⟩
    rw [hX57] at S_58
    rw [hX57] at I_57
    rw [hg57] at I_57
    rw [hX57, hg57]
    clear hX57 hg57 hba57
    refine wpAnyH_ready (rs := [1, 5]) (by kernel_rfl) (by simp) ?_
    refine AllReadyH.cons rfl (fun K hK => ?_) (AllReadyH.cons rfl (fun K hK => ?_) (AllReadyH.nil))
    · go_simp
      refine (mask_any X57 P 54 HPL.out).mono ?_
      rintro e Y59 ⟨rfl, hb59⟩
      have S_60 := kept (HKEEP.out _ _ S_58.out hb59)
      clear S_58
      have I_61 := kept ((show _ ∧ _ from ⟨I_57.out.1.below hb59 I_57.out.1.lt, I_57.out.2⟩))
      clear I_57
      refine hK.out _ _ S_60.out (fun _ => ?_)
      clear hK K
      try simp only [Act.put, List.getElem_toArray, List.getElem_cons_zero, List.getElem_cons_succ, List.setIfInBounds_toArray, List.set_cons_zero, List.set_cons_succ]
      refine wpAnyH_ready (rs := [3, 5]) (by kernel_rfl) (by simp) ?_
      refine AllReadyH.cons rfl (fun K hK => ?_) (AllReadyH.cons rfl (fun K hK => ?_) (AllReadyH.nil))
      · go_simp
        refine (mask_any Y59 P 92 HPL.out).mono ?_
        rintro e Y62 ⟨rfl, hb62⟩
        have S_63 := kept (HKEEP.out _ _ S_60.out hb62)
        clear S_60
        have I_64 := kept ((show _ ∧ _ from ⟨I_61.out.1.below hb62 I_61.out.1.lt, I_61.out.2⟩))
        clear I_61
        refine hK.out _ _ S_63.out (fun _ => ?_)
        clear hK K
        try simp only [Act.put, List.getElem_toArray, List.getElem_cons_zero, List.getElem_cons_succ, List.setIfInBounds_toArray, List.set_cons_zero, List.set_cons_succ]
        refine wpAnyH_ready (rs := [5]) (by kernel_rfl) (by simp) ?_
        refine AllReadyH.cons rfl (fun K hK => ?_) (AllReadyH.nil)
        have hlt := I_64.out.1.lt
        go_simp
        have hba65 : Below Y62.heap.size Y62 (Y62.alloc (.cells (Array.replicate 64 (.int .u8 0)) 67)) := (Below.refl _ Y62).alloc (Nat.le_refl _) _
        have O_65 := kept (show Blk (Y62.alloc (.cells (Array.replicate 64 (.int .u8 0)) 67)) Y62.heap.size 67 (Array.replicate 64 (.int .u8 0)) ∧ gP < Y62.heap.size from ⟨Blk.new Y62 _ _, HLT.out _ S_63.out⟩)
        have S_66 := kept (HKEEP.out _ _ S_63.out hba65)
        clear S_63
        have I_67 := kept ((show _ ∧ _ from ⟨I_64.out.1.below hba65 I_64.out.1.lt, I_64.out.2⟩))
        clear I_64
        refine hK.out _ _ S_66.out (fun _ => ?_)
        clear hK K
        try simp only [Act.put, List.getElem_toArray, List.getElem_cons_zero, List.getElem_cons_succ, List.setIfInBounds_toArray, List.set_cons_zero, List.set_cons_succ]
        change wpAnyH _ _ _ _ _ _ _ _ (Y62.alloc (.cells (Array.replicate 64 (.int .u8 0)) 67))
        obtain ⟨X65, hX65⟩ : ∃ Y, Y62.alloc (.cells (Array.replicate 64 (.int .u8 0)) 67) = Y := ⟨_, rfl⟩
        obtain ⟨g65, hg65⟩ : ∃ g, Y62.heap.size = g := ⟨_, rfl⟩
        rw [hX65] at S_66
        rw [hX65] at I_67
        rw [hX65] at O_65
        rw [hg65] at hlt
        rw [hg65] at O_65
        rw [hX65, hg65]
        clear hX65 hg65 hba65
        have HNE := kept (show g57 ≠ g65 by omega)
        clear hlt
        refine wpAnyH_ready (rs := [6]) (by kernel_rfl) (by simp) ?_
        refine AllReadyH.cons rfl (fun K hK => ?_) (AllReadyH.nil)
        refine step_store_mid rfl 67 (.tmp 4) (.tmp 9) rfl g57 0 ((xorB 54 P).map bv).toArray rfl rfl (blk_there I_67.out.1 (by simp [xorB_len, HPL.out])) (by rw [b64_size]; simp [xorB_len, HPL.out]) (padded_one _) ?_
        have hbs68 : Below w.heap.size X65 (X65.setCells g57 0 ((xorB 54 P).map bv).toArray.toList) := below_setCells _ _ _ _ (by have := I_67.out.2; omega)
        have S_68 := kept (show (fun w' : World => w'.rangeAt gP 0 (P.map bv) ∧ Below w.heap.size w w') (X65.setCells g57 0 ((xorB 54 P).map bv).toArray.toList) from ⟨World.rangeAt_setCells_apart S_66.out.1 _ _ _ (.inl (by have := I_67.out.2; omega)), S_66.out.2.trans hbs68⟩)
        have I_68 := kept (show Blk _ g57 67 ((xorB 54 P).map bv).toArray ∧ gP < g57 from ⟨blk_setAll I_67.out.1 (by simp [xorB_len, HPL.out]), I_67.out.2⟩)
        have O_68 := kept (show Blk (X65.setCells g57 0 ((xorB 54 P).map bv).toArray.toList) g65 67 _ ∧ gP < g65 from ⟨O_65.out.1.keep (World.heap_setCells_other _ _ _ _ O_65.out.1.lt (HNE.out.symm)), O_65.out.2⟩)
        refine hK.out _ _ S_68.out (fun _ => ?_)
        clear hK K
        try simp only [Act.put, List.getElem_toArray, List.getElem_cons_zero, List.getElem_cons_succ, List.setIfInBounds_toArray, List.set_cons_zero, List.set_cons_succ]
        obtain ⟨X68, hX68⟩ : ∃ Y, X65.setCells g57 0 ((xorB 54 P).map bv).toArray.toList = Y := ⟨_, rfl⟩
        rw [hX68] at S_68
        rw [hX68] at I_68
        rw [hX68] at O_68
        rw [hX68]
        clear hX68 hbs68
        refine wpAnyH_ready (rs := [7]) (by kernel_rfl) (by simp) ?_
        refine AllReadyH.cons rfl (fun K hK => ?_) (AllReadyH.nil)
        refine step_store_mid rfl 67 (.tmp 5) (.tmp 11) rfl g65 0 ((xorB 92 P).map bv).toArray rfl rfl (blk_there O_68.out.1 (by simp [xorB_len, HPL.out])) (by rw [b64_size]; simp [xorB_len, HPL.out]) (padded_one _) ?_
        have hbs69 : Below w.heap.size X68 (X68.setCells g65 0 ((xorB 92 P).map bv).toArray.toList) := below_setCells _ _ _ _ (by have := O_68.out.2; omega)
        have S_69 := kept (show (fun w' : World => w'.rangeAt gP 0 (P.map bv) ∧ Below w.heap.size w w') (X68.setCells g65 0 ((xorB 92 P).map bv).toArray.toList) from ⟨World.rangeAt_setCells_apart S_68.out.1 _ _ _ (.inl (by have := O_68.out.2; omega)), S_68.out.2.trans hbs69⟩)
        have O_69 := kept (show Blk _ g65 67 ((xorB 92 P).map bv).toArray ∧ gP < g65 from ⟨blk_setAll O_68.out.1 (by simp [xorB_len, HPL.out]), O_68.out.2⟩)
        have I_69 := kept (show Blk (X68.setCells g65 0 ((xorB 92 P).map bv).toArray.toList) g57 67 _ ∧ gP < g57 from ⟨I_68.out.1.keep (World.heap_setCells_other _ _ _ _ I_68.out.1.lt (HNE.out)), I_68.out.2⟩)
        refine hK.out _ _ S_69.out (fun _ => ?_)
        clear hK K
        try simp only [Act.put, List.getElem_toArray, List.getElem_cons_zero, List.getElem_cons_succ, List.setIfInBounds_toArray, List.set_cons_zero, List.set_cons_succ]
        obtain ⟨X69, hX69⟩ : ∃ Y, X68.setCells g65 0 ((xorB 92 P).map bv).toArray.toList = Y := ⟨_, rfl⟩
        rw [hX69] at S_69
        rw [hX69] at O_69
        rw [hX69] at I_69
        rw [hX69]
        clear hX69 hbs69
        refine wpAnyH_done (by kernel_rfl) ?_ _
        go_wp2
        go_ret
        exact ⟨⟨g57, g65, rfl, (by have := I_69.out.2; omega), (by have := O_69.out.2; omega), I_69.out.1, O_69.out.1⟩, S_69.out.2⟩
      · have hlt := I_61.out.1.lt
        go_simp
        have hba70 : Below Y59.heap.size Y59 (Y59.alloc (.cells (Array.replicate 64 (.int .u8 0)) 67)) := (Below.refl _ Y59).alloc (Nat.le_refl _) _
        have O_70 := kept (show Blk (Y59.alloc (.cells (Array.replicate 64 (.int .u8 0)) 67)) Y59.heap.size 67 (Array.replicate 64 (.int .u8 0)) ∧ gP < Y59.heap.size from ⟨Blk.new Y59 _ _, HLT.out _ S_60.out⟩)
        have S_71 := kept (HKEEP.out _ _ S_60.out hba70)
        clear S_60
        have I_72 := kept ((show _ ∧ _ from ⟨I_61.out.1.below hba70 I_61.out.1.lt, I_61.out.2⟩))
        clear I_61
        refine hK.out _ _ S_71.out (fun _ => ?_)
        clear hK K
        try simp only [Act.put, List.getElem_toArray, List.getElem_cons_zero, List.getElem_cons_succ, List.setIfInBounds_toArray, List.set_cons_zero, List.set_cons_succ]
        change wpAnyH _ _ _ _ _ _ _ _ (Y59.alloc (.cells (Array.replicate 64 (.int .u8 0)) 67))
        obtain ⟨X70, hX70⟩ : ∃ Y, Y59.alloc (.cells (Array.replicate 64 (.int .u8 0)) 67) = Y := ⟨_, rfl⟩
        obtain ⟨g70, hg70⟩ : ∃ g, Y59.heap.size = g := ⟨_, rfl⟩
        rw [hX70] at S_71
        rw [hX70] at I_72
        rw [hX70] at O_70
        rw [hg70] at hlt
        rw [hg70] at O_70
        rw [hX70, hg70]
        clear hX70 hg70 hba70
        have HNE := kept (show g57 ≠ g70 by omega)
        clear hlt
        refine wpAnyH_ready (rs := [3]) (by kernel_rfl) (by simp) ?_
        refine AllReadyH.cons rfl (fun K hK => ?_) (AllReadyH.nil)
        go_simp
        refine (mask_any X70 P 92 HPL.out).mono ?_
        rintro e Y73 ⟨rfl, hb73⟩
        have S_74 := kept (HKEEP.out _ _ S_71.out hb73)
        clear S_71
        have I_75 := kept ((show _ ∧ _ from ⟨I_72.out.1.below hb73 I_72.out.1.lt, I_72.out.2⟩))
        clear I_72
        have O_76 := kept ((show _ ∧ _ from ⟨O_70.out.1.below hb73 O_70.out.1.lt, O_70.out.2⟩))
        clear O_70
        refine hK.out _ _ S_74.out (fun _ => ?_)
        clear hK K
        try simp only [Act.put, List.getElem_toArray, List.getElem_cons_zero, List.getElem_cons_succ, List.setIfInBounds_toArray, List.set_cons_zero, List.set_cons_succ]
        refine wpAnyH_ready (rs := [6]) (by kernel_rfl) (by simp) ?_
        refine AllReadyH.cons rfl (fun K hK => ?_) (AllReadyH.nil)
        refine step_store_mid rfl 67 (.tmp 4) (.tmp 9) rfl g57 0 ((xorB 54 P).map bv).toArray rfl rfl (blk_there I_75.out.1 (by simp [xorB_len, HPL.out])) (by rw [b64_size]; simp [xorB_len, HPL.out]) (padded_one _) ?_
        have hbs77 : Below w.heap.size Y73 (Y73.setCells g57 0 ((xorB 54 P).map bv).toArray.toList) := below_setCells _ _ _ _ (by have := I_75.out.2; omega)
        have S_77 := kept (show (fun w' : World => w'.rangeAt gP 0 (P.map bv) ∧ Below w.heap.size w w') (Y73.setCells g57 0 ((xorB 54 P).map bv).toArray.toList) from ⟨World.rangeAt_setCells_apart S_74.out.1 _ _ _ (.inl (by have := I_75.out.2; omega)), S_74.out.2.trans hbs77⟩)
        have I_77 := kept (show Blk _ g57 67 ((xorB 54 P).map bv).toArray ∧ gP < g57 from ⟨blk_setAll I_75.out.1 (by simp [xorB_len, HPL.out]), I_75.out.2⟩)
        have O_77 := kept (show Blk (Y73.setCells g57 0 ((xorB 54 P).map bv).toArray.toList) g70 67 _ ∧ gP < g70 from ⟨O_76.out.1.keep (World.heap_setCells_other _ _ _ _ O_76.out.1.lt (HNE.out.symm)), O_76.out.2⟩)
        refine hK.out _ _ S_77.out (fun _ => ?_)
        clear hK K
        try simp only [Act.put, List.getElem_toArray, List.getElem_cons_zero, List.getElem_cons_succ, List.setIfInBounds_toArray, List.set_cons_zero, List.set_cons_succ]
        obtain ⟨X77, hX77⟩ : ∃ Y, Y73.setCells g57 0 ((xorB 54 P).map bv).toArray.toList = Y := ⟨_, rfl⟩
        rw [hX77] at S_77
        rw [hX77] at I_77
        rw [hX77] at O_77
        rw [hX77]
        clear hX77 hbs77
        refine wpAnyH_ready (rs := [7]) (by kernel_rfl) (by simp) ?_
        refine AllReadyH.cons rfl (fun K hK => ?_) (AllReadyH.nil)
        refine step_store_mid rfl 67 (.tmp 5) (.tmp 11) rfl g70 0 ((xorB 92 P).map bv).toArray rfl rfl (blk_there O_77.out.1 (by simp [xorB_len, HPL.out])) (by rw [b64_size]; simp [xorB_len, HPL.out]) (padded_one _) ?_
        have hbs78 : Below w.heap.size X77 (X77.setCells g70 0 ((xorB 92 P).map bv).toArray.toList) := below_setCells _ _ _ _ (by have := O_77.out.2; omega)
        have S_78 := kept (show (fun w' : World => w'.rangeAt gP 0 (P.map bv) ∧ Below w.heap.size w w') (X77.setCells g70 0 ((xorB 92 P).map bv).toArray.toList) from ⟨World.rangeAt_setCells_apart S_77.out.1 _ _ _ (.inl (by have := O_77.out.2; omega)), S_77.out.2.trans hbs78⟩)
        have O_78 := kept (show Blk _ g70 67 ((xorB 92 P).map bv).toArray ∧ gP < g70 from ⟨blk_setAll O_77.out.1 (by simp [xorB_len, HPL.out]), O_77.out.2⟩)
        have I_78 := kept (show Blk (X77.setCells g70 0 ((xorB 92 P).map bv).toArray.toList) g57 67 _ ∧ gP < g57 from ⟨I_77.out.1.keep (World.heap_setCells_other _ _ _ _ I_77.out.1.lt (HNE.out)), I_77.out.2⟩)
        refine hK.out _ _ S_78.out (fun _ => ?_)
        clear hK K
        try simp only [Act.put, List.getElem_toArray, List.getElem_cons_zero, List.getElem_cons_succ, List.setIfInBounds_toArray, List.set_cons_zero, List.set_cons_succ]
        obtain ⟨X78, hX78⟩ : ∃ Y, X77.setCells g70 0 ((xorB 92 P).map bv).toArray.toList = Y := ⟨_, rfl⟩
        rw [hX78] at S_78
        rw [hX78] at O_78
        rw [hX78] at I_78
        rw [hX78]
        clear hX78 hbs78
        refine wpAnyH_done (by kernel_rfl) ?_ _
        go_wp2
        go_ret
        exact ⟨⟨g57, g70, rfl, (by have := I_78.out.2; omega), (by have := O_78.out.2; omega), I_78.out.1, O_78.out.1⟩, S_78.out.2⟩
    · have hlt := I_57.out.1.lt
      go_simp
      have hba79 : Below X57.heap.size X57 (X57.alloc (.cells (Array.replicate 64 (.int .u8 0)) 67)) := (Below.refl _ X57).alloc (Nat.le_refl _) _
      have O_79 := kept (show Blk (X57.alloc (.cells (Array.replicate 64 (.int .u8 0)) 67)) X57.heap.size 67 (Array.replicate 64 (.int .u8 0)) ∧ gP < X57.heap.size from ⟨Blk.new X57 _ _, HLT.out _ S_58.out⟩)
      have S_80 := kept (HKEEP.out _ _ S_58.out hba79)
      clear S_58
      have I_81 := kept ((show _ ∧ _ from ⟨I_57.out.1.below hba79 I_57.out.1.lt, I_57.out.2⟩))
      clear I_57
      refine hK.out _ _ S_80.out (fun _ => ?_)
      clear hK K
      try simp only [Act.put, List.getElem_toArray, List.getElem_cons_zero, List.getElem_cons_succ, List.setIfInBounds_toArray, List.set_cons_zero, List.set_cons_succ]
      change wpAnyH _ _ _ _ _ _ _ _ (X57.alloc (.cells (Array.replicate 64 (.int .u8 0)) 67))
      obtain ⟨X79, hX79⟩ : ∃ Y, X57.alloc (.cells (Array.replicate 64 (.int .u8 0)) 67) = Y := ⟨_, rfl⟩
      obtain ⟨g79, hg79⟩ : ∃ g, X57.heap.size = g := ⟨_, rfl⟩
      rw [hX79] at S_80
      rw [hX79] at I_81
      rw [hX79] at O_79
      rw [hg79] at hlt
      rw [hg79] at O_79
      rw [hX79, hg79]
      clear hX79 hg79 hba79
      have HNE := kept (show g57 ≠ g79 by omega)
      clear hlt
      refine wpAnyH_ready (rs := [1]) (by kernel_rfl) (by simp) ?_
      refine AllReadyH.cons rfl (fun K hK => ?_) (AllReadyH.nil)
      go_simp
      refine (mask_any X79 P 54 HPL.out).mono ?_
      rintro e Y82 ⟨rfl, hb82⟩
      have S_83 := kept (HKEEP.out _ _ S_80.out hb82)
      clear S_80
      have I_84 := kept ((show _ ∧ _ from ⟨I_81.out.1.below hb82 I_81.out.1.lt, I_81.out.2⟩))
      clear I_81
      have O_85 := kept ((show _ ∧ _ from ⟨O_79.out.1.below hb82 O_79.out.1.lt, O_79.out.2⟩))
      clear O_79
      refine hK.out _ _ S_83.out (fun _ => ?_)
      clear hK K
      try simp only [Act.put, List.getElem_toArray, List.getElem_cons_zero, List.getElem_cons_succ, List.setIfInBounds_toArray, List.set_cons_zero, List.set_cons_succ]
      refine wpAnyH_ready (rs := [3]) (by kernel_rfl) (by simp) ?_
      refine AllReadyH.cons rfl (fun K hK => ?_) (AllReadyH.nil)
      go_simp
      refine (mask_any Y82 P 92 HPL.out).mono ?_
      rintro e Y86 ⟨rfl, hb86⟩
      have S_87 := kept (HKEEP.out _ _ S_83.out hb86)
      clear S_83
      have I_88 := kept ((show _ ∧ _ from ⟨I_84.out.1.below hb86 I_84.out.1.lt, I_84.out.2⟩))
      clear I_84
      have O_89 := kept ((show _ ∧ _ from ⟨O_85.out.1.below hb86 O_85.out.1.lt, O_85.out.2⟩))
      clear O_85
      refine hK.out _ _ S_87.out (fun _ => ?_)
      clear hK K
      try simp only [Act.put, List.getElem_toArray, List.getElem_cons_zero, List.getElem_cons_succ, List.setIfInBounds_toArray, List.set_cons_zero, List.set_cons_succ]
      refine wpAnyH_ready (rs := [6]) (by kernel_rfl) (by simp) ?_
      refine AllReadyH.cons rfl (fun K hK => ?_) (AllReadyH.nil)
      refine step_store_mid rfl 67 (.tmp 4) (.tmp 9) rfl g57 0 ((xorB 54 P).map bv).toArray rfl rfl (blk_there I_88.out.1 (by simp [xorB_len, HPL.out])) (by rw [b64_size]; simp [xorB_len, HPL.out]) (padded_one _) ?_
      have hbs90 : Below w.heap.size Y86 (Y86.setCells g57 0 ((xorB 54 P).map bv).toArray.toList) := below_setCells _ _ _ _ (by have := I_88.out.2; omega)
      have S_90 := kept (show (fun w' : World => w'.rangeAt gP 0 (P.map bv) ∧ Below w.heap.size w w') (Y86.setCells g57 0 ((xorB 54 P).map bv).toArray.toList) from ⟨World.rangeAt_setCells_apart S_87.out.1 _ _ _ (.inl (by have := I_88.out.2; omega)), S_87.out.2.trans hbs90⟩)
      have I_90 := kept (show Blk _ g57 67 ((xorB 54 P).map bv).toArray ∧ gP < g57 from ⟨blk_setAll I_88.out.1 (by simp [xorB_len, HPL.out]), I_88.out.2⟩)
      have O_90 := kept (show Blk (Y86.setCells g57 0 ((xorB 54 P).map bv).toArray.toList) g79 67 _ ∧ gP < g79 from ⟨O_89.out.1.keep (World.heap_setCells_other _ _ _ _ O_89.out.1.lt (HNE.out.symm)), O_89.out.2⟩)
      refine hK.out _ _ S_90.out (fun _ => ?_)
      clear hK K
      try simp only [Act.put, List.getElem_toArray, List.getElem_cons_zero, List.getElem_cons_succ, List.setIfInBounds_toArray, List.set_cons_zero, List.set_cons_succ]
      obtain ⟨X90, hX90⟩ : ∃ Y, Y86.setCells g57 0 ((xorB 54 P).map bv).toArray.toList = Y := ⟨_, rfl⟩
      rw [hX90] at S_90
      rw [hX90] at I_90
      rw [hX90] at O_90
      rw [hX90]
      clear hX90 hbs90
      refine wpAnyH_ready (rs := [7]) (by kernel_rfl) (by simp) ?_
      refine AllReadyH.cons rfl (fun K hK => ?_) (AllReadyH.nil)
      refine step_store_mid rfl 67 (.tmp 5) (.tmp 11) rfl g79 0 ((xorB 92 P).map bv).toArray rfl rfl (blk_there O_90.out.1 (by simp [xorB_len, HPL.out])) (by rw [b64_size]; simp [xorB_len, HPL.out]) (padded_one _) ?_
      have hbs91 : Below w.heap.size X90 (X90.setCells g79 0 ((xorB 92 P).map bv).toArray.toList) := below_setCells _ _ _ _ (by have := O_90.out.2; omega)
      have S_91 := kept (show (fun w' : World => w'.rangeAt gP 0 (P.map bv) ∧ Below w.heap.size w w') (X90.setCells g79 0 ((xorB 92 P).map bv).toArray.toList) from ⟨World.rangeAt_setCells_apart S_90.out.1 _ _ _ (.inl (by have := O_90.out.2; omega)), S_90.out.2.trans hbs91⟩)
      have O_91 := kept (show Blk _ g79 67 ((xorB 92 P).map bv).toArray ∧ gP < g79 from ⟨blk_setAll O_90.out.1 (by simp [xorB_len, HPL.out]), O_90.out.2⟩)
      have I_91 := kept (show Blk (X90.setCells g79 0 ((xorB 92 P).map bv).toArray.toList) g57 67 _ ∧ gP < g57 from ⟨I_90.out.1.keep (World.heap_setCells_other _ _ _ _ I_90.out.1.lt (HNE.out)), I_90.out.2⟩)
      refine hK.out _ _ S_91.out (fun _ => ?_)
      clear hK K
      try simp only [Act.put, List.getElem_toArray, List.getElem_cons_zero, List.getElem_cons_succ, List.setIfInBounds_toArray, List.set_cons_zero, List.set_cons_succ]
      obtain ⟨X91, hX91⟩ : ∃ Y, X90.setCells g79 0 ((xorB 92 P).map bv).toArray.toList = Y := ⟨_, rfl⟩
      rw [hX91] at S_91
      rw [hX91] at O_91
      rw [hX91] at I_91
      rw [hX91]
      clear hX91 hbs91
      refine wpAnyH_done (by kernel_rfl) ?_ _
      go_wp2
      go_ret
      exact ⟨⟨g57, g79, rfl, (by have := I_91.out.2; omega), (by have := O_91.out.2; omega), I_91.out.1, O_91.out.1⟩, S_91.out.2⟩
  · go_simp
    have hba92 : Below W2.heap.size W2 (W2.alloc (.cells (Array.replicate 64 (.int .u8 0)) 67)) := (Below.refl _ W2).alloc (Nat.le_refl _) _
    have O_92 := kept (show Blk (W2.alloc (.cells (Array.replicate 64 (.int .u8 0)) 67)) W2.heap.size 67 (Array.replicate 64 (.int .u8 0)) ∧ gP < W2.heap.size from ⟨Blk.new W2 _ _, HLT.out _ HS.out⟩)
    have S_93 := kept (HKEEP.out _ _ HS.out hba92)
    clear HS
    refine hK.out _ _ S_93.out (fun _ => ?_)
    clear hK K
    try simp only [Act.put, List.getElem_toArray, List.getElem_cons_zero, List.getElem_cons_succ, List.setIfInBounds_toArray, List.set_cons_zero, List.set_cons_succ]
    change wpAnyH _ _ _ _ _ _ _ _ (W2.alloc (.cells (Array.replicate 64 (.int .u8 0)) 67))
    obtain ⟨X92, hX92⟩ : ∃ Y, W2.alloc (.cells (Array.replicate 64 (.int .u8 0)) 67) = Y := ⟨_, rfl⟩
    obtain ⟨g92, hg92⟩ : ∃ g, W2.heap.size = g := ⟨_, rfl⟩
    rw [hX92] at S_93
    rw [hX92] at O_92
    rw [hg92] at O_92
    rw [hX92, hg92]
    clear hX92 hg92 hba92
    refine wpAnyH_ready (rs := [1, 4]) (by kernel_rfl) (by simp) ?_
    refine AllReadyH.cons rfl (fun K hK => ?_) (AllReadyH.cons rfl (fun K hK => ?_) (AllReadyH.nil))
    · go_simp
      refine (mask_any X92 P 54 HPL.out).mono ?_
      rintro e Y94 ⟨rfl, hb94⟩
      have S_95 := kept (HKEEP.out _ _ S_93.out hb94)
      clear S_93
      have O_96 := kept ((show _ ∧ _ from ⟨O_92.out.1.below hb94 O_92.out.1.lt, O_92.out.2⟩))
      clear O_92
      refine hK.out _ _ S_95.out (fun _ => ?_)
      clear hK K
      try simp only [Act.put, List.getElem_toArray, List.getElem_cons_zero, List.getElem_cons_succ, List.setIfInBounds_toArray, List.set_cons_zero, List.set_cons_succ]
      refine wpAnyH_ready (rs := [3, 4]) (by kernel_rfl) (by simp) ?_
      refine AllReadyH.cons rfl (fun K hK => ?_) (AllReadyH.cons rfl (fun K hK => ?_) (AllReadyH.nil))
      · go_simp
        refine (mask_any Y94 P 92 HPL.out).mono ?_
        rintro e Y97 ⟨rfl, hb97⟩
        have S_98 := kept (HKEEP.out _ _ S_95.out hb97)
        clear S_95
        have O_99 := kept ((show _ ∧ _ from ⟨O_96.out.1.below hb97 O_96.out.1.lt, O_96.out.2⟩))
        clear O_96
        refine hK.out _ _ S_98.out (fun _ => ?_)
        clear hK K
        try simp only [Act.put, List.getElem_toArray, List.getElem_cons_zero, List.getElem_cons_succ, List.setIfInBounds_toArray, List.set_cons_zero, List.set_cons_succ]
        refine wpAnyH_ready (rs := [4]) (by kernel_rfl) (by simp) ?_
        refine AllReadyH.cons rfl (fun K hK => ?_) (AllReadyH.nil)
        have hlt := O_99.out.1.lt
        go_simp
        have hba100 : Below Y97.heap.size Y97 (Y97.alloc (.cells (Array.replicate 64 (.int .u8 0)) 67)) := (Below.refl _ Y97).alloc (Nat.le_refl _) _
        have I_100 := kept (show Blk (Y97.alloc (.cells (Array.replicate 64 (.int .u8 0)) 67)) Y97.heap.size 67 (Array.replicate 64 (.int .u8 0)) ∧ gP < Y97.heap.size from ⟨Blk.new Y97 _ _, HLT.out _ S_98.out⟩)
        have S_101 := kept (HKEEP.out _ _ S_98.out hba100)
        clear S_98
        have O_102 := kept ((show _ ∧ _ from ⟨O_99.out.1.below hba100 O_99.out.1.lt, O_99.out.2⟩))
        clear O_99
        refine hK.out _ _ S_101.out (fun _ => ?_)
        clear hK K
        try simp only [Act.put, List.getElem_toArray, List.getElem_cons_zero, List.getElem_cons_succ, List.setIfInBounds_toArray, List.set_cons_zero, List.set_cons_succ]
        change wpAnyH _ _ _ _ _ _ _ _ (Y97.alloc (.cells (Array.replicate 64 (.int .u8 0)) 67))
        obtain ⟨X100, hX100⟩ : ∃ Y, Y97.alloc (.cells (Array.replicate 64 (.int .u8 0)) 67) = Y := ⟨_, rfl⟩
        obtain ⟨g100, hg100⟩ : ∃ g, Y97.heap.size = g := ⟨_, rfl⟩
        rw [hX100] at S_101
        rw [hX100] at O_102
        rw [hX100] at I_100
        rw [hg100] at hlt
        rw [hg100] at I_100
        rw [hX100, hg100]
        clear hX100 hg100 hba100
        have HNE := kept (show g100 ≠ g92 by omega)
        clear hlt
        refine wpAnyH_ready (rs := [6]) (by kernel_rfl) (by simp) ?_
        refine AllReadyH.cons rfl (fun K hK => ?_) (AllReadyH.nil)
        refine step_store_mid rfl 67 (.tmp 4) (.tmp 9) rfl g100 0 ((xorB 54 P).map bv).toArray rfl rfl (blk_there I_100.out.1 (by simp [xorB_len, HPL.out])) (by rw [b64_size]; simp [xorB_len, HPL.out]) (padded_one _) ?_
        have hbs103 : Below w.heap.size X100 (X100.setCells g100 0 ((xorB 54 P).map bv).toArray.toList) := below_setCells _ _ _ _ (by have := I_100.out.2; omega)
        have S_103 := kept (show (fun w' : World => w'.rangeAt gP 0 (P.map bv) ∧ Below w.heap.size w w') (X100.setCells g100 0 ((xorB 54 P).map bv).toArray.toList) from ⟨World.rangeAt_setCells_apart S_101.out.1 _ _ _ (.inl (by have := I_100.out.2; omega)), S_101.out.2.trans hbs103⟩)
        have I_103 := kept (show Blk _ g100 67 ((xorB 54 P).map bv).toArray ∧ gP < g100 from ⟨blk_setAll I_100.out.1 (by simp [xorB_len, HPL.out]), I_100.out.2⟩)
        have O_103 := kept (show Blk (X100.setCells g100 0 ((xorB 54 P).map bv).toArray.toList) g92 67 _ ∧ gP < g92 from ⟨O_102.out.1.keep (World.heap_setCells_other _ _ _ _ O_102.out.1.lt (HNE.out.symm)), O_102.out.2⟩)
        refine hK.out _ _ S_103.out (fun _ => ?_)
        clear hK K
        try simp only [Act.put, List.getElem_toArray, List.getElem_cons_zero, List.getElem_cons_succ, List.setIfInBounds_toArray, List.set_cons_zero, List.set_cons_succ]
        obtain ⟨X103, hX103⟩ : ∃ Y, X100.setCells g100 0 ((xorB 54 P).map bv).toArray.toList = Y := ⟨_, rfl⟩
        rw [hX103] at S_103
        rw [hX103] at I_103
        rw [hX103] at O_103
        rw [hX103]
        clear hX103 hbs103
        refine wpAnyH_ready (rs := [7]) (by kernel_rfl) (by simp) ?_
        refine AllReadyH.cons rfl (fun K hK => ?_) (AllReadyH.nil)
        refine step_store_mid rfl 67 (.tmp 5) (.tmp 11) rfl g92 0 ((xorB 92 P).map bv).toArray rfl rfl (blk_there O_103.out.1 (by simp [xorB_len, HPL.out])) (by rw [b64_size]; simp [xorB_len, HPL.out]) (padded_one _) ?_
        have hbs104 : Below w.heap.size X103 (X103.setCells g92 0 ((xorB 92 P).map bv).toArray.toList) := below_setCells _ _ _ _ (by have := O_103.out.2; omega)
        have S_104 := kept (show (fun w' : World => w'.rangeAt gP 0 (P.map bv) ∧ Below w.heap.size w w') (X103.setCells g92 0 ((xorB 92 P).map bv).toArray.toList) from ⟨World.rangeAt_setCells_apart S_103.out.1 _ _ _ (.inl (by have := O_103.out.2; omega)), S_103.out.2.trans hbs104⟩)
        have O_104 := kept (show Blk _ g92 67 ((xorB 92 P).map bv).toArray ∧ gP < g92 from ⟨blk_setAll O_103.out.1 (by simp [xorB_len, HPL.out]), O_103.out.2⟩)
        have I_104 := kept (show Blk (X103.setCells g92 0 ((xorB 92 P).map bv).toArray.toList) g100 67 _ ∧ gP < g100 from ⟨I_103.out.1.keep (World.heap_setCells_other _ _ _ _ I_103.out.1.lt (HNE.out)), I_103.out.2⟩)
        refine hK.out _ _ S_104.out (fun _ => ?_)
        clear hK K
        try simp only [Act.put, List.getElem_toArray, List.getElem_cons_zero, List.getElem_cons_succ, List.setIfInBounds_toArray, List.set_cons_zero, List.set_cons_succ]
        obtain ⟨X104, hX104⟩ : ∃ Y, X103.setCells g92 0 ((xorB 92 P).map bv).toArray.toList = Y := ⟨_, rfl⟩
        rw [hX104] at S_104
        rw [hX104] at O_104
        rw [hX104] at I_104
        rw [hX104]
        clear hX104 hbs104
        refine wpAnyH_done (by kernel_rfl) ?_ _
        go_wp2
        go_ret
        exact ⟨⟨g100, g92, rfl, (by have := I_104.out.2; omega), (by have := O_104.out.2; omega), I_104.out.1, O_104.out.1⟩, S_104.out.2⟩
      · have hlt := O_96.out.1.lt
        go_simp
        have hba105 : Below Y94.heap.size Y94 (Y94.alloc (.cells (Array.replicate 64 (.int .u8 0)) 67)) := (Below.refl _ Y94).alloc (Nat.le_refl _) _
        have I_105 := kept (show Blk (Y94.alloc (.cells (Array.replicate 64 (.int .u8 0)) 67)) Y94.heap.size 67 (Array.replicate 64 (.int .u8 0)) ∧ gP < Y94.heap.size from ⟨Blk.new Y94 _ _, HLT.out _ S_95.out⟩)
        have S_106 := kept (HKEEP.out _ _ S_95.out hba105)
        clear S_95
        have O_107 := kept ((show _ ∧ _ from ⟨O_96.out.1.below hba105 O_96.out.1.lt, O_96.out.2⟩))
        clear O_96
        refine hK.out _ _ S_106.out (fun _ => ?_)
        clear hK K
        try simp only [Act.put, List.getElem_toArray, List.getElem_cons_zero, List.getElem_cons_succ, List.setIfInBounds_toArray, List.set_cons_zero, List.set_cons_succ]
        change wpAnyH _ _ _ _ _ _ _ _ (Y94.alloc (.cells (Array.replicate 64 (.int .u8 0)) 67))
        obtain ⟨X105, hX105⟩ : ∃ Y, Y94.alloc (.cells (Array.replicate 64 (.int .u8 0)) 67) = Y := ⟨_, rfl⟩
        obtain ⟨g105, hg105⟩ : ∃ g, Y94.heap.size = g := ⟨_, rfl⟩
        rw [hX105] at S_106
        rw [hX105] at O_107
        rw [hX105] at I_105
        rw [hg105] at hlt
        rw [hg105] at I_105
        rw [hX105, hg105]
        clear hX105 hg105 hba105
        have HNE := kept (show g105 ≠ g92 by omega)
        clear hlt
        refine wpAnyH_ready (rs := [3]) (by kernel_rfl) (by simp) ?_
        refine AllReadyH.cons rfl (fun K hK => ?_) (AllReadyH.nil)
        go_simp
        refine (mask_any X105 P 92 HPL.out).mono ?_
        rintro e Y108 ⟨rfl, hb108⟩
        have S_109 := kept (HKEEP.out _ _ S_106.out hb108)
        clear S_106
        have O_110 := kept ((show _ ∧ _ from ⟨O_107.out.1.below hb108 O_107.out.1.lt, O_107.out.2⟩))
        clear O_107
        have I_111 := kept ((show _ ∧ _ from ⟨I_105.out.1.below hb108 I_105.out.1.lt, I_105.out.2⟩))
        clear I_105
        refine hK.out _ _ S_109.out (fun _ => ?_)
        clear hK K
        try simp only [Act.put, List.getElem_toArray, List.getElem_cons_zero, List.getElem_cons_succ, List.setIfInBounds_toArray, List.set_cons_zero, List.set_cons_succ]
        refine wpAnyH_ready (rs := [6]) (by kernel_rfl) (by simp) ?_
        refine AllReadyH.cons rfl (fun K hK => ?_) (AllReadyH.nil)
        refine step_store_mid rfl 67 (.tmp 4) (.tmp 9) rfl g105 0 ((xorB 54 P).map bv).toArray rfl rfl (blk_there I_111.out.1 (by simp [xorB_len, HPL.out])) (by rw [b64_size]; simp [xorB_len, HPL.out]) (padded_one _) ?_
        have hbs112 : Below w.heap.size Y108 (Y108.setCells g105 0 ((xorB 54 P).map bv).toArray.toList) := below_setCells _ _ _ _ (by have := I_111.out.2; omega)
        have S_112 := kept (show (fun w' : World => w'.rangeAt gP 0 (P.map bv) ∧ Below w.heap.size w w') (Y108.setCells g105 0 ((xorB 54 P).map bv).toArray.toList) from ⟨World.rangeAt_setCells_apart S_109.out.1 _ _ _ (.inl (by have := I_111.out.2; omega)), S_109.out.2.trans hbs112⟩)
        have I_112 := kept (show Blk _ g105 67 ((xorB 54 P).map bv).toArray ∧ gP < g105 from ⟨blk_setAll I_111.out.1 (by simp [xorB_len, HPL.out]), I_111.out.2⟩)
        have O_112 := kept (show Blk (Y108.setCells g105 0 ((xorB 54 P).map bv).toArray.toList) g92 67 _ ∧ gP < g92 from ⟨O_110.out.1.keep (World.heap_setCells_other _ _ _ _ O_110.out.1.lt (HNE.out.symm)), O_110.out.2⟩)
        refine hK.out _ _ S_112.out (fun _ => ?_)
        clear hK K
        try simp only [Act.put, List.getElem_toArray, List.getElem_cons_zero, List.getElem_cons_succ, List.setIfInBounds_toArray, List.set_cons_zero, List.set_cons_succ]
        obtain ⟨X112, hX112⟩ : ∃ Y, Y108.setCells g105 0 ((xorB 54 P).map bv).toArray.toList = Y := ⟨_, rfl⟩
        rw [hX112] at S_112
        rw [hX112] at I_112
        rw [hX112] at O_112
        rw [hX112]
        clear hX112 hbs112
        refine wpAnyH_ready (rs := [7]) (by kernel_rfl) (by simp) ?_
        refine AllReadyH.cons rfl (fun K hK => ?_) (AllReadyH.nil)
        refine step_store_mid rfl 67 (.tmp 5) (.tmp 11) rfl g92 0 ((xorB 92 P).map bv).toArray rfl rfl (blk_there O_112.out.1 (by simp [xorB_len, HPL.out])) (by rw [b64_size]; simp [xorB_len, HPL.out]) (padded_one _) ?_
        have hbs113 : Below w.heap.size X112 (X112.setCells g92 0 ((xorB 92 P).map bv).toArray.toList) := below_setCells _ _ _ _ (by have := O_112.out.2; omega)
        have S_113 := kept (show (fun w' : World => w'.rangeAt gP 0 (P.map bv) ∧ Below w.heap.size w w') (X112.setCells g92 0 ((xorB 92 P).map bv).toArray.toList) from ⟨World.rangeAt_setCells_apart S_112.out.1 _ _ _ (.inl (by have := O_112.out.2; omega)), S_112.out.2.trans hbs113⟩)
        have O_113 := kept (show Blk _ g92 67 ((xorB 92 P).map bv).toArray ∧ gP < g92 from ⟨blk_setAll O_112.out.1 (by simp [xorB_len, HPL.out]), O_112.out.2⟩)
        have I_113 := kept (show Blk (X112.setCells g92 0 ((xorB 92 P).map bv).toArray.toList) g105 67 _ ∧ gP < g105 from ⟨I_112.out.1.keep (World.heap_setCells_other _ _ _ _ I_112.out.1.lt (HNE.out)), I_112.out.2⟩)
        refine hK.out _ _ S_113.out (fun _ => ?_)
        clear hK K
        try simp only [Act.put, List.getElem_toArray, List.getElem_cons_zero, List.getElem_cons_succ, List.setIfInBounds_toArray, List.set_cons_zero, List.set_cons_succ]
        obtain ⟨X113, hX113⟩ : ∃ Y, X112.setCells g92 0 ((xorB 92 P).map bv).toArray.toList = Y := ⟨_, rfl⟩
        rw [hX113] at S_113
        rw [hX113] at O_113
        rw [hX113] at I_113
        rw [hX113]
        clear hX113 hbs113
        refine wpAnyH_done (by kernel_rfl) ?_ _
        go_wp2
        go_ret
        exact ⟨⟨g105, g92, rfl, (by have := I_113.out.2; omega), (by have := O_113.out.2; omega), I_113.out.1, O_113.out.1⟩, S_113.out.2⟩
    · have hlt := O_92.out.1.lt
      go_simp
      have hba114 : Below X92.heap.size X92 (X92.alloc (.cells (Array.replicate 64 (.int .u8 0)) 67)) := (Below.refl _ X92).alloc (Nat.le_refl _) _
      have I_114 := kept (show Blk (X92.alloc (.cells (Array.replicate 64 (.int .u8 0)) 67)) X92.heap.size 67 (Array.replicate 64 (.int .u8 0)) ∧ gP < X92.heap.size from ⟨Blk.new X92 _ _, HLT.out _ S_93.out⟩)
      have S_115 := kept (HKEEP.out _ _ S_93.out hba114)
      clear S_93
      have O_116 := kept ((show _ ∧ _ from ⟨O_92.out.1.below hba114 O_92.out.1.lt, O_92.out.2⟩))
      clear O_92
      refine hK.out _ _ S_115.out (fun _ => ?_)
      clear hK K
      try simp only [Act.put, List.getElem_toArray, List.getElem_cons_zero, List.getElem_cons_succ, List.setIfInBounds_toArray, List.set_cons_zero, List.set_cons_succ]
      change wpAnyH _ _ _ _ _ _ _ _ (X92.alloc (.cells (Array.replicate 64 (.int .u8 0)) 67))
      obtain ⟨X114, hX114⟩ : ∃ Y, X92.alloc (.cells (Array.replicate 64 (.int .u8 0)) 67) = Y := ⟨_, rfl⟩
      obtain ⟨g114, hg114⟩ : ∃ g, X92.heap.size = g := ⟨_, rfl⟩
      rw [hX114] at S_115
      rw [hX114] at O_116
      rw [hX114] at I_114
      rw [hg114] at hlt
      rw [hg114] at I_114
      rw [hX114, hg114]
      clear hX114 hg114 hba114
      have HNE := kept (show g114 ≠ g92 by omega)
      clear hlt
      refine wpAnyH_ready (rs := [1]) (by kernel_rfl) (by simp) ?_
      refine AllReadyH.cons rfl (fun K hK => ?_) (AllReadyH.nil)
      go_simp
      refine (mask_any X114 P 54 HPL.out).mono ?_
      rintro e Y117 ⟨rfl, hb117⟩
      have S_118 := kept (HKEEP.out _ _ S_115.out hb117)
      clear S_115
      have O_119 := kept ((show _ ∧ _ from ⟨O_116.out.1.below hb117 O_116.out.1.lt, O_116.out.2⟩))
      clear O_116
      have I_120 := kept ((show _ ∧ _ from ⟨I_114.out.1.below hb117 I_114.out.1.lt, I_114.out.2⟩))
      clear I_114
      refine hK.out _ _ S_118.out (fun _ => ?_)
      clear hK K
      try simp only [Act.put, List.getElem_toArray, List.getElem_cons_zero, List.getElem_cons_succ, List.setIfInBounds_toArray, List.set_cons_zero, List.set_cons_succ]
      refine wpAnyH_ready (rs := [3]) (by kernel_rfl) (by simp) ?_
      refine AllReadyH.cons rfl (fun K hK => ?_) (AllReadyH.nil)
      go_simp
      refine (mask_any Y117 P 92 HPL.out).mono ?_
      rintro e Y121 ⟨rfl, hb121⟩
      have S_122 := kept (HKEEP.out _ _ S_118.out hb121)
      clear S_118
      have O_123 := kept ((show _ ∧ _ from ⟨O_119.out.1.below hb121 O_119.out.1.lt, O_119.out.2⟩))
      clear O_119
      have I_124 := kept ((show _ ∧ _ from ⟨I_120.out.1.below hb121 I_120.out.1.lt, I_120.out.2⟩))
      clear I_120
      refine hK.out _ _ S_122.out (fun _ => ?_)
      clear hK K
      try simp only [Act.put, List.getElem_toArray, List.getElem_cons_zero, List.getElem_cons_succ, List.setIfInBounds_toArray, List.set_cons_zero, List.set_cons_succ]
      refine wpAnyH_ready (rs := [6]) (by kernel_rfl) (by simp) ?_
      refine AllReadyH.cons rfl (fun K hK => ?_) (AllReadyH.nil)
      refine step_store_mid rfl 67 (.tmp 4) (.tmp 9) rfl g114 0 ((xorB 54 P).map bv).toArray rfl rfl (blk_there I_124.out.1 (by simp [xorB_len, HPL.out])) (by rw [b64_size]; simp [xorB_len, HPL.out]) (padded_one _) ?_
      have hbs125 : Below w.heap.size Y121 (Y121.setCells g114 0 ((xorB 54 P).map bv).toArray.toList) := below_setCells _ _ _ _ (by have := I_124.out.2; omega)
      have S_125 := kept (show (fun w' : World => w'.rangeAt gP 0 (P.map bv) ∧ Below w.heap.size w w') (Y121.setCells g114 0 ((xorB 54 P).map bv).toArray.toList) from ⟨World.rangeAt_setCells_apart S_122.out.1 _ _ _ (.inl (by have := I_124.out.2; omega)), S_122.out.2.trans hbs125⟩)
      have I_125 := kept (show Blk _ g114 67 ((xorB 54 P).map bv).toArray ∧ gP < g114 from ⟨blk_setAll I_124.out.1 (by simp [xorB_len, HPL.out]), I_124.out.2⟩)
      have O_125 := kept (show Blk (Y121.setCells g114 0 ((xorB 54 P).map bv).toArray.toList) g92 67 _ ∧ gP < g92 from ⟨O_123.out.1.keep (World.heap_setCells_other _ _ _ _ O_123.out.1.lt (HNE.out.symm)), O_123.out.2⟩)
      refine hK.out _ _ S_125.out (fun _ => ?_)
      clear hK K
      try simp only [Act.put, List.getElem_toArray, List.getElem_cons_zero, List.getElem_cons_succ, List.setIfInBounds_toArray, List.set_cons_zero, List.set_cons_succ]
      obtain ⟨X125, hX125⟩ : ∃ Y, Y121.setCells g114 0 ((xorB 54 P).map bv).toArray.toList = Y := ⟨_, rfl⟩
      rw [hX125] at S_125
      rw [hX125] at I_125
      rw [hX125] at O_125
      rw [hX125]
      clear hX125 hbs125
      refine wpAnyH_ready (rs := [7]) (by kernel_rfl) (by simp) ?_
      refine AllReadyH.cons rfl (fun K hK => ?_) (AllReadyH.nil)
      refine step_store_mid rfl 67 (.tmp 5) (.tmp 11) rfl g92 0 ((xorB 92 P).map bv).toArray rfl rfl (blk_there O_125.out.1 (by simp [xorB_len, HPL.out])) (by rw [b64_size]; simp [xorB_len, HPL.out]) (padded_one _) ?_
      have hbs126 : Below w.heap.size X125 (X125.setCells g92 0 ((xorB 92 P).map bv).toArray.toList) := below_setCells _ _ _ _ (by have := O_125.out.2; omega)
      have S_126 := kept (show (fun w' : World => w'.rangeAt gP 0 (P.map bv) ∧ Below w.heap.size w w') (X125.setCells g92 0 ((xorB 92 P).map bv).toArray.toList) from ⟨World.rangeAt_setCells_apart S_125.out.1 _ _ _ (.inl (by have := O_125.out.2; omega)), S_125.out.2.trans hbs126⟩)
      have O_126 := kept (show Blk _ g92 67 ((xorB 92 P).map bv).toArray ∧ gP < g92 from ⟨blk_setAll O_125.out.1 (by simp [xorB_len, HPL.out]), O_125.out.2⟩)
      have I_126 := kept (show Blk (X125.setCells g92 0 ((xorB 92 P).map bv).toArray.toList) g114 67 _ ∧ gP < g114 from ⟨I_125.out.1.keep (World.heap_setCells_other _ _ _ _ I_125.out.1.lt (HNE.out)), I_125.out.2⟩)
      refine hK.out _ _ S_126.out (fun _ => ?_)
      clear hK K
      try simp only [Act.put, List.getElem_toArray, List.getElem_cons_zero, List.getElem_cons_succ, List.setIfInBounds_toArray, List.set_cons_zero, List.set_cons_succ]
      obtain ⟨X126, hX126⟩ : ∃ Y, X125.setCells g92 0 ((xorB 92 P).map bv).toArray.toList = Y := ⟨_, rfl⟩
      rw [hX126] at S_126
      rw [hX126] at O_126
      rw [hX126] at I_126
      rw [hX126]
      clear hX126 hbs126
      refine wpAnyH_done (by kernel_rfl) ?_ _
      go_wp2
      go_ret
      exact ⟨⟨g114, g92, rfl, (by have := I_126.out.2; omega), (by have := O_126.out.2; omega), I_126.out.1, O_126.out.1⟩, S_126.out.2⟩
end Go.Proofs.YtcjbplgjjhenkaaDoor
/-
  The function that coder hands back, by a contract.
-/
namespace Go.Proofs.YtcjbplgjjhenkaaDoor
open Go.RowKit
set_option linter.unusedVariables false
set_option linter.unusedSimpArgs false

/-- The values vs are slices of bytes that read as L. -/
def Hdrs (w : World) (vs : List Value) (L : List (List UInt8)) : Prop :=
  vs.length = L.length ∧ ∀ (j : Nat) (l : List UInt8), L[j]? = some l → ∃ (A' : Option Addr) (q' c' : Nat), vs[j]? = some (Value.slice A' l.length c') ∧ Mem w q' A' l ∧ l.length ≤ c'
theorem Hdrs.below0 {w w' : World} {vs : List Value} {L : List (List UInt8)} (h : Hdrs w vs L) (hb : Below w.heap.size w w') : Hdrs w' vs L :=
  ⟨h.1, fun j l hj => by
    obtain ⟨A', q', c', h1, h2, h3⟩ := h.2 j l hj
    exact ⟨A', q', c', h1, h2.below0 hb, h3⟩⟩
theorem Hdrs.one {w : World} {vs : List Value} {L : List (List UInt8)} (h : Hdrs w vs L) : ∀ v ∈ vs, v.oneCell' = true := by
  intro v hv
  obtain ⟨j, hj, rfl⟩ := List.getElem_of_mem hv
  obtain ⟨A', q', c', h1, _⟩ := h.2 j _ (List.getElem?_eq_getElem (by rw [← h.1]; exact hj))
  rw [List.getElem?_eq_getElem hj] at h1
  rw [Option.some.inj h1]
  rfl
theorem Hdrs.append {w : World} {vs us : List Value} {L M : List (List UInt8)} (h : Hdrs w vs L) (k : Hdrs w us M) : Hdrs w (vs ++ us) (L ++ M) := by
  refine ⟨by rw [List.length_append, List.length_append, h.1, k.1], fun j l hj => ?_⟩
  by_cases hlt : j < L.length
  · rw [List.getElem?_append_left hlt] at hj
    rw [List.getElem?_append_left (by rw [h.1]; exact hlt)]
    exact h.2 j l hj
  · rw [List.getElem?_append_right (by omega)] at hj
    rw [List.getElem?_append_right (by rw [h.1]; omega), h.1]
    exact k.2 _ l hj
theorem hdrs_one {w : World} {q c : Nat} {A : Option Addr} {l : List UInt8} (h : Mem w q A l) (hc : l.length ≤ c) : Hdrs w [.slice A l.length c] [l] := by
  refine ⟨rfl, fun j l' hj => ?_⟩
  rcases j with _ | j
  · obtain rfl : l = l' := by simpa using hj
    exact ⟨A, q, c, rfl, h, hc⟩
  · simp at hj
theorem memM_vals {w : World} {q : Nat} {A : Option Addr} {L : List (List UInt8)} (h : MemM w q A L) : ∃ vs, MemV w q A vs ∧ Hdrs w vs L := by
  rcases h with rfl | ⟨o, ho, hc⟩
  · exact ⟨[], .inl rfl, rfl, fun j l hj => by simp at hj⟩
  · have each : ∀ j, j < L.length → ∃ v, w.cell? ⟨q, o + j, none⟩ = some v ∧ ∀ l, L[j]? = some l → ∃ A' q' c', v = Value.slice A' l.length c' ∧ Mem w q' A' l ∧ l.length ≤ c' := by
      intro j hj
      obtain ⟨A', q', c', h1, h2, h3⟩ := hc j _ (List.getElem?_eq_getElem hj)
      refine ⟨_, h1, fun l hl => ?_⟩
      rw [List.getElem?_eq_getElem hj] at hl
      obtain rfl := Option.some.inj hl
      exact ⟨A', q', c', rfl, h2, h3⟩
    have hall : ∀ j, ∃ v, j < L.length → (w.cell? ⟨q, o + j, none⟩ = some v ∧ ∀ l, L[j]? = some l → ∃ A' q' c', v = Value.slice A' l.length c' ∧ Mem w q' A' l ∧ l.length ≤ c') := by
      intro j
      by_cases hj : j < L.length
      · obtain ⟨v, hv⟩ := each j hj
        exact ⟨v, fun _ => hv⟩
      · exact ⟨.slice none 0 0, fun h => absurd h hj⟩
    refine ⟨(List.range L.length).map fun j => Classical.choose (hall j), .inr ⟨o, ho, fun j v hj => ?_⟩, by simp, fun j l hj => ?_⟩
    · rw [List.getElem?_map] at hj
      by_cases hlt : j < L.length
      · rw [List.getElem?_range hlt] at hj
        obtain rfl := Option.some.inj hj
        exact (Classical.choose_spec (hall j) hlt).1
      · rw [List.getElem?_eq_none (by simpa using hlt)] at hj
        cases hj
    · have hlt := (List.getElem?_eq_some_iff.1 hj).1
      obtain ⟨A', q', c', h1, h2, h3⟩ := (Classical.choose_spec (hall j) hlt).2 l hj
      exact ⟨A', q', c', by rw [List.getElem?_map, List.getElem?_range hlt, Option.map_some, h1], h2, h3⟩
theorem memM_of {w : World} {q : Nat} {A : Option Addr} {vs : List Value} {L : List (List UInt8)} (h : MemV w q A vs) (k : Hdrs w vs L) : MemM w q A L := by
  rcases h with h | ⟨o, ho, hc⟩
  · subst h
    exact .inl (List.length_eq_zero_iff.1 k.1.symm)
  · refine .inr ⟨o, ho, fun j l hj => ?_⟩
    obtain ⟨A', q', c', h1, h2, h3⟩ := k.2 j l hj
    exact ⟨A', q', c', hc j _ h1, h2, h3⟩
theorem OwnV.form {w : World} {B : Nat} {v : Value} {vs : List Value} (h : OwnV w B v vs) : ∃ A q c, v = .slice A vs.length c ∧ vs.length ≤ c ∧ MemV w q A vs := by
  obtain ⟨h1, h2⟩ := h
  rcases h2 with ⟨rfl, hn⟩ | ⟨g, cap, cur, rfl, hg, hh, hnc, hcm, hsz, ht⟩
  · have : vs = [] := List.length_eq_zero_iff.1 hn
    subst this
    exact ⟨none, 0, 0, rfl, Nat.le_refl _, .inl rfl⟩
  · refine ⟨_, g, cap, rfl, hnc, .inr ⟨0, rfl, fun j u hj => ?_⟩⟩
    rw [cell_of_row w g (0 + j) cur _ (0, 0) hh, Nat.zero_add, ← Array.getElem?_toList]
    rw [← ht, List.getElem?_take] at hj
    split at hj
    · exact hj
    · cases hj
theorem mem_blk {w : World} {g : Nat} {t : TypeId} {l : List UInt8} (h : Blk w g t (l.map bv).toArray) : Mem w g (some ⟨g, 0, none⟩) l := by
  refine .inr ⟨0, rfl, fun j b hj => ?_⟩
  rw [h.cell, Nat.zero_add]
  simp [hj, bv]
theorem memM_two {w : World} {A1 A2 : Option Addr} {q1 q2 c1 c2 g : Nat} {l1 l2 : List UInt8} (hg : g = w.heap.size) (h1 : Mem w q1 A1 l1) (h2 : Mem w q2 A2 l2) (hc1 : l1.length ≤ c1) (hc2 : l2.length ≤ c2) :
    MemM (w.alloc (.cells #[.slice A1 l1.length c1, .slice A2 l2.length c2] 24)) g (some ⟨g, 0, none⟩) [l1, l2] := by
  subst hg
  refine .inr ⟨0, rfl, fun j l hj => ?_⟩
  rcases j with _ | _ | j
  · obtain rfl : l1 = l := by simpa using hj
    exact ⟨A1, q1, c1, by rw [(Blk.new w 24 #[.slice A1 l1.length c1, .slice A2 l2.length c2]).cell]; rfl, h1.alloc _, hc1⟩
  · obtain rfl : l2 = l := by simpa using hj
    exact ⟨A2, q2, c2, by rw [(Blk.new w 24 #[.slice A1 l1.length c1, .slice A2 l2.length c2]).cell]; rfl, h2.alloc _, hc2⟩
  · simp at hj
/-- Two lists of values, laid one after the other, as the argument of Concat. -/
theorem memVV_two {w : World} {A2 : Option Addr} {q2 c2 : Nat} {v1 : Value} {vs : List Value} (ho : v1.oneCell' = true) (h2 : MemV w q2 A2 vs) (hone : ∀ v ∈ vs, v.oneCell' = true) :
    MemVV ((w.alloc (.cells #[v1] 24)).alloc (.cells #[.slice (some ⟨w.heap.size, 0, none⟩) 1 1, .slice A2 vs.length c2] 55)) (w.heap.size + 1) (some ⟨w.heap.size + 1, 0, none⟩) [[v1], vs] := by
  have hb : Below w.heap.size w ((w.alloc (.cells #[v1] 24)).alloc (.cells #[.slice (some ⟨w.heap.size, 0, none⟩) 1 1, .slice A2 vs.length c2] 55)) := ((Below.refl _ w).alloc (Nat.le_refl _) _).alloc (by simp) _
  have hk1 : Blk ((w.alloc (.cells #[v1] 24)).alloc (.cells #[.slice (some ⟨w.heap.size, 0, none⟩) 1 1, .slice A2 vs.length c2] 55)) w.heap.size 24 #[v1] := (Blk.new w _ _).alloc _
  have hk2 : Blk ((w.alloc (.cells #[v1] 24)).alloc (.cells #[.slice (some ⟨w.heap.size, 0, none⟩) 1 1, .slice A2 vs.length c2] 55)) (w.heap.size + 1) 55 #[.slice (some ⟨w.heap.size, 0, none⟩) 1 1, .slice A2 vs.length c2] := by
    have n2 := Blk.new (w.alloc (.cells #[v1] 24)) 55 #[.slice (some ⟨w.heap.size, 0, none⟩) 1 1, .slice A2 vs.length c2]
    simp only [World.size_alloc] at n2
    exact n2
  refine .inr ⟨0, rfl, fun j us hj => ?_⟩
  rcases j with _ | _ | j
  · obtain rfl : [v1] = us := by simpa using hj
    refine ⟨some ⟨w.heap.size, 0, none⟩, w.heap.size, 1, by rw [hk2.cell]; rfl, .inr ⟨0, rfl, fun i v hi => ?_⟩, by simpa using ho⟩
    rw [hk1.cell, Nat.zero_add]
    simpa using hi
  · obtain rfl : vs = us := by simpa using hj
    exact ⟨A2, q2, c2, by rw [hk2.cell]; rfl, h2.below0 hb, hone⟩
  · simp at hj
set_option maxHeartbeats 8000000 in
set_option maxRecDepth 100000 in
theorem clo_any (w : World) (gi go : Nat) (I O : List UInt8) (q : Nat) (A : Option Addr) (n c : Nat) (L : List (List UInt8)) (hK : KAt w) (hI : Blk w gi 67 (I.map bv).toArray) (hO : Blk w go 67 (O.map bv).toArray)
    (hIl : I.length = 64) (hOl : O.length = 64) (hn : n = L.length) (hm : MemM w q A L) (hL : L.length ≤ 1000000) (hs : (L.map List.length).sum ≤ 140737488355200) :
    Calls Tryd.prog 38 #[.slice A n c, .pointer (some ⟨gi, 0, none⟩), .pointer (some ⟨go, 0, none⟩)] w fun e w' => e = .returned (.agg ((digest (O ++ digest (I ++ L.flatten))).map bv).toArray) ∧ Below w.heap.size w w' := by
  subst hn
  have HK := kept hK
  have HI := kept hI
  have HO := kept hO
  have HIL := kept hIl
  have HOL := kept hOl
  obtain ⟨vs, hv, hh⟩ := memM_vals hm
  have HV := kept hv
  have HH := kept hh
  have HS := kept hs
  have HVL := kept hh.1
  have HLL := kept hL
  clear hK hI hO hIl hOl hm hv hh hs hL
  rw [← HVL.out]
  go_enter Tryd.func38, Tryd.ntmps38
  go_upto_region 1 with fail
  go_name_world W0 hW0
  have HR0 := kept (show Blk W0 w.heap.size 36 (Array.replicate 32 (.int .u8 0)) by rw [← hW0]; exact Blk.new w _ _)
  have HB0 := kept (show Below w.heap.size w W0 by rw [← hW0]; exact (Below.refl _ w).alloc (Nat.le_refl _) _)
  clear hW0
  have hb2 : Below W0.heap.size W0 ((W0.alloc (.cells #[.slice (some ⟨gi, 0, none⟩) 64 64] 24)).alloc (.cells #[.slice (some ⟨W0.heap.size, 0, none⟩) 1 1, .slice A vs.length c] 55)) := ((Below.refl _ W0).alloc (Nat.le_refl _) _).alloc (by simp) _
  have hvv := memVV_two (w := W0) (c2 := c) (v1 := .slice (some ⟨gi, 0, none⟩) 64 64) rfl (HV.out.below0 HB0.out) HH.out.one
  have HCAT := kept (concatM_any _ _ _ 2 2 _ rfl hvv (by simp) (by have := HVL.out; have := HLL.out; simp; omega))
  have HB2 := kept hb2
  clear hvv hb2
  go_wp2_with fail
  refine HCAT.out.mono ?_
  rintro e W1 ⟨v1, rfl, hown1, hb1⟩
  obtain ⟨A1, q1, c1, rfl, hc1, hm1⟩ := hown1.form
  have hb01 := HB2.out.trans (hb1.mono (by simp; omega))
  have HB1 := kept (HB0.out.trans (hb01.mono HB0.out.size))
  have HR1 := kept (HR0.out.below hb01 HR0.out.lt)
  have HK1 := kept (HK.out.below0 HB1.out)
  have HO1 := kept (HO.out.below HB1.out HO.out.lt)
  have hI1 := HI.out.below HB1.out HI.out.lt
  have e1 : [[Value.slice (some ⟨gi, 0, none⟩) 64 64], vs].flatten = [Value.slice (some ⟨gi, 0, none⟩) 64 64] ++ vs := by simp
  rw [e1] at hm1
  have hh1 := hdrs_one (c := 64) (mem_blk hI1) (by rw [HIL.out]; omega)
  rw [HIL.out] at hh1
  have hmm := memM_of hm1 (hh1.append (HH.out.below0 HB1.out))
  have hlen : [[Value.slice (some ⟨gi, 0, none⟩) 64 64], vs].flatten.length = ([I] ++ L).length := by rw [e1, List.length_append, List.length_append, HVL.out]; rfl
  have hsum : (([I] ++ L).map List.length).sum ≤ 140737488355328 := by
    rw [List.map_append, List.sum_append]
    have := HS.out
    simp [HIL.out]
    omega
  have HSUM := kept (ssum_any W1 q1 A1 _ c1 ([I] ++ L) HK1.out hlen hmm (by rw [List.length_append]; have := HLL.out; simp; omega) hsum)
  have e2 : ([I] ++ L).flatten = I ++ L.flatten := by simp
  rw [e2] at HSUM
  obtain ⟨D, hD⟩ : ∃ D, digest (I ++ L.flatten) = D := ⟨_, rfl⟩
  rw [hD] at HSUM
  have hDl : D.length = 32 := by rw [← hD, dig_len]
  have HD := kept hD
  have HDL := kept hDl
  clear hown1 hb1 hb01 hI1 e1 hh1 hmm hlen hsum e2 hm1 hD hDl HB2 HB0 HR0 HCAT hc1
  generalize [[Value.slice (some ⟨gi, 0, none⟩) 64 64], vs].flatten.length = nn at HSUM ⊢
  go_wp2_with fail
  refine HSUM.out.mono ?_
  rintro e W2 ⟨rfl, hb2⟩
  go_upto_region 2 with (refine wpList_store_row rfl 36 _ _ rfl W2.heap.size (D.map bv).toArray rfl rfl 36 (Array.replicate 32 (.int .u8 0)) (Blk.new W2 _ _) (by rw [b32_size]; simp [HDL.out]) (by simp [HDL.out]) (padded_one D) ?_)
  go_name_world W3 hW3
  have hb3 : Below W1.heap.size W1 W3 := by rw [← hW3]; exact below_setRow (hb2.alloc hb2.size _) hb2.size _
  have HD3 := kept (show Blk W3 W2.heap.size 36 (D.map bv).toArray by rw [← hW3]; exact setRow_heap _ _ _ _ _ _ (Blk.new W2 _ _))
  have HB3 := kept (HB1.out.trans (hb3.mono HB1.out.size))
  have HR3 := kept (HR1.out.below hb3 HR1.out.lt)
  have HO3 := kept (HO1.out.below hb3 HO1.out.lt)
  have HK3 := kept (HK.out.below0 HB3.out)
  clear hW3 hb2 hb3 HR1 HO1 HK1 HSUM
  obtain ⟨gD, hgD⟩ : ∃ g, W2.heap.size = g := ⟨_, rfl⟩
  rw [hgD] at HD3
  rw [hgD]
  clear hgD
  go_still_tail 2, (by kernel_rfl)
  change wpList _ _ _ _ _ W3.drew
  have hmm := memM_two (w := W3.drew) (g := W3.drew.heap.size) (c1 := 64) (c2 := 32) rfl (mem_blk HO3.out.drew) (mem_blk HD3.out.drew) (by rw [HOL.out]; omega) (by rw [HDL.out]; omega)
  rw [HOL.out, HDL.out] at hmm
  have hb4 : Below W3.heap.size W3 (W3.drew.alloc (.cells #[.slice (some ⟨go, 0, none⟩) 64 64, .slice (some ⟨gD, 0, none⟩) 32 32] 24)) := ((Below.refl _ W3).drew).alloc (Nat.le_refl _) _
  have HB4 := kept hb4
  have HSUM := kept (ssum_any _ _ _ 2 2 [O, D] (HK3.out.below0 hb4) rfl hmm (by simp) (by simp [HOL.out, HDL.out]))
  rw [show [O, D].flatten = O ++ D by simp] at HSUM
  obtain ⟨E, hE⟩ : ∃ E, digest (O ++ D) = E := ⟨_, rfl⟩
  rw [hE] at HSUM
  have hEl : E.length = 32 := by rw [← hE, dig_len]
  have HE := kept hE
  have HEL := kept hEl
  clear hmm hb4 hE hEl
  go_wp2_with fail
  refine HSUM.out.mono ?_
  rintro e W5 ⟨rfl, hb5⟩
  have hb35 := HB4.out.trans (hb5.mono HB4.out.size)
  have HR5 := kept (HR3.out.below hb35 HR3.out.lt)
  have HB5 := kept (HB3.out.trans (hb35.mono HB3.out.size))
  clear hb5 hb35 HSUM
  go_wp2_with (refine wpList_store_row rfl 36 _ _ rfl w.heap.size (E.map bv).toArray rfl rfl 36 (Array.replicate 32 (.int .u8 0)) HR5.out (by rw [b32_size]; simp [HEL.out]) (by simp [HEL.out]) (padded_one E) ?_)
  exact bodyPost_ret (v := .agg (E.map bv).toArray) (results_cell_row Tryd.results38 _ _ w.heap.size 36 (E.map bv).toArray (0, 0) _ rfl (setRow_heap _ _ _ _ _ _ HR5.out) Tryd.underlying36 rfl (by rw [b32_size]; simp [HEL.out])) rfl ⟨by rw [HD.out, HE.out], below_setRow HB5.out (Nat.le_refl _) _⟩
end Go.Proofs.YtcjbplgjjhenkaaDoor
namespace Go.Proofs.YtcjbplgjjhenkaaDoor
open Go.RowKit
set_option linter.unusedVariables false
set_option linter.unusedSimpArgs false

set_option maxHeartbeats 4000000 in
set_option maxRecDepth 100000 in
theorem msum_any (w : World) (q1 q2 : Nat) (A1 A2 : Option Addr) (n1 n2 c1 c2 : Nat) (k : List UInt8) (L : List (List UInt8)) (hK : KAt w) (hn1 : n1 = k.length) (hm1 : Mem w q1 A1 k) (hc1 : k.length ≤ c1) (hkl : k.length ≤ 140737488355328)
    (hn2 : n2 = L.length) (hm2 : MemM w q2 A2 L) (hL : L.length ≤ 1000000) (hs : (L.map List.length).sum ≤ 140737488355200) :
    Calls Tryd.prog 18 #[.slice A1 n1 c1, .slice A2 n2 c2] w fun e w' => e = .returned (.agg ((hmac k L.flatten).map bv).toArray) ∧ Below w.heap.size w w' := by
  subst hn1
  have hb0 : Below w.heap.size w (w.alloc (.cells (Array.replicate 32 (.int .u8 0)) 36)) := (Below.refl _ w).alloc (Nat.le_refl _) _
  have HCO := kept (coder_any (w.alloc (.cells (Array.replicate 32 (.int .u8 0)) 36)) q1 A1 k.length c1 k (hK.below0 hb0) rfl (hm1.below0 hb0) hc1 hkl)
  have HR0 := kept (Blk.new w 36 (Array.replicate 32 (.int .u8 0)))
  have HB0 := kept hb0
  have HCL := kept (fun (w' : World) (gi go : Nat) (hk : KAt w') (hi : Blk w' gi 67 ((xorB 54 (padK k)).map bv).toArray) (ho : Blk w' go 67 ((xorB 92 (padK k)).map bv).toArray) (hm : MemM w' q2 A2 L) =>
    clo_any w' gi go _ _ q2 A2 n2 c2 L hk hi ho (by rw [xorB_len, padK_len]) (by rw [xorB_len, padK_len]) hn2 hm hL hs)
  have HHM := kept (show digest (xorB 92 (padK k) ++ digest (xorB 54 (padK k) ++ L.flatten)) = hmac k L.flatten from rfl)
  have HML := kept (hmac_len k L.flatten)
  have HK := kept hK
  have HM := kept hm2
  rw [HHM.out] at HCL
  obtain ⟨D, hD⟩ : ∃ D, hmac k L.flatten = D := ⟨_, rfl⟩
  rw [hD] at HCL HML
  rw [hD]
  clear hK hm1 hc1 hkl hn2 hm2 hL hs hb0 hD HHM
  go_enter Tryd.func18, Tryd.ntmps18
  go_wp2_with fail
  refine HCO.out.mono ?_
  rintro e W1 ⟨⟨gi, go, rfl, hgi, hgo, hI, hO⟩, hb1⟩
  have HB1 := kept (HB0.out.trans (hb1.mono HB0.out.size))
  have HR1 := kept (HR0.out.below hb1 HR0.out.lt)
  have HC2 := kept (HCL.out W1 gi go (HK.out.below0 HB1.out) hI hO (HM.out.below0 HB1.out))
  clear hgi hgo hI hO hb1 HCO
  go_wp2_with fail
  refine HC2.out.mono ?_
  rintro e W2 ⟨rfl, hb2⟩
  have HR2 := kept (HR1.out.below hb2 HR1.out.lt)
  have HB2 := kept (HB1.out.trans (hb2.mono HB1.out.size))
  clear hb2 HC2
  go_wp2_with (refine wpList_store_row rfl 36 _ _ rfl w.heap.size (D.map bv).toArray rfl rfl 36 (Array.replicate 32 (.int .u8 0)) HR2.out (by rw [b32_size]; simp [HML.out]) (by simp [HML.out]) (padded_one D) ?_)
  exact bodyPost_ret (v := .agg (D.map bv).toArray) (results_cell_row Tryd.results18 _ _ w.heap.size 36 (D.map bv).toArray (0, 0) _ rfl (setRow_heap _ _ _ _ _ _ HR2.out) Tryd.underlying36 rfl (by rw [b32_size]; simp [HML.out])) rfl ⟨rfl, below_setRow HB2.out (Nat.le_refl _) _⟩
/-- Whether a code is right: its length, and that the code of the bytes begins with it. -/
def chkB (code full : List UInt8) : Bool := decide (16 ≤ code.length ∧ code.length ≤ 32) && sameB code (full.take code.length)
set_option maxHeartbeats 4000000 in
set_option maxRecDepth 100000 in
theorem check_any (w : World) (q1 q2 q3 : Nat) (A1 A2 A3 : Option Addr) (n1 n2 n3 c1 c2 c3 : Nat) (k code : List UInt8) (L : List (List UInt8)) (hK : KAt w) (hn1 : n1 = k.length) (hm1 : Mem w q1 A1 k) (hc1 : k.length ≤ c1) (hkl : k.length ≤ 140737488355328)
    (hn3 : n3 = code.length) (hm3 : Mem w q3 A3 code) (hcl : code.length ≤ 140737488355328)
    (hn2 : n2 = L.length) (hm2 : MemM w q2 A2 L) (hL : L.length ≤ 1000000) (hs : (L.map List.length).sum ≤ 140737488355200) :
    Calls Tryd.prog 23 #[.slice A1 n1 c1, .slice A3 n3 c3, .slice A2 n2 c2] w fun e w' => e = .returned (.bool (chkB code (hmac k L.flatten))) ∧ Below w.heap.size w w' := by
  subst hn3
  have HS := kept (msum_any w q1 q2 A1 A2 n1 n2 c1 c2 k L hK hn1 hm1 hc1 hkl hn2 hm2 hL hs)
  have HML := kept (hmac_len k L.flatten)
  obtain ⟨D, hD⟩ : ∃ D, hmac k L.flatten = D := ⟨_, rfl⟩
  rw [hD] at HS HML
  rw [hD]
  have HM := kept hm3
  have HBOX := kept (fun (w : World) => Blk.new w 36 (Array.replicate 32 (.int .u8 0)))
  clear hK hm1 hc1 hkl hm2 hL hs hD hm3 hn1 hn2
  by_cases h1 : code.length < 16
  · have HCB := kept (show chkB code D = false by unfold chkB; rw [decide_eq_false (by omega)]; rfl)
    have hd : decide ((code.length : Int) < 16) = true := by simp; omega
    go_enter Tryd.func23, Tryd.ntmps23
    go_wp2_with fail
    refine HS.out.mono ?_
    rintro e W1 ⟨rfl, hb1⟩
    have HB1 := kept hb1
    clear hb1 HS
    go_wp2_with (refine wpList_store_row rfl 36 _ _ rfl W1.heap.size (D.map bv).toArray rfl rfl 36 (Array.replicate 32 (.int .u8 0)) (HBOX.out W1) (by rw [b32_size]; simp [HML.out]) (by simp [HML.out]) (padded_one D) ?_)
    go_ret
    exact ⟨congrArg (fun b => Ending.returned (.bool b)) HCB.out.symm, below_setRow (HB1.out.alloc HB1.out.size _) HB1.out.size _⟩
  · by_cases h2 : 32 < code.length
    · have HCB := kept (show chkB code D = false by unfold chkB; rw [decide_eq_false (by omega)]; rfl)
      have hd : decide ((code.length : Int) < 16) = false := by simp; omega
      have hd2 : decide ((32 : Int) < code.length) = true := by simp; omega
      go_enter Tryd.func23, Tryd.ntmps23
      go_wp2_with fail
      refine HS.out.mono ?_
      rintro e W1 ⟨rfl, hb1⟩
      have HB1 := kept hb1
      clear hb1 HS
      go_wp2_with (refine wpList_store_row rfl 36 _ _ rfl W1.heap.size (D.map bv).toArray rfl rfl 36 (Array.replicate 32 (.int .u8 0)) (HBOX.out W1) (by rw [b32_size]; simp [HML.out]) (by simp [HML.out]) (padded_one D) ?_)
      go_ret
      exact ⟨congrArg (fun b => Ending.returned (.bool b)) HCB.out.symm, below_setRow (HB1.out.alloc HB1.out.size _) HB1.out.size _⟩
    · have HCB := kept (show chkB code D = sameB code (D.take code.length) by unfold chkB; rw [decide_eq_true (by omega)]; rfl)
      have hd : decide ((code.length : Int) < 16) = false := by simp; omega
      have hd2 : decide ((32 : Int) < code.length) = false := by simp; omega
      have hp1 : code.length ≤ 32 := by omega
      have hp2 : (0 : Int) ≤ (code.length : Int) := by omega
      go_enter Tryd.func23, Tryd.ntmps23
      go_wp2_with fail
      refine HS.out.mono ?_
      rintro e W1 ⟨rfl, hb1⟩
      have HB1 := kept hb1
      clear hb1 HS
      go_upto_region 2 with (refine wpList_store_row rfl 36 _ _ rfl W1.heap.size (D.map bv).toArray rfl rfl 36 (Array.replicate 32 (.int .u8 0)) (HBOX.out W1) (by rw [b32_size]; simp [HML.out]) (by simp [HML.out]) (padded_one D) ?_)
      go_name_world W2 hW2
      have hb2 : Below W1.heap.size W1 W2 := by rw [← hW2]; exact below_setRow ((Below.refl _ _).alloc (Nat.le_refl _) _) (Nat.le_refl _) _
      have hD2 : Blk W2 W1.heap.size 36 (D.map bv).toArray := by rw [← hW2]; exact setRow_heap _ _ _ _ _ _ (HBOX.out W1)
      have HB2 := kept (HB1.out.trans (hb2.mono HB1.out.size))
      have HEQ := kept (equal_any W2 q3 W1.heap.size A3 _ code.length code.length c3 32 code (D.take code.length) rfl (by rw [List.length_take, HML.out]; omega) hcl (HM.out.below0 HB2.out) ((mem_blk hD2).take code.length))
      clear hW2 hb2 hD2 hd hd2 hp1
      have hp3 : (code.length : Int) ≤ 32 := by omega
      go_wp2_with fail
      refine HEQ.out.mono ?_
      rintro e W3 ⟨rfl, nd, rfl⟩
      go_wp2_with fail
      go_ret
      exact ⟨congrArg (fun b => Ending.returned (.bool b)) HCB.out.symm, below_drewN HB2.out _⟩
end Go.Proofs.YtcjbplgjjhenkaaDoor
