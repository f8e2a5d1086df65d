/-
  The walk of the law ShaLimits.
-/
import Derived.Test.YtgjnmoonceeenaaDoorShaRSum
import Derived.Test.YtgjnmoonceeenaaDoorHOpen
import Derived.Test.YtgjnmoonceeenaaDoorEqArr
import Derived.OrdersHeld
import Derived.Deep.RegionHeld
import Derived.Test.YtgjnmoonceeenaaDoorKeep
namespace Go.Proofs.YtgjnmoonceeenaaDoor.shaLimits
open Go.ChangeShapes Go.WideShapes Go.ChangeAt Go.RowKit
set_option linter.unusedVariables false
set_option linter.unusedSimpArgs false

theorem memM_two {w : World} {A1 A2 : Option Addr} {q1 q2 c1 c2 g : Nat} {l1 l2 : List UInt8} (hg : g = w.heap.size) (h1 : Mem w q1 A1 l1) (h2 : Mem w q2 A2 l2) (hc1 : l1.length ≤ c1) (hc2 : l2.length ≤ c2) :
    MemM (w.alloc (.cells #[.slice A1 l1.length c1, .slice A2 l2.length c2] 24)) g (some ⟨g, 0, none⟩) [l1, l2] := by
  subst hg
  refine .inr ⟨0, rfl, fun j l hj => ?_⟩
  rcases j with _ | _ | j
  · obtain rfl : l1 = l := by simpa using hj
    exact ⟨A1, q1, c1, by rw [(Blk.new w 24 #[.slice A1 l1.length c1, .slice A2 l2.length c2]).cell]; rfl, h1.alloc _, hc1⟩
  · obtain rfl : l2 = l := by simpa using hj
    exact ⟨A2, q2, c2, by rw [(Blk.new w 24 #[.slice A1 l1.length c1, .slice A2 l2.length c2]).cell]; rfl, h2.alloc _, hc2⟩
  · simp at hj
theorem memM_mid {w : World} {A1 : Option Addr} {q1 c1 g : Nat} {l1 : List UInt8} (hg : g = w.heap.size) (h1 : Mem w q1 A1 l1) (hc1 : l1.length ≤ c1) :
    MemM (w.alloc (.cells #[.slice none 0 0, .slice A1 l1.length c1, .slice none 0 0] 24)) g (some ⟨g, 0, none⟩) [[], l1, []] := by
  subst hg
  refine .inr ⟨0, rfl, fun j l hj => ?_⟩
  rcases j with _ | _ | _ | j
  · obtain rfl : [] = l := by simpa using hj
    exact ⟨none, 0, 0, by rw [(Blk.new w 24 #[.slice none 0 0, .slice A1 l1.length c1, .slice none 0 0]).cell]; rfl, .inl rfl, Nat.le_refl _⟩
  · obtain rfl : l1 = l := by simpa using hj
    exact ⟨A1, q1, c1, by rw [(Blk.new w 24 #[.slice none 0 0, .slice A1 l1.length c1, .slice none 0 0]).cell]; rfl, h1.alloc _, hc1⟩
  · obtain rfl : [] = l := by simpa using hj
    exact ⟨none, 0, 0, by rw [(Blk.new w 24 #[.slice none 0 0, .slice A1 l1.length c1, .slice none 0 0]).cell]; rfl, .inl rfl, Nat.le_refl _⟩
  · simp at hj
set_option maxHeartbeats 16000000 in
set_option maxRecDepth 100000 in
theorem walk (w : World) (n : Nat) (cb : UInt8) (hn : n < 256) (hK : KAt w) :
    Calls Tryd.prog 7 #[.int .u8 (n : Int), .int .u8 (cb.toNat : Int)] w fun e w' => e = .returned (.bool true) ∧ Below w.heap.size w w' := by
  obtain ⟨i0, hi0, hz0, hs0, hbb0⟩ := info_parts u8_info
  have HK := kept hK
  clear hK
  have hcb := byte_lt cb
  obtain ⟨k, hk⟩ : ∃ k, 54 + n % 76 = k := ⟨_, rfl⟩
  have hk1 : 54 ≤ k ∧ k < 130 := by omega
  have hks : 54 + (n : Int) % 76 = (k : Int) := by omega
  go_enter Tryd.func7, Tryd.ntmps7
  go_wp2_with fail
  refine (awake_any _ HK.out).mono ?_
  rintro e w1 ⟨rfl, b1⟩
  go_wp2_with fail
  go_loopw [6, 7] (fun v i wr => ∃ (j : Nat) (l : List UInt8), j ≤ k ∧ i = .int .i64 j ∧ Kept (l = List.replicate j cb) ∧ Kept (l.length = j) ∧ Kept (Own wr w.heap.size v l) ∧ Kept (Below w.heap.size w wr)) (fun _ i _ => k - (intOf i).toNat)
  case atStart => exact ⟨0, [], Nat.zero_le _, rfl, kept rfl, kept rfl, kept (Own.nil_ _ _), kept b1⟩
  case round =>
    obtain ⟨j, l, hj, rfl, HLE, HL, HO, HB⟩ := hrel
    rename World => W1
    clear b1
    obtain ⟨A, q, c, rfl, hc, hcm, hm, hform, _⟩ := HO.out.form
    have HF := kept hform
    clear hform
    rw [HL.out] at HO hc
    rw [HL.out]
    have HMB := kept hm
    clear hm
    by_cases hlt : j < k
    · have hm2 : Mem (W1.alloc (.cells #[.int .u8 (cb.toNat : Int)] 5)) W1.heap.size (some ⟨W1.heap.size, 0, none⟩) [cb] := mem_lit rfl
      have hown := HO.out.alloc (.cells #[.int .u8 (cb.toNat : Int)] 5)
      have hbx := HB.out.alloc HB.out.size (.cells #[.int .u8 (cb.toNat : Int)] 5)
      go_wp2_with (first | (at_builtin; refine wpList_append_bytes rfl _ _ 24 rfl w.heap.size i0 Tryd.underlying24 hi0 hz0 hs0 hbb0 (.slice A j c) l rfl hown W1.heap.size _ 1 1 [cb] rfl rfl hm2 (by rw [HL.out]; simp; omega) (by have := hbx.size; exact this) ?_; intro v1 w2 hown1 hg1))
      have hbw2 : Below w.heap.size w w2 := hbx.grown hg1 hbx.size (fun k hk => (World.ownsRow.lt hown k hk).1)
      go_wp2
      go_roundw
      case rel => exact ⟨j + 1, l ++ [cb], by omega, by go_num, kept (by rw [HLE.out, List.replicate_succ']), kept (by rw [List.length_append, HL.out]; rfl), kept hown1, kept hbw2⟩
      case measure => simp [intOf]; omega
    · obtain rfl : j = k := by omega
      have hjl := HL.out
      subst hjl
      have hne : l ≠ [] := by intro e; rw [e] at hk1; simp at hk1
      obtain ⟨_, rfl, _⟩ := HF.out hne
      clear hk hks hj hlt HL HF
      obtain ⟨D, hD⟩ : ∃ D, digest l = D := ⟨_, rfl⟩
      have hDl : D.length = 32 := by rw [← hD, dig_len]
      have HD := kept hD
      have HDL := kept hDl
      clear hD hDl
      have hbA : Below W1.heap.size W1 (W1.alloc (.cells #[.slice (some ⟨q, 0, none⟩) l.length c] 24)) := (Below.refl _ W1).alloc (Nat.le_refl _) _
      have hmm := memM_one (g := W1.heap.size) rfl HMB.out hc
      have hb2 := HB.out.trans (hbA.mono HB.out.size)
      have HSUM := kept (ssum_any _ _ _ 1 1 [l] (HK.out.below0 hb2) rfl hmm (by simp) (by simp; omega))
      rw [show [l].flatten = l by simp, HD.out] at HSUM
      have HMB2 := kept (HMB.out.below0 hbA)
      have HO2 := kept (HO.out.below hbA)
      have HB2 := kept hb2
      clear HMB HO HB hbA hmm hb2
      go_wp2_with fail
      refine HSUM.out.mono ?_
      rintro e W2 ⟨rfl, hb3⟩
      have HMB3 := kept (HMB2.out.below0 hb3)
      have HO3 := kept (HO2.out.below hb3)
      have HB3 := kept (HB2.out.trans (hb3.mono HB2.out.size))
      clear HMB2 HO2 HB2 hb3 HSUM
      go_wp2_with (refine wpList_store_row rfl 26 _ _ rfl W2.heap.size (D.map bv).toArray rfl rfl 26 (Array.replicate 32 (.int .u8 0)) (Blk.new W2 _ _) ?hi2 ?ho (all_oneCell_toArray (oneCell_bv D)) ?_)
      case hi2 => rw [b32_size]; simp [HDL.out]
      case ho => simp [HDL.out]
      go_name_world V hV
      have hqlt : q < W2.heap.size := HMB3.out.lt hne
      have hX : Blk V W2.heap.size 26 (D.map bv).toArray := by
        rw [← hV]
        exact setRow_heap _ _ _ _ _ _ (Blk.new W2 _ _)
      have hVB : Below w.heap.size w V := by
        rw [← hV]
        exact below_setRow (HB3.out.alloc HB3.out.size _) HB3.out.size _
      have hVW : Below W2.heap.size W2 V := by
        rw [← hV]
        exact below_setRow ((Below.refl _ W2).alloc (Nat.le_refl _) _) (Nat.le_refl _) _
      have hVM : Mem V q (some ⟨q, 0, none⟩) l := HMB3.out.below0 hVW
      have hVO : Own V w.heap.size (.slice (some ⟨q, 0, none⟩) l.length c) l := HO3.out.below hVW
      have hqX : ∀ k, Value.ownBlock (.slice (some ⟨q, 0, none⟩) l.length c) = some k → k = q := by
        intro k hk
        injection hk with hk
        exact hk.symm
      have hqb : ∀ k, Value.ownBlock (.slice (some ⟨q, 0, none⟩) l.length c) = some k → w.heap.size ≤ k := fun k hk => (World.ownsRow.lt hVO k hk).1
      obtain ⟨gX, hgX⟩ : ∃ g, W2.heap.size = g := ⟨_, rfl⟩
      rw [hgX] at hX hqlt
      rw [hgX]
      have hSV : (fun w' : World => w'.rangeAt gX 0 (D.map bv) ∧ Below w.heap.size w w' ∧ Mem w' q (some ⟨q, 0, none⟩) l ∧ Blk w' gX 26 (D.map bv).toArray) V.drew :=
        ⟨by have := range_of_blk hX; simpa using this, hVB.drew, hVM, hX⟩
      have hkeep : ∀ w' w'' : World, (w'.rangeAt gX 0 (D.map bv) ∧ Below w.heap.size w w' ∧ Mem w' q (some ⟨q, 0, none⟩) l ∧ Blk w' gX 26 (D.map bv).toArray) → Below w'.heap.size w' w'' → (w''.rangeAt gX 0 (D.map bv) ∧ Below w.heap.size w w'' ∧ Mem w'' q (some ⟨q, 0, none⟩) l ∧ Blk w'' gX 26 (D.map bv).toArray) := by
        intro w' w'' h hb
        have hx := h.2.2.2.below hb h.2.2.2.lt
        exact ⟨by have := range_of_blk hx; simpa using this, h.2.1.trans (hb.mono h.2.1.size), h.2.2.1.below0 hb, hx⟩
      have hkeepA : ∀ w' w'' : World, (w'.rangeAt gX 0 (D.map bv) ∧ Below w.heap.size w w' ∧ Mem w' q (some ⟨q, 0, none⟩) l ∧ Blk w' gX 26 (D.map bv).toArray) → w'.grownBy w'' (Value.ownBlock (.slice (some ⟨q, 0, none⟩) l.length c)) → Mem w'' q (some ⟨q, 0, none⟩) l → (w''.rangeAt gX 0 (D.map bv) ∧ Below w.heap.size w w'' ∧ Mem w'' q (some ⟨q, 0, none⟩) l ∧ Blk w'' gX 26 (D.map bv).toArray) := by
        intro w' w'' h hg hm
        have hx := h.2.2.2.grown hg (fun e => by have := hqX _ e.symm; omega)
        exact ⟨by have := range_of_blk hx; simpa using this, h.2.1.grown hg h.2.1.size hqb, hm, hx⟩
      have HS := kept hSV
      have HKEEP := kept hkeep
      have HKEEPA := kept hkeepA
      have HOV := kept (show Own V.drew w.heap.size (.slice (some ⟨q, 0, none⟩) l.length c) l from hVO)
      have n26 : (Tryd.prog.info? 26).map (·.size) = some (D.map bv).length := by rw [b32_size, List.length_map, HDL.out]
      have hg26 : Tryd.prog.eqGuardType Tryd.prog.depth 26 = false := by kernel_rfl
      obtain ⟨D1, hD1⟩ : ∃ D, digest (l ++ [cb]) = D := ⟨_, rfl⟩
      have hD1l : D1.length = 32 := by rw [← hD1, dig_len]
      have heq0 : ∀ w', (binOp .eql 26 (.agg (D.map bv).toArray) (.agg (D.map bv).toArray)).run Tryd.prog w' = .ok (.bool true) w' := run_eql_arr_same _ _ 32 Tryd.underlying26 .u8 Tryd.underlying5 u8_size (D.map bv).toArray .u8 (fun i => ((D.getD i 0).toNat : Int)) (fun i hi => by rw [gA_list, HDL.out, gA_at _ _ hi]; rfl)
      have heq1 : ∀ w', (binOp .eql 26 (.agg (D1.map bv).toArray) (.agg (D1.map bv).toArray)).run Tryd.prog w' = .ok (.bool true) w' := run_eql_arr_same _ _ 32 Tryd.underlying26 .u8 Tryd.underlying5 u8_size (D1.map bv).toArray .u8 (fun i => ((D1.getD i 0).toNat : Int)) (fun i hi => by rw [gA_list, hD1l, gA_at _ _ hi]; rfl)
      have HD1 := kept hD1
      have hl130 : l.length ≤ 200 := by omega
      have HSUMB := kept (fun (w' : World) (g : Nat) (hk : KAt w') (hm : MemM w' g (some ⟨g, 0, none⟩) [l, [cb]]) => ssum_any w' g (some ⟨g, 0, none⟩) 2 2 [l, [cb]] hk rfl hm (by simp) (by simp; omega))
      rw [show [l, [cb]].flatten = l ++ [cb] by simp, HD1.out] at HSUMB
      have HSUMC := kept (fun (w' : World) (g : Nat) (hk : KAt w') (hm : MemM w' g (some ⟨g, 0, none⟩) [[], l, []]) => ssum_any w' g (some ⟨g, 0, none⟩) 3 3 [[], l, []] hk rfl hm (by simp) (by simp; omega))
      rw [show [[], l, []].flatten = l by simp, HD.out] at HSUMC
      have HR0 := kept (fun (w' : World) (hm : Mem w' q (some ⟨q, 0, none⟩) l) => rsum_any w' q (some ⟨q, 0, none⟩) l.length c l rfl hm (by omega))
      rw [HD.out] at HR0
      have HR1 := kept (fun (w' : World) (q' : Nat) (A' : Option Addr) (c' : Nat) (hm : Mem w' q' A' (l ++ [cb])) => rsum_any w' q' A' (l.length + 1) c' (l ++ [cb]) (by simp) hm (by simp; omega))
      rw [HD1.out] at HR1
      clear hSV hkeep hkeepA hV hX hVB hVW hVM hVO hqX hqb HMB3 HO3 HB3 hgX hD1 hD1l hk1 HLE
      refine wp_region_held_drew (S := fun w' : World => w'.rangeAt gX 0 (D.map bv) ∧ Below w.heap.size w w' ∧ Mem w' q (some ⟨q, 0, none⟩) l ∧ Blk w' gX 26 (D.map bv).toArray) (by kernel_rfl) HS.out (fun _ => ?_)
      refine wpAnyH_take (i := 1) (v := ?_) rfl (by kernel_rfl) (by kernel_rfl) (by kernel_rfl) (fun _ _ _ h => h) (Or.inl ⟨by rfl, ?_⟩) HS.out ?_
      rotate_left
      · intro w _; go_simp; with_reducible rfl
      try simp only [Act.put, List.getElem_toArray, List.getElem_cons_zero, List.getElem_cons_succ, List.setIfInBounds_toArray, List.set_cons_zero, List.set_cons_succ]
      refine wpAnyH_take (i := 0) (v := _) rfl (by kernel_rfl) (by kernel_rfl) (by kernel_rfl) (fun _ _ _ h => h) (yieldsIf_load_mid (by rfl) 26 (.tmp 8) rfl gX 0 rfl (D.map bv) _ (fun w' h => h.1) Tryd.underlying26 rfl n26) HS.out ?_
      try simp only [Act.put, List.getElem_toArray, List.getElem_cons_zero, List.getElem_cons_succ, List.setIfInBounds_toArray, List.set_cons_zero, List.set_cons_succ]
      refine wpAnyH_ready (rs := [2]) (by kernel_rfl) (by simp) ?_
      refine AllReadyH.cons rfl (fun K hK => ?_) AllReadyH.nil
      go_simp
      refine (HR0.out V.drew HS.out.2.2.1).mono ?_
      rintro e Y1 ⟨rfl, hb1⟩
      have S_2 := kept (HKEEP.out _ _ HS.out hb1)
      have O_3 := kept (HOV.out.below hb1)
      refine hK.out _ _ S_2.out (fun _ => ?_)
      clear hK K
      try simp only [Act.put, List.getElem_toArray, List.getElem_cons_zero, List.getElem_cons_succ, List.setIfInBounds_toArray, List.set_cons_zero, List.set_cons_succ]
      refine wpAnyH_ready (rs := [3]) (by kernel_rfl) (by simp) ?_
      refine AllReadyH.cons rfl (fun K hK => ?_) AllReadyH.nil
      go_simp
      refine hK.out _ _ S_2.out (fun _ => ?_)
      clear hK K
      try simp only [Act.put, List.getElem_toArray, List.getElem_cons_zero, List.getElem_cons_succ, List.setIfInBounds_toArray, List.set_cons_zero, List.set_cons_succ]
      refine wpAnyH_ready (rs := [4]) (by kernel_rfl) (by simp) ?_
      refine AllReadyH.cons rfl (fun K hK => ?_) AllReadyH.nil
      go_simp
      refine hK.out _ _ S_2.out (fun _ => ?_)
      clear hK K
      try simp only [Act.put, List.getElem_toArray, List.getElem_cons_zero, List.getElem_cons_succ, List.setIfInBounds_toArray, List.set_cons_zero, List.set_cons_succ]
      refine wpAnyH_take (i := 5) (v := ?_) rfl (by kernel_rfl) (by kernel_rfl) (by kernel_rfl) (fun _ _ _ h => h) (Or.inl ⟨by rfl, ?_⟩) S_2.out ?_
      rotate_left
      · intro w _; go_simp; with_reducible rfl
      try simp only [Act.put, List.getElem_toArray, List.getElem_cons_zero, List.getElem_cons_succ, List.setIfInBounds_toArray, List.set_cons_zero, List.set_cons_succ]
      refine wpAnyH_take (i := 6) (v := ?_) rfl (by kernel_rfl) (by kernel_rfl) (by kernel_rfl) (fun _ _ _ h => h) (Or.inl ⟨by rfl, ?_⟩) S_2.out ?_
      rotate_left
      · intro w _; go_simp; with_reducible rfl
      try simp only [Act.put, List.getElem_toArray, List.getElem_cons_zero, List.getElem_cons_succ, List.setIfInBounds_toArray, List.set_cons_zero, List.set_cons_succ]
      refine wpAnyH_take (i := 10) (v := ?_) rfl (by kernel_rfl) (by kernel_rfl) (by kernel_rfl) (fun _ _ _ h => h) (Or.inl ⟨by rfl, ?_⟩) S_2.out ?_
      rotate_left
      · intro w _; go_simp; with_reducible rfl
      try simp only [Act.put, List.getElem_toArray, List.getElem_cons_zero, List.getElem_cons_succ, List.setIfInBounds_toArray, List.set_cons_zero, List.set_cons_succ]
      refine wpAnyH_take (i := 11) (v := ?_) rfl (by kernel_rfl) (by kernel_rfl) (by kernel_rfl) (fun _ _ _ h => h) (Or.inl ⟨by rfl, ?_⟩) S_2.out ?_
      rotate_left
      · intro w _; go_simp; with_reducible rfl
      try simp only [Act.put, List.getElem_toArray, List.getElem_cons_zero, List.getElem_cons_succ, List.setIfInBounds_toArray, List.set_cons_zero, List.set_cons_succ]
      refine wpAnyH_ready (rs := [7, 12]) (by kernel_rfl) (by simp) ?_
      refine AllReadyH.cons rfl (fun K hK => ?_) (AllReadyH.cons rfl (fun K hK => ?_) AllReadyH.nil)
      · go_simp
        have hba4 : Below Y1.heap.size Y1 (Y1.alloc (.cells #[.int .u8 (cb.toNat : Int)] 5)) := (Below.refl _ Y1).alloc (Nat.le_refl _) _
        have NM7_4 := kept (show Mem (Y1.alloc (.cells #[.int .u8 (cb.toNat : Int)] 5)) Y1.heap.size (some ⟨Y1.heap.size, 0, none⟩) [cb] from mem_lit rfl)
        have S_5 := kept (HKEEP.out _ _ S_2.out hba4)
        have O_6 := kept (O_3.out.below hba4)
        refine hK.out _ _ S_5.out (fun _ => ?_)
        clear hK K
        try simp only [Act.put, List.getElem_toArray, List.getElem_cons_zero, List.getElem_cons_succ, List.setIfInBounds_toArray, List.set_cons_zero, List.set_cons_succ]
        obtain ⟨X4, hX4⟩ : ∃ W, Y1.alloc (.cells #[.int .u8 (cb.toNat : Int)] 5) = W := ⟨_, rfl⟩
        obtain ⟨gM7, hgM7⟩ : ∃ g, Y1.heap.size = g := ⟨_, rfl⟩
        rw [hX4] at S_5
        rw [hX4] at O_6
        rw [hX4] at NM7_4
        rw [hgM7] at NM7_4
        rw [hX4, hgM7]
        clear hX4 hgM7 hba4
        refine wpAnyH_ready (rs := [8, 12]) (by kernel_rfl) (by simp) ?_
        refine AllReadyH.cons rfl (fun K hK => ?_) (AllReadyH.cons rfl (fun K hK => ?_) AllReadyH.nil)
        · go_simp
          have hba7 : Below X4.heap.size X4 (X4.alloc (.cells #[.slice (some ⟨q, 0, none⟩) l.length c, .slice (some ⟨gM7, 0, none⟩) 1 1] 24)) := (Below.refl _ X4).alloc (Nat.le_refl _) _
          have NM8_7 := kept (show MemM (X4.alloc (.cells #[.slice (some ⟨q, 0, none⟩) l.length c, .slice (some ⟨gM7, 0, none⟩) 1 1] 24)) X4.heap.size (some ⟨X4.heap.size, 0, none⟩) [l, [cb]] from memM_two (w := X4) (g := X4.heap.size) (c1 := c) (c2 := 1) rfl S_5.out.2.2.1 NM7_4.out hc (by simp))
          have S_8 := kept (HKEEP.out _ _ S_5.out hba7)
          have O_9 := kept (O_6.out.below hba7)
          have M7_10 := kept (NM7_4.out.below0 hba7)
          refine hK.out _ _ S_8.out (fun _ => ?_)
          clear hK K
          try simp only [Act.put, List.getElem_toArray, List.getElem_cons_zero, List.getElem_cons_succ, List.setIfInBounds_toArray, List.set_cons_zero, List.set_cons_succ]
          obtain ⟨X7, hX7⟩ : ∃ W, X4.alloc (.cells #[.slice (some ⟨q, 0, none⟩) l.length c, .slice (some ⟨gM7, 0, none⟩) 1 1] 24) = W := ⟨_, rfl⟩
          obtain ⟨gM8, hgM8⟩ : ∃ g, X4.heap.size = g := ⟨_, rfl⟩
          rw [hX7] at S_8
          rw [hX7] at O_9
          rw [hX7] at M7_10
          rw [hX7] at NM8_7
          rw [hgM8] at NM8_7
          rw [hX7, hgM8]
          clear hX7 hgM8 hba7
          refine wpAnyH_ready (rs := [9, 12]) (by kernel_rfl) (by simp) ?_
          refine AllReadyH.cons rfl (fun K hK => ?_) (AllReadyH.cons rfl (fun K hK => ?_) AllReadyH.nil)
          · go_simp
            refine (HSUMB.out X7 gM8 (HK.out.below0 S_8.out.2.1) NM8_7.out).mono ?_
            rintro e Y11 ⟨rfl, hb11⟩
            have S_12 := kept (HKEEP.out _ _ S_8.out hb11)
            have O_13 := kept (O_9.out.below hb11)
            refine hK.out _ _ S_12.out (fun _ => ?_)
            clear hK K
            try simp only [Act.put, List.getElem_toArray, List.getElem_cons_zero, List.getElem_cons_succ, List.setIfInBounds_toArray, List.set_cons_zero, List.set_cons_succ]
            refine wpAnyH_ready (rs := [12]) (by kernel_rfl) (by simp) ?_
            refine AllReadyH.cons rfl (fun K hK => ?_) AllReadyH.nil
            go_simp
            have hba14 : Below Y11.heap.size Y11 (Y11.alloc (.cells #[.int .u8 (cb.toNat : Int)] 5)) := (Below.refl _ Y11).alloc (Nat.le_refl _) _
            have NM12_14 := kept (show Mem (Y11.alloc (.cells #[.int .u8 (cb.toNat : Int)] 5)) Y11.heap.size (some ⟨Y11.heap.size, 0, none⟩) [cb] from mem_lit rfl)
            have S_15 := kept (HKEEP.out _ _ S_12.out hba14)
            have O_16 := kept (O_13.out.below hba14)
            refine hK.out _ _ S_15.out (fun _ => ?_)
            clear hK K
            try simp only [Act.put, List.getElem_toArray, List.getElem_cons_zero, List.getElem_cons_succ, List.setIfInBounds_toArray, List.set_cons_zero, List.set_cons_succ]
            obtain ⟨X14, hX14⟩ : ∃ W, Y11.alloc (.cells #[.int .u8 (cb.toNat : Int)] 5) = W := ⟨_, rfl⟩
            obtain ⟨gM12, hgM12⟩ : ∃ g, Y11.heap.size = g := ⟨_, rfl⟩
            rw [hX14] at S_15
            rw [hX14] at O_16
            rw [hX14] at NM12_14
            rw [hgM12] at NM12_14
            rw [hX14, hgM12]
            clear hX14 hgM12 hba14
            refine wpAnyH_ready (rs := [13]) (by kernel_rfl) (by simp) ?_
            refine AllReadyH.cons rfl (fun K hK => ?_) AllReadyH.nil
            refine step_append_keep (by rfl) (.tmp 37) (.tmp 39) 24 rfl w.heap.size i0 Tryd.underlying24 hi0 hz0 hs0 hbb0 (some ⟨q, 0, none⟩) l.length c l rfl O_16.out q S_15.out.2.2.1 gM12 ⟨gM12, 0, none⟩ 1 1 [cb] rfl rfl NM12_14.out (by simp; omega) S_15.out.2.1.size ?_
            intro v13 Z17 hown13 hg13 hm13
            have S_17 := kept (HKEEPA.out _ _ S_15.out hg13 hm13)
            obtain ⟨A13, q13, c13, rfl, _, _, hmm13, hf13, _⟩ := hown13.form
            obtain ⟨_, rfl, _⟩ := hf13 (by simp)
            have M13_17 := kept hmm13
            clear hown13 hg13 hm13 hmm13 hf13
            have hl13 : (l ++ [cb]).length = l.length + 1 := by simp
            refine hK.out _ _ S_17.out (fun _ => ?_)
            clear hK K
            try simp only [Act.put, List.getElem_toArray, List.getElem_cons_zero, List.getElem_cons_succ, List.setIfInBounds_toArray, List.set_cons_zero, List.set_cons_succ]
            refine wpAnyH_ready (rs := [14]) (by kernel_rfl) (by simp) ?_
            refine AllReadyH.cons rfl (fun K hK => ?_) AllReadyH.nil
            go_simp
            refine (HR1.out Z17 q13 (some ⟨q13, 0, none⟩) c13 M13_17.out).mono ?_
            rintro e Y18 ⟨rfl, hb18⟩
            have S_19 := kept (HKEEP.out _ _ S_17.out hb18)
            refine hK.out _ _ S_19.out (fun _ => ?_)
            clear hK K
            try simp only [Act.put, List.getElem_toArray, List.getElem_cons_zero, List.getElem_cons_succ, List.setIfInBounds_toArray, List.set_cons_zero, List.set_cons_succ]
            refine wpAnyH_ready (rs := [15]) (by kernel_rfl) (by simp) ?_
            refine AllReadyH.cons rfl (fun K hK => ?_) AllReadyH.nil
            go_simp
            refine hK.out _ _ S_19.out (fun _ => ?_)
            clear hK K
            try simp only [Act.put, List.getElem_toArray, List.getElem_cons_zero, List.getElem_cons_succ, List.setIfInBounds_toArray, List.set_cons_zero, List.set_cons_succ]
            refine wpAnyH_ready (rs := [16]) (by kernel_rfl) (by simp) ?_
            refine AllReadyH.cons rfl (fun K hK => ?_) AllReadyH.nil
            go_simp
            refine hK.out _ _ S_19.out (fun _ => ?_)
            clear hK K
            try simp only [Act.put, List.getElem_toArray, List.getElem_cons_zero, List.getElem_cons_succ, List.setIfInBounds_toArray, List.set_cons_zero, List.set_cons_succ]
            refine wpAnyH_ready (rs := [17]) (by kernel_rfl) (by simp) ?_
            refine AllReadyH.cons rfl (fun K hK => ?_) AllReadyH.nil
            go_simp
            refine hK.out _ _ S_19.out (fun _ => ?_)
            clear hK K
            try simp only [Act.put, List.getElem_toArray, List.getElem_cons_zero, List.getElem_cons_succ, List.setIfInBounds_toArray, List.set_cons_zero, List.set_cons_succ]
            refine wpAnyH_take (i := 18) (v := ?_) rfl (by kernel_rfl) (by kernel_rfl) (by kernel_rfl) (fun _ _ _ h => h) (Or.inl ⟨by rfl, ?_⟩) S_19.out ?_
            rotate_left
            · intro w _; go_simp; with_reducible rfl
            try simp only [Act.put, List.getElem_toArray, List.getElem_cons_zero, List.getElem_cons_succ, List.setIfInBounds_toArray, List.set_cons_zero, List.set_cons_succ]
            refine wpAnyH_take (i := 21) (v := _) rfl (by kernel_rfl) (by kernel_rfl) (by kernel_rfl) (fun _ _ _ h => h) (yieldsIf_load_mid (by rfl) 26 (.tmp 8) rfl gX 0 rfl (D.map bv) _ (fun w' h => h.1) Tryd.underlying26 rfl n26) S_19.out ?_
            try simp only [Act.put, List.getElem_toArray, List.getElem_cons_zero, List.getElem_cons_succ, List.setIfInBounds_toArray, List.set_cons_zero, List.set_cons_succ]
            refine wpAnyH_ready (rs := [19]) (by kernel_rfl) (by simp) ?_
            refine AllReadyH.cons rfl (fun K hK => ?_) AllReadyH.nil
            go_simp
            have hba20 : Below Y18.heap.size Y18 (Y18.alloc (.cells #[.slice none 0 0, .slice (some ⟨q, 0, none⟩) l.length c, .slice none 0 0] 24)) := (Below.refl _ Y18).alloc (Nat.le_refl _) _
            have NM19_20 := kept (memM_mid (w := Y18) (g := Y18.heap.size) rfl S_19.out.2.2.1 hc)
            have S_21 := kept (HKEEP.out _ _ S_19.out hba20)
            refine hK.out _ _ S_21.out (fun _ => ?_)
            clear hK K
            try simp only [Act.put, List.getElem_toArray, List.getElem_cons_zero, List.getElem_cons_succ, List.setIfInBounds_toArray, List.set_cons_zero, List.set_cons_succ]
            obtain ⟨X20, hX20⟩ : ∃ W, Y18.alloc (.cells #[.slice none 0 0, .slice (some ⟨q, 0, none⟩) l.length c, .slice none 0 0] 24) = W := ⟨_, rfl⟩
            obtain ⟨gM19, hgM19⟩ : ∃ g, Y18.heap.size = g := ⟨_, rfl⟩
            rw [hX20] at S_21
            rw [hX20] at NM19_20
            rw [hgM19] at NM19_20
            rw [hX20, hgM19]
            clear hX20 hgM19 hba20
            refine wpAnyH_ready (rs := [20]) (by kernel_rfl) (by simp) ?_
            refine AllReadyH.cons rfl (fun K hK => ?_) AllReadyH.nil
            go_simp
            refine (HSUMC.out X20 gM19 (HK.out.below0 S_21.out.2.1) NM19_20.out).mono ?_
            rintro e Y22 ⟨rfl, hb22⟩
            have S_23 := kept (HKEEP.out _ _ S_21.out hb22)
            refine hK.out _ _ S_23.out (fun _ => ?_)
            clear hK K
            try simp only [Act.put, List.getElem_toArray, List.getElem_cons_zero, List.getElem_cons_succ, List.setIfInBounds_toArray, List.set_cons_zero, List.set_cons_succ]
            refine wpAnyH_ready (rs := [22]) (by kernel_rfl) (by simp) ?_
            refine AllReadyH.cons rfl (fun K hK => ?_) AllReadyH.nil
            go_simp
            refine hK.out _ _ S_23.out (fun _ => ?_)
            clear hK K
            try simp only [Act.put, List.getElem_toArray, List.getElem_cons_zero, List.getElem_cons_succ, List.setIfInBounds_toArray, List.set_cons_zero, List.set_cons_succ]
            refine wpAnyH_ready (rs := [23]) (by kernel_rfl) (by simp) ?_
            refine AllReadyH.cons rfl (fun K hK => ?_) AllReadyH.nil
            go_simp
            refine hK.out _ _ S_23.out (fun _ => ?_)
            clear hK K
            try simp only [Act.put, List.getElem_toArray, List.getElem_cons_zero, List.getElem_cons_succ, List.setIfInBounds_toArray, List.set_cons_zero, List.set_cons_succ]
            refine wpAnyH_ready (rs := [24]) (by kernel_rfl) (by simp) ?_
            refine AllReadyH.cons rfl (fun K hK => ?_) AllReadyH.nil
            go_simp
            refine hK.out _ _ S_23.out (fun _ => ?_)
            clear hK K
            try simp only [Act.put, List.getElem_toArray, List.getElem_cons_zero, List.getElem_cons_succ, List.setIfInBounds_toArray, List.set_cons_zero, List.set_cons_succ]
            refine wpAnyH_done (by kernel_rfl) ?_ _
            go_wp2
            go_ret
            exact ⟨rfl, S_23.out.2.1⟩
          · go_simp
            have hba11 : Below X7.heap.size X7 (X7.alloc (.cells #[.int .u8 (cb.toNat : Int)] 5)) := (Below.refl _ X7).alloc (Nat.le_refl _) _
            have NM12_11 := kept (show Mem (X7.alloc (.cells #[.int .u8 (cb.toNat : Int)] 5)) X7.heap.size (some ⟨X7.heap.size, 0, none⟩) [cb] from mem_lit rfl)
            have S_12 := kept (HKEEP.out _ _ S_8.out hba11)
            have O_13 := kept (O_9.out.below hba11)
            have M7_14 := kept (M7_10.out.below0 hba11)
            have M8_15 := kept (NM8_7.out.below0 hba11)
            refine hK.out _ _ S_12.out (fun _ => ?_)
            clear hK K
            try simp only [Act.put, List.getElem_toArray, List.getElem_cons_zero, List.getElem_cons_succ, List.setIfInBounds_toArray, List.set_cons_zero, List.set_cons_succ]
            obtain ⟨X11, hX11⟩ : ∃ W, X7.alloc (.cells #[.int .u8 (cb.toNat : Int)] 5) = W := ⟨_, rfl⟩
            obtain ⟨gM12, hgM12⟩ : ∃ g, X7.heap.size = g := ⟨_, rfl⟩
            rw [hX11] at S_12
            rw [hX11] at O_13
            rw [hX11] at M7_14
            rw [hX11] at M8_15
            rw [hX11] at NM12_11
            rw [hgM12] at NM12_11
            rw [hX11, hgM12]
            clear hX11 hgM12 hba11
            refine wpAnyH_ready (rs := [9]) (by kernel_rfl) (by simp) ?_
            refine AllReadyH.cons rfl (fun K hK => ?_) AllReadyH.nil
            go_simp
            refine (HSUMB.out X11 gM8 (HK.out.below0 S_12.out.2.1) M8_15.out).mono ?_
            rintro e Y16 ⟨rfl, hb16⟩
            have S_17 := kept (HKEEP.out _ _ S_12.out hb16)
            have O_18 := kept (O_13.out.below hb16)
            have M12_19 := kept (NM12_11.out.below0 hb16)
            refine hK.out _ _ S_17.out (fun _ => ?_)
            clear hK K
            try simp only [Act.put, List.getElem_toArray, List.getElem_cons_zero, List.getElem_cons_succ, List.setIfInBounds_toArray, List.set_cons_zero, List.set_cons_succ]
            refine wpAnyH_ready (rs := [13]) (by kernel_rfl) (by simp) ?_
            refine AllReadyH.cons rfl (fun K hK => ?_) AllReadyH.nil
            refine step_append_keep (by rfl) (.tmp 37) (.tmp 39) 24 rfl w.heap.size i0 Tryd.underlying24 hi0 hz0 hs0 hbb0 (some ⟨q, 0, none⟩) l.length c l rfl O_18.out q S_17.out.2.2.1 gM12 ⟨gM12, 0, none⟩ 1 1 [cb] rfl rfl M12_19.out (by simp; omega) S_17.out.2.1.size ?_
            intro v13 Z20 hown13 hg13 hm13
            have S_20 := kept (HKEEPA.out _ _ S_17.out hg13 hm13)
            obtain ⟨A13, q13, c13, rfl, _, _, hmm13, hf13, _⟩ := hown13.form
            obtain ⟨_, rfl, _⟩ := hf13 (by simp)
            have M13_20 := kept hmm13
            clear hown13 hg13 hm13 hmm13 hf13
            have hl13 : (l ++ [cb]).length = l.length + 1 := by simp
            refine hK.out _ _ S_20.out (fun _ => ?_)
            clear hK K
            try simp only [Act.put, List.getElem_toArray, List.getElem_cons_zero, List.getElem_cons_succ, List.setIfInBounds_toArray, List.set_cons_zero, List.set_cons_succ]
            refine wpAnyH_ready (rs := [14]) (by kernel_rfl) (by simp) ?_
            refine AllReadyH.cons rfl (fun K hK => ?_) AllReadyH.nil
            go_simp
            refine (HR1.out Z20 q13 (some ⟨q13, 0, none⟩) c13 M13_20.out).mono ?_
            rintro e Y21 ⟨rfl, hb21⟩
            have S_22 := kept (HKEEP.out _ _ S_20.out hb21)
            refine hK.out _ _ S_22.out (fun _ => ?_)
            clear hK K
            try simp only [Act.put, List.getElem_toArray, List.getElem_cons_zero, List.getElem_cons_succ, List.setIfInBounds_toArray, List.set_cons_zero, List.set_cons_succ]
            refine wpAnyH_ready (rs := [15]) (by kernel_rfl) (by simp) ?_
            refine AllReadyH.cons rfl (fun K hK => ?_) AllReadyH.nil
            go_simp
            refine hK.out _ _ S_22.out (fun _ => ?_)
            clear hK K
            try simp only [Act.put, List.getElem_toArray, List.getElem_cons_zero, List.getElem_cons_succ, List.setIfInBounds_toArray, List.set_cons_zero, List.set_cons_succ]
            refine wpAnyH_ready (rs := [16]) (by kernel_rfl) (by simp) ?_
            refine AllReadyH.cons rfl (fun K hK => ?_) AllReadyH.nil
            go_simp
            refine hK.out _ _ S_22.out (fun _ => ?_)
            clear hK K
            try simp only [Act.put, List.getElem_toArray, List.getElem_cons_zero, List.getElem_cons_succ, List.setIfInBounds_toArray, List.set_cons_zero, List.set_cons_succ]
            refine wpAnyH_ready (rs := [17]) (by kernel_rfl) (by simp) ?_
            refine AllReadyH.cons rfl (fun K hK => ?_) AllReadyH.nil
            go_simp
            refine hK.out _ _ S_22.out (fun _ => ?_)
            clear hK K
            try simp only [Act.put, List.getElem_toArray, List.getElem_cons_zero, List.getElem_cons_succ, List.setIfInBounds_toArray, List.set_cons_zero, List.set_cons_succ]
            refine wpAnyH_take (i := 18) (v := ?_) rfl (by kernel_rfl) (by kernel_rfl) (by kernel_rfl) (fun _ _ _ h => h) (Or.inl ⟨by rfl, ?_⟩) S_22.out ?_
            rotate_left
            · intro w _; go_simp; with_reducible rfl
            try simp only [Act.put, List.getElem_toArray, List.getElem_cons_zero, List.getElem_cons_succ, List.setIfInBounds_toArray, List.set_cons_zero, List.set_cons_succ]
            refine wpAnyH_take (i := 21) (v := _) rfl (by kernel_rfl) (by kernel_rfl) (by kernel_rfl) (fun _ _ _ h => h) (yieldsIf_load_mid (by rfl) 26 (.tmp 8) rfl gX 0 rfl (D.map bv) _ (fun w' h => h.1) Tryd.underlying26 rfl n26) S_22.out ?_
            try simp only [Act.put, List.getElem_toArray, List.getElem_cons_zero, List.getElem_cons_succ, List.setIfInBounds_toArray, List.set_cons_zero, List.set_cons_succ]
            refine wpAnyH_ready (rs := [19]) (by kernel_rfl) (by simp) ?_
            refine AllReadyH.cons rfl (fun K hK => ?_) AllReadyH.nil
            go_simp
            have hba23 : Below Y21.heap.size Y21 (Y21.alloc (.cells #[.slice none 0 0, .slice (some ⟨q, 0, none⟩) l.length c, .slice none 0 0] 24)) := (Below.refl _ Y21).alloc (Nat.le_refl _) _
            have NM19_23 := kept (memM_mid (w := Y21) (g := Y21.heap.size) rfl S_22.out.2.2.1 hc)
            have S_24 := kept (HKEEP.out _ _ S_22.out hba23)
            refine hK.out _ _ S_24.out (fun _ => ?_)
            clear hK K
            try simp only [Act.put, List.getElem_toArray, List.getElem_cons_zero, List.getElem_cons_succ, List.setIfInBounds_toArray, List.set_cons_zero, List.set_cons_succ]
            obtain ⟨X23, hX23⟩ : ∃ W, Y21.alloc (.cells #[.slice none 0 0, .slice (some ⟨q, 0, none⟩) l.length c, .slice none 0 0] 24) = W := ⟨_, rfl⟩
            obtain ⟨gM19, hgM19⟩ : ∃ g, Y21.heap.size = g := ⟨_, rfl⟩
            rw [hX23] at S_24
            rw [hX23] at NM19_23
            rw [hgM19] at NM19_23
            rw [hX23, hgM19]
            clear hX23 hgM19 hba23
            refine wpAnyH_ready (rs := [20]) (by kernel_rfl) (by simp) ?_
            refine AllReadyH.cons rfl (fun K hK => ?_) AllReadyH.nil
            go_simp
            refine (HSUMC.out X23 gM19 (HK.out.below0 S_24.out.2.1) NM19_23.out).mono ?_
            rintro e Y25 ⟨rfl, hb25⟩
            have S_26 := kept (HKEEP.out _ _ S_24.out hb25)
            refine hK.out _ _ S_26.out (fun _ => ?_)
            clear hK K
            try simp only [Act.put, List.getElem_toArray, List.getElem_cons_zero, List.getElem_cons_succ, List.setIfInBounds_toArray, List.set_cons_zero, List.set_cons_succ]
            refine wpAnyH_ready (rs := [22]) (by kernel_rfl) (by simp) ?_
            refine AllReadyH.cons rfl (fun K hK => ?_) AllReadyH.nil
            go_simp
            refine hK.out _ _ S_26.out (fun _ => ?_)
            clear hK K
            try simp only [Act.put, List.getElem_toArray, List.getElem_cons_zero, List.getElem_cons_succ, List.setIfInBounds_toArray, List.set_cons_zero, List.set_cons_succ]
            refine wpAnyH_ready (rs := [23]) (by kernel_rfl) (by simp) ?_
            refine AllReadyH.cons rfl (fun K hK => ?_) AllReadyH.nil
            go_simp
            refine hK.out _ _ S_26.out (fun _ => ?_)
            clear hK K
            try simp only [Act.put, List.getElem_toArray, List.getElem_cons_zero, List.getElem_cons_succ, List.setIfInBounds_toArray, List.set_cons_zero, List.set_cons_succ]
            refine wpAnyH_ready (rs := [24]) (by kernel_rfl) (by simp) ?_
            refine AllReadyH.cons rfl (fun K hK => ?_) AllReadyH.nil
            go_simp
            refine hK.out _ _ S_26.out (fun _ => ?_)
            clear hK K
            try simp only [Act.put, List.getElem_toArray, List.getElem_cons_zero, List.getElem_cons_succ, List.setIfInBounds_toArray, List.set_cons_zero, List.set_cons_succ]
            refine wpAnyH_done (by kernel_rfl) ?_ _
            go_wp2
            go_ret
            exact ⟨rfl, S_26.out.2.1⟩
        · go_simp
          have hba7 : Below X4.heap.size X4 (X4.alloc (.cells #[.int .u8 (cb.toNat : Int)] 5)) := (Below.refl _ X4).alloc (Nat.le_refl _) _
          have NM12_7 := kept (show Mem (X4.alloc (.cells #[.int .u8 (cb.toNat : Int)] 5)) X4.heap.size (some ⟨X4.heap.size, 0, none⟩) [cb] from mem_lit rfl)
          have S_8 := kept (HKEEP.out _ _ S_5.out hba7)
          have O_9 := kept (O_6.out.below hba7)
          have M7_10 := kept (NM7_4.out.below0 hba7)
          refine hK.out _ _ S_8.out (fun _ => ?_)
          clear hK K
          try simp only [Act.put, List.getElem_toArray, List.getElem_cons_zero, List.getElem_cons_succ, List.setIfInBounds_toArray, List.set_cons_zero, List.set_cons_succ]
          obtain ⟨X7, hX7⟩ : ∃ W, X4.alloc (.cells #[.int .u8 (cb.toNat : Int)] 5) = W := ⟨_, rfl⟩
          obtain ⟨gM12, hgM12⟩ : ∃ g, X4.heap.size = g := ⟨_, rfl⟩
          rw [hX7] at S_8
          rw [hX7] at O_9
          rw [hX7] at M7_10
          rw [hX7] at NM12_7
          rw [hgM12] at NM12_7
          rw [hX7, hgM12]
          clear hX7 hgM12 hba7
          refine wpAnyH_ready (rs := [8]) (by kernel_rfl) (by simp) ?_
          refine AllReadyH.cons rfl (fun K hK => ?_) AllReadyH.nil
          go_simp
          have hba11 : Below X7.heap.size X7 (X7.alloc (.cells #[.slice (some ⟨q, 0, none⟩) l.length c, .slice (some ⟨gM7, 0, none⟩) 1 1] 24)) := (Below.refl _ X7).alloc (Nat.le_refl _) _
          have NM8_11 := kept (show MemM (X7.alloc (.cells #[.slice (some ⟨q, 0, none⟩) l.length c, .slice (some ⟨gM7, 0, none⟩) 1 1] 24)) X7.heap.size (some ⟨X7.heap.size, 0, none⟩) [l, [cb]] from memM_two (w := X7) (g := X7.heap.size) (c1 := c) (c2 := 1) rfl S_8.out.2.2.1 M7_10.out hc (by simp))
          have S_12 := kept (HKEEP.out _ _ S_8.out hba11)
          have O_13 := kept (O_9.out.below hba11)
          have M7_14 := kept (M7_10.out.below0 hba11)
          have M12_15 := kept (NM12_7.out.below0 hba11)
          refine hK.out _ _ S_12.out (fun _ => ?_)
          clear hK K
          try simp only [Act.put, List.getElem_toArray, List.getElem_cons_zero, List.getElem_cons_succ, List.setIfInBounds_toArray, List.set_cons_zero, List.set_cons_succ]
          obtain ⟨X11, hX11⟩ : ∃ W, X7.alloc (.cells #[.slice (some ⟨q, 0, none⟩) l.length c, .slice (some ⟨gM7, 0, none⟩) 1 1] 24) = W := ⟨_, rfl⟩
          obtain ⟨gM8, hgM8⟩ : ∃ g, X7.heap.size = g := ⟨_, rfl⟩
          rw [hX11] at S_12
          rw [hX11] at O_13
          rw [hX11] at M7_14
          rw [hX11] at M12_15
          rw [hX11] at NM8_11
          rw [hgM8] at NM8_11
          rw [hX11, hgM8]
          clear hX11 hgM8 hba11
          refine wpAnyH_ready (rs := [9]) (by kernel_rfl) (by simp) ?_
          refine AllReadyH.cons rfl (fun K hK => ?_) AllReadyH.nil
          go_simp
          refine (HSUMB.out X11 gM8 (HK.out.below0 S_12.out.2.1) NM8_11.out).mono ?_
          rintro e Y16 ⟨rfl, hb16⟩
          have S_17 := kept (HKEEP.out _ _ S_12.out hb16)
          have O_18 := kept (O_13.out.below hb16)
          have M12_19 := kept (M12_15.out.below0 hb16)
          refine hK.out _ _ S_17.out (fun _ => ?_)
          clear hK K
          try simp only [Act.put, List.getElem_toArray, List.getElem_cons_zero, List.getElem_cons_succ, List.setIfInBounds_toArray, List.set_cons_zero, List.set_cons_succ]
          refine wpAnyH_ready (rs := [13]) (by kernel_rfl) (by simp) ?_
          refine AllReadyH.cons rfl (fun K hK => ?_) AllReadyH.nil
          refine step_append_keep (by rfl) (.tmp 37) (.tmp 39) 24 rfl w.heap.size i0 Tryd.underlying24 hi0 hz0 hs0 hbb0 (some ⟨q, 0, none⟩) l.length c l rfl O_18.out q S_17.out.2.2.1 gM12 ⟨gM12, 0, none⟩ 1 1 [cb] rfl rfl M12_19.out (by simp; omega) S_17.out.2.1.size ?_
          intro v13 Z20 hown13 hg13 hm13
          have S_20 := kept (HKEEPA.out _ _ S_17.out hg13 hm13)
          obtain ⟨A13, q13, c13, rfl, _, _, hmm13, hf13, _⟩ := hown13.form
          obtain ⟨_, rfl, _⟩ := hf13 (by simp)
          have M13_20 := kept hmm13
          clear hown13 hg13 hm13 hmm13 hf13
          have hl13 : (l ++ [cb]).length = l.length + 1 := by simp
          refine hK.out _ _ S_20.out (fun _ => ?_)
          clear hK K
          try simp only [Act.put, List.getElem_toArray, List.getElem_cons_zero, List.getElem_cons_succ, List.setIfInBounds_toArray, List.set_cons_zero, List.set_cons_succ]
          refine wpAnyH_ready (rs := [14]) (by kernel_rfl) (by simp) ?_
          refine AllReadyH.cons rfl (fun K hK => ?_) AllReadyH.nil
          go_simp
          refine (HR1.out Z20 q13 (some ⟨q13, 0, none⟩) c13 M13_20.out).mono ?_
          rintro e Y21 ⟨rfl, hb21⟩
          have S_22 := kept (HKEEP.out _ _ S_20.out hb21)
          refine hK.out _ _ S_22.out (fun _ => ?_)
          clear hK K
          try simp only [Act.put, List.getElem_toArray, List.getElem_cons_zero, List.getElem_cons_succ, List.setIfInBounds_toArray, List.set_cons_zero, List.set_cons_succ]
          refine wpAnyH_ready (rs := [15]) (by kernel_rfl) (by simp) ?_
          refine AllReadyH.cons rfl (fun K hK => ?_) AllReadyH.nil
          go_simp
          refine hK.out _ _ S_22.out (fun _ => ?_)
          clear hK K
          try simp only [Act.put, List.getElem_toArray, List.getElem_cons_zero, List.getElem_cons_succ, List.setIfInBounds_toArray, List.set_cons_zero, List.set_cons_succ]
          refine wpAnyH_ready (rs := [16]) (by kernel_rfl) (by simp) ?_
          refine AllReadyH.cons rfl (fun K hK => ?_) AllReadyH.nil
          go_simp
          refine hK.out _ _ S_22.out (fun _ => ?_)
          clear hK K
          try simp only [Act.put, List.getElem_toArray, List.getElem_cons_zero, List.getElem_cons_succ, List.setIfInBounds_toArray, List.set_cons_zero, List.set_cons_succ]
          refine wpAnyH_ready (rs := [17]) (by kernel_rfl) (by simp) ?_
          refine AllReadyH.cons rfl (fun K hK => ?_) AllReadyH.nil
          go_simp
          refine hK.out _ _ S_22.out (fun _ => ?_)
          clear hK K
          try simp only [Act.put, List.getElem_toArray, List.getElem_cons_zero, List.getElem_cons_succ, List.setIfInBounds_toArray, List.set_cons_zero, List.set_cons_succ]
          refine wpAnyH_take (i := 18) (v := ?_) rfl (by kernel_rfl) (by kernel_rfl) (by kernel_rfl) (fun _ _ _ h => h) (Or.inl ⟨by rfl, ?_⟩) S_22.out ?_
          rotate_left
          · intro w _; go_simp; with_reducible rfl
          try simp only [Act.put, List.getElem_toArray, List.getElem_cons_zero, List.getElem_cons_succ, List.setIfInBounds_toArray, List.set_cons_zero, List.set_cons_succ]
          refine wpAnyH_take (i := 21) (v := _) rfl (by kernel_rfl) (by kernel_rfl) (by kernel_rfl) (fun _ _ _ h => h) (yieldsIf_load_mid (by rfl) 26 (.tmp 8) rfl gX 0 rfl (D.map bv) _ (fun w' h => h.1) Tryd.underlying26 rfl n26) S_22.out ?_
          try simp only [Act.put, List.getElem_toArray, List.getElem_cons_zero, List.getElem_cons_succ, List.setIfInBounds_toArray, List.set_cons_zero, List.set_cons_succ]
          refine wpAnyH_ready (rs := [19]) (by kernel_rfl) (by simp) ?_
          refine AllReadyH.cons rfl (fun K hK => ?_) AllReadyH.nil
          go_simp
          have hba23 : Below Y21.heap.size Y21 (Y21.alloc (.cells #[.slice none 0 0, .slice (some ⟨q, 0, none⟩) l.length c, .slice none 0 0] 24)) := (Below.refl _ Y21).alloc (Nat.le_refl _) _
          have NM19_23 := kept (memM_mid (w := Y21) (g := Y21.heap.size) rfl S_22.out.2.2.1 hc)
          have S_24 := kept (HKEEP.out _ _ S_22.out hba23)
          refine hK.out _ _ S_24.out (fun _ => ?_)
          clear hK K
          try simp only [Act.put, List.getElem_toArray, List.getElem_cons_zero, List.getElem_cons_succ, List.setIfInBounds_toArray, List.set_cons_zero, List.set_cons_succ]
          obtain ⟨X23, hX23⟩ : ∃ W, Y21.alloc (.cells #[.slice none 0 0, .slice (some ⟨q, 0, none⟩) l.length c, .slice none 0 0] 24) = W := ⟨_, rfl⟩
          obtain ⟨gM19, hgM19⟩ : ∃ g, Y21.heap.size = g := ⟨_, rfl⟩
          rw [hX23] at S_24
          rw [hX23] at NM19_23
          rw [hgM19] at NM19_23
          rw [hX23, hgM19]
          clear hX23 hgM19 hba23
          refine wpAnyH_ready (rs := [20]) (by kernel_rfl) (by simp) ?_
          refine AllReadyH.cons rfl (fun K hK => ?_) AllReadyH.nil
          go_simp
          refine (HSUMC.out X23 gM19 (HK.out.below0 S_24.out.2.1) NM19_23.out).mono ?_
          rintro e Y25 ⟨rfl, hb25⟩
          have S_26 := kept (HKEEP.out _ _ S_24.out hb25)
          refine hK.out _ _ S_26.out (fun _ => ?_)
          clear hK K
          try simp only [Act.put, List.getElem_toArray, List.getElem_cons_zero, List.getElem_cons_succ, List.setIfInBounds_toArray, List.set_cons_zero, List.set_cons_succ]
          refine wpAnyH_ready (rs := [22]) (by kernel_rfl) (by simp) ?_
          refine AllReadyH.cons rfl (fun K hK => ?_) AllReadyH.nil
          go_simp
          refine hK.out _ _ S_26.out (fun _ => ?_)
          clear hK K
          try simp only [Act.put, List.getElem_toArray, List.getElem_cons_zero, List.getElem_cons_succ, List.setIfInBounds_toArray, List.set_cons_zero, List.set_cons_succ]
          refine wpAnyH_ready (rs := [23]) (by kernel_rfl) (by simp) ?_
          refine AllReadyH.cons rfl (fun K hK => ?_) AllReadyH.nil
          go_simp
          refine hK.out _ _ S_26.out (fun _ => ?_)
          clear hK K
          try simp only [Act.put, List.getElem_toArray, List.getElem_cons_zero, List.getElem_cons_succ, List.setIfInBounds_toArray, List.set_cons_zero, List.set_cons_succ]
          refine wpAnyH_ready (rs := [24]) (by kernel_rfl) (by simp) ?_
          refine AllReadyH.cons rfl (fun K hK => ?_) AllReadyH.nil
          go_simp
          refine hK.out _ _ S_26.out (fun _ => ?_)
          clear hK K
          try simp only [Act.put, List.getElem_toArray, List.getElem_cons_zero, List.getElem_cons_succ, List.setIfInBounds_toArray, List.set_cons_zero, List.set_cons_succ]
          refine wpAnyH_done (by kernel_rfl) ?_ _
          go_wp2
          go_ret
          exact ⟨rfl, S_26.out.2.1⟩
      · go_simp
        have hba4 : Below Y1.heap.size Y1 (Y1.alloc (.cells #[.int .u8 (cb.toNat : Int)] 5)) := (Below.refl _ Y1).alloc (Nat.le_refl _) _
        have NM12_4 := kept (show Mem (Y1.alloc (.cells #[.int .u8 (cb.toNat : Int)] 5)) Y1.heap.size (some ⟨Y1.heap.size, 0, none⟩) [cb] from mem_lit rfl)
        have S_5 := kept (HKEEP.out _ _ S_2.out hba4)
        have O_6 := kept (O_3.out.below hba4)
        refine hK.out _ _ S_5.out (fun _ => ?_)
        clear hK K
        try simp only [Act.put, List.getElem_toArray, List.getElem_cons_zero, List.getElem_cons_succ, List.setIfInBounds_toArray, List.set_cons_zero, List.set_cons_succ]
        obtain ⟨X4, hX4⟩ : ∃ W, Y1.alloc (.cells #[.int .u8 (cb.toNat : Int)] 5) = W := ⟨_, rfl⟩
        obtain ⟨gM12, hgM12⟩ : ∃ g, Y1.heap.size = g := ⟨_, rfl⟩
        rw [hX4] at S_5
        rw [hX4] at O_6
        rw [hX4] at NM12_4
        rw [hgM12] at NM12_4
        rw [hX4, hgM12]
        clear hX4 hgM12 hba4
        refine wpAnyH_ready (rs := [7]) (by kernel_rfl) (by simp) ?_
        refine AllReadyH.cons rfl (fun K hK => ?_) AllReadyH.nil
        go_simp
        have hba7 : Below X4.heap.size X4 (X4.alloc (.cells #[.int .u8 (cb.toNat : Int)] 5)) := (Below.refl _ X4).alloc (Nat.le_refl _) _
        have NM7_7 := kept (show Mem (X4.alloc (.cells #[.int .u8 (cb.toNat : Int)] 5)) X4.heap.size (some ⟨X4.heap.size, 0, none⟩) [cb] from mem_lit rfl)
        have S_8 := kept (HKEEP.out _ _ S_5.out hba7)
        have O_9 := kept (O_6.out.below hba7)
        have M12_10 := kept (NM12_4.out.below0 hba7)
        refine hK.out _ _ S_8.out (fun _ => ?_)
        clear hK K
        try simp only [Act.put, List.getElem_toArray, List.getElem_cons_zero, List.getElem_cons_succ, List.setIfInBounds_toArray, List.set_cons_zero, List.set_cons_succ]
        obtain ⟨X7, hX7⟩ : ∃ W, X4.alloc (.cells #[.int .u8 (cb.toNat : Int)] 5) = W := ⟨_, rfl⟩
        obtain ⟨gM7, hgM7⟩ : ∃ g, X4.heap.size = g := ⟨_, rfl⟩
        rw [hX7] at S_8
        rw [hX7] at O_9
        rw [hX7] at M12_10
        rw [hX7] at NM7_7
        rw [hgM7] at NM7_7
        rw [hX7, hgM7]
        clear hX7 hgM7 hba7
        refine wpAnyH_ready (rs := [8]) (by kernel_rfl) (by simp) ?_
        refine AllReadyH.cons rfl (fun K hK => ?_) AllReadyH.nil
        go_simp
        have hba11 : Below X7.heap.size X7 (X7.alloc (.cells #[.slice (some ⟨q, 0, none⟩) l.length c, .slice (some ⟨gM7, 0, none⟩) 1 1] 24)) := (Below.refl _ X7).alloc (Nat.le_refl _) _
        have NM8_11 := kept (show MemM (X7.alloc (.cells #[.slice (some ⟨q, 0, none⟩) l.length c, .slice (some ⟨gM7, 0, none⟩) 1 1] 24)) X7.heap.size (some ⟨X7.heap.size, 0, none⟩) [l, [cb]] from memM_two (w := X7) (g := X7.heap.size) (c1 := c) (c2 := 1) rfl S_8.out.2.2.1 NM7_7.out hc (by simp))
        have S_12 := kept (HKEEP.out _ _ S_8.out hba11)
        have O_13 := kept (O_9.out.below hba11)
        have M12_14 := kept (M12_10.out.below0 hba11)
        have M7_15 := kept (NM7_7.out.below0 hba11)
        refine hK.out _ _ S_12.out (fun _ => ?_)
        clear hK K
        try simp only [Act.put, List.getElem_toArray, List.getElem_cons_zero, List.getElem_cons_succ, List.setIfInBounds_toArray, List.set_cons_zero, List.set_cons_succ]
        obtain ⟨X11, hX11⟩ : ∃ W, X7.alloc (.cells #[.slice (some ⟨q, 0, none⟩) l.length c, .slice (some ⟨gM7, 0, none⟩) 1 1] 24) = W := ⟨_, rfl⟩
        obtain ⟨gM8, hgM8⟩ : ∃ g, X7.heap.size = g := ⟨_, rfl⟩
        rw [hX11] at S_12
        rw [hX11] at O_13
        rw [hX11] at M12_14
        rw [hX11] at M7_15
        rw [hX11] at NM8_11
        rw [hgM8] at NM8_11
        rw [hX11, hgM8]
        clear hX11 hgM8 hba11
        refine wpAnyH_ready (rs := [9]) (by kernel_rfl) (by simp) ?_
        refine AllReadyH.cons rfl (fun K hK => ?_) AllReadyH.nil
        go_simp
        refine (HSUMB.out X11 gM8 (HK.out.below0 S_12.out.2.1) NM8_11.out).mono ?_
        rintro e Y16 ⟨rfl, hb16⟩
        have S_17 := kept (HKEEP.out _ _ S_12.out hb16)
        have O_18 := kept (O_13.out.below hb16)
        have M12_19 := kept (M12_14.out.below0 hb16)
        refine hK.out _ _ S_17.out (fun _ => ?_)
        clear hK K
        try simp only [Act.put, List.getElem_toArray, List.getElem_cons_zero, List.getElem_cons_succ, List.setIfInBounds_toArray, List.set_cons_zero, List.set_cons_succ]
        refine wpAnyH_ready (rs := [13]) (by kernel_rfl) (by simp) ?_
        refine AllReadyH.cons rfl (fun K hK => ?_) AllReadyH.nil
        refine step_append_keep (by rfl) (.tmp 37) (.tmp 39) 24 rfl w.heap.size i0 Tryd.underlying24 hi0 hz0 hs0 hbb0 (some ⟨q, 0, none⟩) l.length c l rfl O_18.out q S_17.out.2.2.1 gM12 ⟨gM12, 0, none⟩ 1 1 [cb] rfl rfl M12_19.out (by simp; omega) S_17.out.2.1.size ?_
        intro v13 Z20 hown13 hg13 hm13
        have S_20 := kept (HKEEPA.out _ _ S_17.out hg13 hm13)
        obtain ⟨A13, q13, c13, rfl, _, _, hmm13, hf13, _⟩ := hown13.form
        obtain ⟨_, rfl, _⟩ := hf13 (by simp)
        have M13_20 := kept hmm13
        clear hown13 hg13 hm13 hmm13 hf13
        have hl13 : (l ++ [cb]).length = l.length + 1 := by simp
        refine hK.out _ _ S_20.out (fun _ => ?_)
        clear hK K
        try simp only [Act.put, List.getElem_toArray, List.getElem_cons_zero, List.getElem_cons_succ, List.setIfInBounds_toArray, List.set_cons_zero, List.set_cons_succ]
        refine wpAnyH_ready (rs := [14]) (by kernel_rfl) (by simp) ?_
        refine AllReadyH.cons rfl (fun K hK => ?_) AllReadyH.nil
        go_simp
        refine (HR1.out Z20 q13 (some ⟨q13, 0, none⟩) c13 M13_20.out).mono ?_
        rintro e Y21 ⟨rfl, hb21⟩
        have S_22 := kept (HKEEP.out _ _ S_20.out hb21)
        refine hK.out _ _ S_22.out (fun _ => ?_)
        clear hK K
        try simp only [Act.put, List.getElem_toArray, List.getElem_cons_zero, List.getElem_cons_succ, List.setIfInBounds_toArray, List.set_cons_zero, List.set_cons_succ]
        refine wpAnyH_ready (rs := [15]) (by kernel_rfl) (by simp) ?_
        refine AllReadyH.cons rfl (fun K hK => ?_) AllReadyH.nil
        go_simp
        refine hK.out _ _ S_22.out (fun _ => ?_)
        clear hK K
        try simp only [Act.put, List.getElem_toArray, List.getElem_cons_zero, List.getElem_cons_succ, List.setIfInBounds_toArray, List.set_cons_zero, List.set_cons_succ]
        refine wpAnyH_ready (rs := [16]) (by kernel_rfl) (by simp) ?_
        refine AllReadyH.cons rfl (fun K hK => ?_) AllReadyH.nil
        go_simp
        refine hK.out _ _ S_22.out (fun _ => ?_)
        clear hK K
        try simp only [Act.put, List.getElem_toArray, List.getElem_cons_zero, List.getElem_cons_succ, List.setIfInBounds_toArray, List.set_cons_zero, List.set_cons_succ]
        refine wpAnyH_ready (rs := [17]) (by kernel_rfl) (by simp) ?_
        refine AllReadyH.cons rfl (fun K hK => ?_) AllReadyH.nil
        go_simp
        refine hK.out _ _ S_22.out (fun _ => ?_)
        clear hK K
        try simp only [Act.put, List.getElem_toArray, List.getElem_cons_zero, List.getElem_cons_succ, List.setIfInBounds_toArray, List.set_cons_zero, List.set_cons_succ]
        refine wpAnyH_take (i := 18) (v := ?_) rfl (by kernel_rfl) (by kernel_rfl) (by kernel_rfl) (fun _ _ _ h => h) (Or.inl ⟨by rfl, ?_⟩) S_22.out ?_
        rotate_left
        · intro w _; go_simp; with_reducible rfl
        try simp only [Act.put, List.getElem_toArray, List.getElem_cons_zero, List.getElem_cons_succ, List.setIfInBounds_toArray, List.set_cons_zero, List.set_cons_succ]
        refine wpAnyH_take (i := 21) (v := _) rfl (by kernel_rfl) (by kernel_rfl) (by kernel_rfl) (fun _ _ _ h => h) (yieldsIf_load_mid (by rfl) 26 (.tmp 8) rfl gX 0 rfl (D.map bv) _ (fun w' h => h.1) Tryd.underlying26 rfl n26) S_22.out ?_
        try simp only [Act.put, List.getElem_toArray, List.getElem_cons_zero, List.getElem_cons_succ, List.setIfInBounds_toArray, List.set_cons_zero, List.set_cons_succ]
        refine wpAnyH_ready (rs := [19]) (by kernel_rfl) (by simp) ?_
        refine AllReadyH.cons rfl (fun K hK => ?_) AllReadyH.nil
        go_simp
        have hba23 : Below Y21.heap.size Y21 (Y21.alloc (.cells #[.slice none 0 0, .slice (some ⟨q, 0, none⟩) l.length c, .slice none 0 0] 24)) := (Below.refl _ Y21).alloc (Nat.le_refl _) _
        have NM19_23 := kept (memM_mid (w := Y21) (g := Y21.heap.size) rfl S_22.out.2.2.1 hc)
        have S_24 := kept (HKEEP.out _ _ S_22.out hba23)
        refine hK.out _ _ S_24.out (fun _ => ?_)
        clear hK K
        try simp only [Act.put, List.getElem_toArray, List.getElem_cons_zero, List.getElem_cons_succ, List.setIfInBounds_toArray, List.set_cons_zero, List.set_cons_succ]
        obtain ⟨X23, hX23⟩ : ∃ W, Y21.alloc (.cells #[.slice none 0 0, .slice (some ⟨q, 0, none⟩) l.length c, .slice none 0 0] 24) = W := ⟨_, rfl⟩
        obtain ⟨gM19, hgM19⟩ : ∃ g, Y21.heap.size = g := ⟨_, rfl⟩
        rw [hX23] at S_24
        rw [hX23] at NM19_23
        rw [hgM19] at NM19_23
        rw [hX23, hgM19]
        clear hX23 hgM19 hba23
        refine wpAnyH_ready (rs := [20]) (by kernel_rfl) (by simp) ?_
        refine AllReadyH.cons rfl (fun K hK => ?_) AllReadyH.nil
        go_simp
        refine (HSUMC.out X23 gM19 (HK.out.below0 S_24.out.2.1) NM19_23.out).mono ?_
        rintro e Y25 ⟨rfl, hb25⟩
        have S_26 := kept (HKEEP.out _ _ S_24.out hb25)
        refine hK.out _ _ S_26.out (fun _ => ?_)
        clear hK K
        try simp only [Act.put, List.getElem_toArray, List.getElem_cons_zero, List.getElem_cons_succ, List.setIfInBounds_toArray, List.set_cons_zero, List.set_cons_succ]
        refine wpAnyH_ready (rs := [22]) (by kernel_rfl) (by simp) ?_
        refine AllReadyH.cons rfl (fun K hK => ?_) AllReadyH.nil
        go_simp
        refine hK.out _ _ S_26.out (fun _ => ?_)
        clear hK K
        try simp only [Act.put, List.getElem_toArray, List.getElem_cons_zero, List.getElem_cons_succ, List.setIfInBounds_toArray, List.set_cons_zero, List.set_cons_succ]
        refine wpAnyH_ready (rs := [23]) (by kernel_rfl) (by simp) ?_
        refine AllReadyH.cons rfl (fun K hK => ?_) AllReadyH.nil
        go_simp
        refine hK.out _ _ S_26.out (fun _ => ?_)
        clear hK K
        try simp only [Act.put, List.getElem_toArray, List.getElem_cons_zero, List.getElem_cons_succ, List.setIfInBounds_toArray, List.set_cons_zero, List.set_cons_succ]
        refine wpAnyH_ready (rs := [24]) (by kernel_rfl) (by simp) ?_
        refine AllReadyH.cons rfl (fun K hK => ?_) AllReadyH.nil
        go_simp
        refine hK.out _ _ S_26.out (fun _ => ?_)
        clear hK K
        try simp only [Act.put, List.getElem_toArray, List.getElem_cons_zero, List.getElem_cons_succ, List.setIfInBounds_toArray, List.set_cons_zero, List.set_cons_succ]
        refine wpAnyH_done (by kernel_rfl) ?_ _
        go_wp2
        go_ret
        exact ⟨rfl, S_26.out.2.1⟩
end Go.Proofs.YtgjnmoonceeenaaDoor.shaLimits
