/-
  Bytes of package name, by a contract.
-/
import Derived.Test.YtnejidaplbonoaaNcVal
import Derived.Test.YtnejidaplbonoaaNameBy
import Derived.Test.YtnejidaplbonoaaNameB
import Derived.Test.YtnejidaplbonoaaMake
import Derived.Test.YtnejidaplbonoaaHdr
namespace Go.Proofs.Ytnejidaplbonoaa
open Go.RowKit
set_option linter.unusedVariables false
set_option linter.unusedSimpArgs false

theorem putw_any (s : ByteArray) (hs : s.size ≤ 255) (W : World) (q : Nat) (A : Option Addr) (n c : Nat) (hn : n = s.size) (hm : Mem W q A s.data.toList) (hc : n ≤ c) :
    Calls Try.prog 27 #[.int .i64 1, .slice A n c] W fun e w' => ∃ v, e = .returned (.tuple #[v, .bool true]) ∧ Own w' W.heap.size v (lenL s) ∧ Below W.heap.size W w' := by
  have hl : s.data.toList.length = s.size := by simp
  have e1 : rPut 1 (s.size : Nat) = (beBytes 1 s.size, true) := by
    unfold rPut
    rw [if_pos ⟨by decide, by decide, by show s.size < 256 ^ 1; omega⟩]
    rfl
  have e2 : beBytes 1 s.size = [UInt8.ofNat s.size] := by simp [beBytes]; rw [Nat.mod_eq_of_lt (by omega)]
  have e3 : rPutS 1 s.data.toList = (lenL s, true) := by
    unfold rPutS
    rw [hl, e1, e2]
    rfl
  refine (putstr_any W 1 q A n c s.data.toList (by rw [hn, hl]) hm (by rw [hl]; omega) (by rw [hl, ← hn]; exact hc)).mono ?_
  rw [e3]
  exact fun e w' h => h
theorem putn_any (n : Nat) (hn : n ≤ 255) (W : World) :
    Calls Try.prog 28 #[.int .i64 1, .int .u64 n] W fun e w' => ∃ v, e = .returned (.tuple #[v, .bool true]) ∧ Own w' W.heap.size v [UInt8.ofNat n] ∧ Below W.heap.size W w' := by
  have e2 : beBytes 1 n = [UInt8.ofNat n] := by simp [beBytes]; rw [Nat.mod_eq_of_lt (by omega)]
  refine (putnum_ok W 1 n (by omega) (by omega) (by omega)).mono ?_
  rw [e2]
  exact fun e w' h => h
theorem bytesN_flat (R : ByteArray) (L : List ByteArray) : ([lenL R, [UInt8.ofNat L.length]] ++ L.map lenL).flatten = bytesN (R, L) := by
  unfold bytesN
  rw [List.flatMap_def]
  simp
set_option maxHeartbeats 8000000 in
set_option maxRecDepth 100000 in
theorem nbytes_any (w : World) (R : ByteArray) (L : List ByteArray) (q : Nat) (A : Option Addr) (c : Nat) (hR : R.size ≤ maxLen) (hS : ∀ s ∈ L, s.size ≤ maxLen) (hl : L.length ≤ maxLen) (hm : MemS w q A L) :
    Calls Try.prog 10 #[.agg #[.string R, .slice A L.length c]] w fun e w' => ∃ v, e = .returned (.tuple #[v, .bool (isN (R, L))]) ∧ Own w' w.heap.size v (bytesO (R, L)) ∧ Below w.heap.size w w' := by
  obtain ⟨i0, hi0, hz0, hs0, hb0⟩ := info_parts sl_info
  have HM := kept hm
  have HS := kept hS
  have HLm := kept hl
  clear hm hS hl
  have HV := kept (fun W (h : MemS W q A L) => nvalid_any W R L q A c hR HS.out HLm.out h)
  cases hN : isN (R, L) with
  | false =>
    have HT := kept (show bytesO (R, L) = [] by unfold bytesO; rw [hN]; rfl)
    rw [hN] at HV
    go_enter Try.func10, Try.ntmps10
    go_upto_region 1 with (fail)
    go_name_world W0 hW0
    have HB := kept (show Blk W0 w.heap.size 24 #[.string R, .slice A L.length c] by rw [← hW0]; exact Blk.new w _ _)
    have HW := kept (show Below w.heap.size w W0 by rw [← hW0]; exact (Below.refl _ w).alloc (Nat.le_refl _) _)
    replace HM := kept (HM.out.below0 HW.out)
    clear hW0
    have hc0 : W0.cell? ⟨w.heap.size, 0, none⟩ = some (.string R) := by rw [HB.out.cell]; rfl
    have hc1 : W0.cell? ⟨w.heap.size, 1, none⟩ = some (.slice A L.length c) := by rw [HB.out.cell]; rfl
    go_wp2_with (first | (go_at_call 11; refine (HV.out _ HM.out).mono ?_; rintro e w1 ⟨rfl, k1⟩))
    go_ret2
    exact ⟨_, rfl, by rw [HT.out]; exact Own.nil_ _ _, below_next HW.out k1⟩
  | true =>
    have HT := kept (show bytesO (R, L) = ([lenL R, [UInt8.ofNat L.length]] ++ L.map lenL).flatten by unfold bytesO; rw [if_pos hN, bytesN_flat])
    rw [hN] at HV
    obtain ⟨hp, hr, h1, h8⟩ := isN_parts hN
    have HP := kept hp
    have hrs := (isW_size hr).2
    have hll : L.length ≤ 8 := h8
    have HBL := kept (bytes_len L fun s hs => (isW_size (hp s hs)).2)
    have HSR := kept (fun W q A n c => putw_any R (by omega) W q A n c)
    have HSN := kept (fun W => putn_any L.length (by omega) W)
    have hLRl : (lenL R).length ≤ 101 := by unfold lenL; simp; omega
    clear hN hp hr h1 h8
    obtain ⟨LR, hLR⟩ : ∃ LR, lenL R = LR := ⟨_, rfl⟩
    obtain ⟨CN, hCN⟩ : ∃ CN, [UInt8.ofNat L.length] = CN := ⟨_, rfl⟩
    have hCNl : CN.length = 1 := by rw [← hCN]; rfl
    rw [hLR] at HSR hLRl
    rw [hCN] at HSN
    rw [hLR, hCN] at HT
    have HLL := kept (show LR.length ≤ 101 ∧ CN.length = 1 from ⟨hLRl, hCNl⟩)
    clear hLR hCN hLRl hCNl
    go_enter Try.func10, Try.ntmps10
    go_upto_region 1 with (fail)
    go_name_world W0 hW0
    have HB := kept (show Blk W0 w.heap.size 24 #[.string R, .slice A L.length c] by rw [← hW0]; exact Blk.new w _ _)
    have HW := kept (show Below w.heap.size w W0 by rw [← hW0]; exact (Below.refl _ w).alloc (Nat.le_refl _) _)
    have HM0 := kept (HM.out.below0 HW.out)
    clear hW0
    have hc0 : W0.cell? ⟨w.heap.size, 0, none⟩ = some (.string R) := by rw [HB.out.cell]; rfl
    have hc1 : W0.cell? ⟨w.heap.size, 1, none⟩ = some (.slice A L.length c) := by rw [HB.out.cell]; rfl
    go_upto_region 3 with (first | (go_at_call 11; refine (HV.out _ HM0.out).mono ?_; rintro e w1 ⟨rfl, k1⟩))
    replace HB := kept (HB.out.below k1 HB.out.lt)
    replace HW := kept (below_next HW.out k1)
    clear k1 hc0 hc1 HM0
    have hc0 : w1.cell? ⟨w.heap.size, 0, none⟩ = some (.string R) := by rw [HB.out.cell]; rfl
    go_upto_region 4 with (first
      | (go_at_call 27
         refine (HSR.out _ _ _ _ _ (by simp) hm2 (by simpa using hc2)).mono ?_
         rintro e W3 ⟨v3, rfl, ho3, k3⟩
         obtain ⟨A3, q3, c3, rfl, hc3, hcm3, hm3, -, hq3⟩ := ho3.form)
      | (refine wpList_conv_bytes rfl 9 28 (.tmp 18) rfl R rfl Try.underlying9 Try.underlying28 Try.underlying5 ?_; intro A2 q2 c2 W2 hc2 hm2 hb2))
    have hb13 := below_next hb2 k3
    replace HB := kept (HB.out.below hb13 HB.out.lt)
    replace HW := kept (below_next HW.out hb13)
    have HM3 := kept hm3
    have HC3 := kept hc3
    have hq3' := fun (h : LR ≠ []) => hm3.lt h
    have HQ3 := kept hq3'
    clear hb13 hb2 k3 hm2 hc2 ho3 hm3 hc3 hcm3 hq3 hq3' hc0
    have hc1 : W3.cell? ⟨w.heap.size, 1, none⟩ = some (.slice A L.length c) := by rw [HB.out.cell]; rfl
    go_upto_region 5 with (first
      | (go_at_call 28
         refine (HSN.out _).mono ?_
         rintro e W4 ⟨v4, rfl, ho4, k4⟩
         obtain ⟨A4, q4, c4, rfl, hc4, hcm4, hm4, -, hq4⟩ := ho4.form))
    replace HB := kept (HB.out.below k4 HB.out.lt)
    replace HW := kept (below_next HW.out k4)
    have HM34 := kept (HM3.out.below0 k4)
    have HM4 := kept hm4
    have HC4 := kept hc4
    have HQ34 := kept (fun (h : LR ≠ []) => HM34.out.lt h)
    have HQ4 := kept (fun (h : CN ≠ []) => hm4.lt h)
    clear k4 ho4 hm4 hc4 hcm4 hq4 HM3 HQ3 hc1
    go_upto_region 6 with (fail)
    go_name_world W5 hW5
    have k5 : Below W4.heap.size W4 W5 := by rw [← hW5]; exact (Below.refl _ W4).alloc (Nat.le_refl _) _
    have HOV := kept (show OwnV W5 w.heap.size (.slice (some ⟨W4.heap.size, 0, none⟩) 2 2) [.slice A3 LR.length c3, .slice A4 CN.length c4] by
      rw [← hW5]
      exact World.ownsRow.mono (own_litV W4 [.slice A3 LR.length c3, .slice A4 CN.length c4] (by simp)) HW.out.size)
    have HHA := kept (show HdrsA W5 (.slice (some ⟨W4.heap.size, 0, none⟩) 2 2) [.slice A3 LR.length c3, .slice A4 CN.length c4] [LR, CN] by
      refine ⟨rfl, fun j l hj => ?_⟩
      match j, hj with
      | 0, hj =>
        injection hj with hj
        subst hj
        refine ⟨A3, q3, c3, rfl, HM34.out.below0 k5, HC3.out, ?_⟩
        by_cases h : LR = []
        · exact .inl h
        · refine .inr fun e => ?_
          have h1 := HQ34.out h
          injection e with e
          have e : W4.heap.size = q3 := e
          omega
      | 1, hj =>
        injection hj with hj
        subst hj
        refine ⟨A4, q4, c4, rfl, HM4.out.below0 k5, HC4.out, ?_⟩
        by_cases h : CN = []
        · exact .inl h
        · refine .inr fun e => ?_
          have h1 := HQ4.out h
          injection e with e
          have e : W4.heap.size = q4 := e
          omega)
    replace HB := kept (HB.out.below k5 HB.out.lt)
    replace HW := kept (below_next HW.out k5)
    have hc1 : W5.cell? ⟨w.heap.size, 1, none⟩ = some (.slice A L.length c) := by rw [HB.out.cell]; rfl
    clear hW5 k5 HM34 HM4 HC3 HC4 HQ34 HQ4
    go_wp2
    go_loopw [8, 10, 11, 12, 37] (fun out _ _ _ i wr => ∃ (k : Nat) (v : Value) (vs : List Value), k ≤ L.length ∧ i = .int .i64 k ∧ v = out ∧ Kept (OwnV wr w.heap.size v vs) ∧ Kept (HdrsA wr v vs ([LR, CN] ++ (L.take k).map lenL)) ∧ Kept (Below w.heap.size w wr)) (fun _ _ _ _ i _ => L.length - (intOf i).toNat)
    case atStart => exact ⟨0, _, _, Nat.zero_le _, rfl, rfl, HOV, kept (by simpa using HHA.out), HW⟩
    case round =>
      obtain ⟨k, v, vs, hk, rfl, rfl, HOV, HHA, HW⟩ := hrel
      by_cases hlt : k < L.length
      · obtain ⟨o, hA, hck⟩ := (HM.out.below0 HW.out).at_ hlt
        subst hA
        have hsz := (isW_size (HP.out _ (List.getElem_mem hlt))).2
        have hk0 : (0 : Int) ≤ (k : Int) := by omega
        have hk1 : (k : Int) < (L.length : Int) := by omega
        have HX := kept (show [LR, CN] ++ (L.take (k + 1)).map lenL = ([LR, CN] ++ (L.take k).map lenL) ++ [lenL L[k]] by rw [List.take_succ_eq_append_getElem hlt, List.map_append, List.append_assoc]; rfl)
        have HVL := kept (show vs.length ≤ 10 by rw [HHA.out.1, List.length_append, List.length_map, List.length_take, List.length_cons, List.length_cons, List.length_nil]; omega)
        generalize hs : L[k] = s at *
        have HSS := kept (fun W q A n c => putw_any s (by omega) W q A n c)
        obtain ⟨X, hX⟩ : ∃ X, lenL s = X := ⟨_, rfl⟩
        rw [hX] at HSS HX
        generalize hE : [LR, CN] ++ (L.take k).map lenL = E at *
        clear hs hX hE
        have hwr := HW.out.size
        have HXQ := kept (fun (g : Nat) (h : v.ownBlock = some g) => (World.ownsRow.lt HOV.out g h).2)
        go_upto_region 10 with (first
          | (go_at_call 27
             refine (HSS.out _ _ _ _ _ (by simp) hm2 (by simpa using hc2)).mono ?_
             rintro e W3 ⟨v3, rfl, ho3, k3⟩
             obtain ⟨A3, q3, c3, rfl, hc3, hcm3, hm3, hq3, -⟩ := ho3.form)
          | (refine wpList_conv_bytes rfl 9 28 (.tmp 42) rfl s rfl Try.underlying9 Try.underlying28 Try.underlying5 ?_; intro A2 q2 c2 W2 hc2 hm2 hb2))
        have hb13 := below_next hb2 k3
        have HOV3 := kept (show OwnV W3 w.heap.size v vs from by
          refine ⟨HOV.out.1, ?_⟩
          rcases HOV.out.2 with h | ⟨g, cap, cur, hv, hg, hh, r⟩
          · exact .inl h
          · exact .inr ⟨g, cap, cur, hv, hg, (hb13.block g (HXQ.out g (by rw [hv]; rfl))).trans hh, r⟩)
        have HHA3 := kept (HHA.out.below0 hb13)
        have HW3 := kept (below_next HW.out hb13)
        have hap := (show X = [] ∨ v.ownBlock ≠ some q3 by
          by_cases h : X = []
          · exact .inl h
          · refine .inr fun e => ?_
            have h1 := (hq3 h).1
            have h2 := HXQ.out q3 e
            have h3 := hb2.size
            omega)
        have HAP := kept hap
        have HM3 := kept hm3
        have HC3 := kept hc3
        have hsW : w.heap.size ≤ (W3.alloc (.cells #[.slice A3 X.length c3] 28)).heap.size := by have := HW3.out.size; simp; omega
        have HOV4 := kept (World.ownsRow.alloc HOV3.out (.cells #[.slice A3 X.length c3] 28))
        have hmv := memV_lit (w := W3) (T := 28) [.slice A3 X.length c3]
        have HMV := kept hmv
        have HW4 := kept (HW3.out.alloc HW3.out.size (.cells #[.slice A3 X.length c3] 28))
        clear hb13 hb2 k3 hm2 hc2 ho3 hm3 hc3 hcm3 hq3 hap hmv
        go_upto_region 11 with (
          at_builtin
          refine wpList_append_vals2 rfl (.tmp 47) (.tmp 49) 51 rfl w.heap.size i0 Try.underlying51 hi0 hz0 hs0 hb0 v vs rfl HOV4.out W3.heap.size 0 1 1 [.slice A3 X.length c3] rfl rfl HMV.out (fun u hu => by rw [List.mem_singleton.1 hu]; rfl) (by have := HVL.out; simp; omega) hsW ?_
          intro v4 W4 ho4 hg4 hb4)
        have HOV5 := kept ho4
        have HHA5 := kept (show HdrsA W4 v4 (vs ++ [.slice A3 X.length c3]) ([LR, CN] ++ (L.take (k + 1)).map lenL) by
          rw [HX.out]
          exact HHA3.out.step HM3.out HC3.out HAP.out hg4 hb4)
        have HW5 := kept (HW4.out.grown hg4 HW4.out.size (fun j hj => (World.ownsRow.lt HOV3.out j hj).1))
        clear ho4 hg4 hb4 HOV4 HHA3
        go_wp2
        go_roundw
        case rel => exact ⟨k + 1, v4, _, by omega, by go_num, rfl, HOV5, HHA5, HW5⟩
        case measure => simp [intOf]; omega
      · have hE : [LR, CN] ++ (L.take k).map lenL = [LR, CN] ++ L.map lenL := by rw [List.take_of_length_le (by omega)]
        rw [hE] at HHA
        obtain ⟨A9, q9, c9, hv9, hc9, hm9⟩ := HOV.out.form
        subst hv9
        have HMM := kept (memM_of hm9 HHA.out.hdrs)
        have hvl := HHA.out.1
        obtain ⟨n9, hn9⟩ : ∃ n9, vs.length = n9 := ⟨_, rfl⟩
        rw [hn9] at hvl ⊢
        have HJ := kept (fun W (h : MemM W q9 A9 ([LR, CN] ++ L.map lenL)) => join_any W q9 A9 n9 c9 ([LR, CN] ++ L.map lenL) hvl h (by rw [List.length_append, List.length_map, List.length_cons, List.length_cons, List.length_nil]; omega) (by
          have h1 := HBL.out
          have h2 := HLL.out
          rw [List.map_append, List.sum_append, List.map_cons, List.map_cons, List.map_nil, List.sum_cons, List.sum_cons, List.sum_nil]
          rw [List.flatMap_def, List.length_flatten] at h1
          omega))
        rw [← HT.out] at HJ
        clear hE hm9 hc9 hvl hn9
        go_wp2_with (first | (go_at_call 29; refine (HJ.out _ HMM.out).mono ?_; rintro e W9 ⟨v9, rfl, ho9, k9⟩))
        go_ret2
        exact ⟨_, rfl, ho9.mono HW.out.size, below_next HW.out k9⟩
end Go.Proofs.Ytnejidaplbonoaa
