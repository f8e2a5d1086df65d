/-
  Sum, Check of package mac, by contracts.
-/
import Derived.Test.YtgplkdnffbappaaDoorMacClo
import Derived.Test.YtgplkdnffbappaaDoorMacEq
namespace Go.Proofs.YtgplkdnffbappaaDoor
open Go.RowKit
set_option linter.unusedVariables false
set_option linter.unusedSimpArgs false

set_option maxHeartbeats 4000000 in
set_option maxRecDepth 100000 in
theorem msum_any (w : World) (q1 q2 : Nat) (A1 A2 : Option Addr) (n1 n2 c1 c2 : Nat) (k : List UInt8) (L : List (List UInt8)) (hK : KAt w) (hn1 : n1 = k.length) (hm1 : Mem w q1 A1 k) (hc1 : k.length ≤ c1) (hkl : k.length ≤ 140737488355328)
    (hn2 : n2 = L.length) (hm2 : MemM w q2 A2 L) (hL : L.length ≤ 1000000) (hs : (L.map List.length).sum ≤ 140737488355200) :
    Calls Tryd.prog 10 #[.slice A1 n1 c1, .slice A2 n2 c2] w fun e w' => e = .returned (.agg ((hmac k L.flatten).map bv).toArray) ∧ Below w.heap.size w w' := by
  subst hn1
  have hb0 : Below w.heap.size w (w.alloc (.cells (Array.replicate 32 (.int .u8 0)) 26)) := (Below.refl _ w).alloc (Nat.le_refl _) _
  have HCO := kept (coder_any (w.alloc (.cells (Array.replicate 32 (.int .u8 0)) 26)) q1 A1 k.length c1 k (hK.below0 hb0) rfl (hm1.below0 hb0) hc1 hkl)
  have HR0 := kept (Blk.new w 26 (Array.replicate 32 (.int .u8 0)))
  have HB0 := kept hb0
  have HCL := kept (fun (w' : World) (gi go : Nat) (hk : KAt w') (hi : Blk w' gi 44 ((xorB 54 (padK k)).map bv).toArray) (ho : Blk w' go 44 ((xorB 92 (padK k)).map bv).toArray) (hm : MemM w' q2 A2 L) =>
    clo_any w' gi go _ _ q2 A2 n2 c2 L hk hi ho (by rw [xorB_len, padK_len]) (by rw [xorB_len, padK_len]) hn2 hm hL hs)
  have HHM := kept (show digest (xorB 92 (padK k) ++ digest (xorB 54 (padK k) ++ L.flatten)) = hmac k L.flatten from rfl)
  have HML := kept (hmac_len k L.flatten)
  have HK := kept hK
  have HM := kept hm2
  rw [HHM.out] at HCL
  obtain ⟨D, hD⟩ : ∃ D, hmac k L.flatten = D := ⟨_, rfl⟩
  rw [hD] at HCL HML
  rw [hD]
  clear hK hm1 hc1 hkl hn2 hm2 hL hs hb0 hD HHM
  go_enter Tryd.func10, Tryd.ntmps10
  go_wp2_with fail
  refine HCO.out.mono ?_
  rintro e W1 ⟨⟨gi, go, rfl, hgi, hgo, hI, hO⟩, hb1⟩
  have HB1 := kept (HB0.out.trans (hb1.mono HB0.out.size))
  have HR1 := kept (HR0.out.below hb1 HR0.out.lt)
  have HC2 := kept (HCL.out W1 gi go (HK.out.below0 HB1.out) hI hO (HM.out.below0 HB1.out))
  clear hgi hgo hI hO hb1 HCO
  go_wp2_with fail
  refine HC2.out.mono ?_
  rintro e W2 ⟨rfl, hb2⟩
  have HR2 := kept (HR1.out.below hb2 HR1.out.lt)
  have HB2 := kept (HB1.out.trans (hb2.mono HB1.out.size))
  clear hb2 HC2
  go_wp2_with (refine wpList_store_row rfl 26 _ _ rfl w.heap.size (D.map bv).toArray rfl rfl 26 (Array.replicate 32 (.int .u8 0)) HR2.out (by rw [b32_size]; simp [HML.out]) (by simp [HML.out]) (padded_one D) ?_)
  exact bodyPost_ret (v := .agg (D.map bv).toArray) (results_cell_row Tryd.results10 _ _ w.heap.size 26 (D.map bv).toArray (0, 0) _ rfl (setRow_heap _ _ _ _ _ _ HR2.out) Tryd.underlying26 rfl (by rw [b32_size]; simp [HML.out])) rfl ⟨rfl, below_setRow HB2.out (Nat.le_refl _) _⟩
/-- Whether a code is right: its length, and that the code of the bytes begins with it. -/
def chkB (code full : List UInt8) : Bool := decide (16 ≤ code.length ∧ code.length ≤ 32) && sameB code (full.take code.length)
set_option maxHeartbeats 4000000 in
set_option maxRecDepth 100000 in
theorem check_any (w : World) (q1 q2 q3 : Nat) (A1 A2 A3 : Option Addr) (n1 n2 n3 c1 c2 c3 : Nat) (k code : List UInt8) (L : List (List UInt8)) (hK : KAt w) (hn1 : n1 = k.length) (hm1 : Mem w q1 A1 k) (hc1 : k.length ≤ c1) (hkl : k.length ≤ 140737488355328)
    (hn3 : n3 = code.length) (hm3 : Mem w q3 A3 code) (hcl : code.length ≤ 140737488355328)
    (hn2 : n2 = L.length) (hm2 : MemM w q2 A2 L) (hL : L.length ≤ 1000000) (hs : (L.map List.length).sum ≤ 140737488355200) :
    Calls Tryd.prog 16 #[.slice A1 n1 c1, .slice A3 n3 c3, .slice A2 n2 c2] w fun e w' => e = .returned (.bool (chkB code (hmac k L.flatten))) ∧ Below w.heap.size w w' := by
  subst hn3
  have HS := kept (msum_any w q1 q2 A1 A2 n1 n2 c1 c2 k L hK hn1 hm1 hc1 hkl hn2 hm2 hL hs)
  have HML := kept (hmac_len k L.flatten)
  obtain ⟨D, hD⟩ : ∃ D, hmac k L.flatten = D := ⟨_, rfl⟩
  rw [hD] at HS HML
  rw [hD]
  have HM := kept hm3
  have HBOX := kept (fun (w : World) => Blk.new w 26 (Array.replicate 32 (.int .u8 0)))
  clear hK hm1 hc1 hkl hm2 hL hs hD hm3 hn1 hn2
  by_cases h1 : code.length < 16
  · have HCB := kept (show chkB code D = false by unfold chkB; rw [decide_eq_false (by omega)]; rfl)
    have hd : decide ((code.length : Int) < 16) = true := by simp; omega
    go_enter Tryd.func16, Tryd.ntmps16
    go_wp2_with fail
    refine HS.out.mono ?_
    rintro e W1 ⟨rfl, hb1⟩
    have HB1 := kept hb1
    clear hb1 HS
    go_wp2_with (refine wpList_store_row rfl 26 _ _ rfl W1.heap.size (D.map bv).toArray rfl rfl 26 (Array.replicate 32 (.int .u8 0)) (HBOX.out W1) (by rw [b32_size]; simp [HML.out]) (by simp [HML.out]) (padded_one D) ?_)
    go_ret
    exact ⟨congrArg (fun b => Ending.returned (.bool b)) HCB.out.symm, below_setRow (HB1.out.alloc HB1.out.size _) HB1.out.size _⟩
  · by_cases h2 : 32 < code.length
    · have HCB := kept (show chkB code D = false by unfold chkB; rw [decide_eq_false (by omega)]; rfl)
      have hd : decide ((code.length : Int) < 16) = false := by simp; omega
      have hd2 : decide ((32 : Int) < code.length) = true := by simp; omega
      go_enter Tryd.func16, Tryd.ntmps16
      go_wp2_with fail
      refine HS.out.mono ?_
      rintro e W1 ⟨rfl, hb1⟩
      have HB1 := kept hb1
      clear hb1 HS
      go_wp2_with (refine wpList_store_row rfl 26 _ _ rfl W1.heap.size (D.map bv).toArray rfl rfl 26 (Array.replicate 32 (.int .u8 0)) (HBOX.out W1) (by rw [b32_size]; simp [HML.out]) (by simp [HML.out]) (padded_one D) ?_)
      go_ret
      exact ⟨congrArg (fun b => Ending.returned (.bool b)) HCB.out.symm, below_setRow (HB1.out.alloc HB1.out.size _) HB1.out.size _⟩
    · have HCB := kept (show chkB code D = sameB code (D.take code.length) by unfold chkB; rw [decide_eq_true (by omega)]; rfl)
      have hd : decide ((code.length : Int) < 16) = false := by simp; omega
      have hd2 : decide ((32 : Int) < code.length) = false := by simp; omega
      have hp1 : code.length ≤ 32 := by omega
      have hp2 : (0 : Int) ≤ (code.length : Int) := by omega
      go_enter Tryd.func16, Tryd.ntmps16
      go_wp2_with fail
      refine HS.out.mono ?_
      rintro e W1 ⟨rfl, hb1⟩
      have HB1 := kept hb1
      clear hb1 HS
      go_upto_region 2 with (refine wpList_store_row rfl 26 _ _ rfl W1.heap.size (D.map bv).toArray rfl rfl 26 (Array.replicate 32 (.int .u8 0)) (HBOX.out W1) (by rw [b32_size]; simp [HML.out]) (by simp [HML.out]) (padded_one D) ?_)
      go_name_world W2 hW2
      have hb2 : Below W1.heap.size W1 W2 := by rw [← hW2]; exact below_setRow ((Below.refl _ _).alloc (Nat.le_refl _) _) (Nat.le_refl _) _
      have hD2 : Blk W2 W1.heap.size 26 (D.map bv).toArray := by rw [← hW2]; exact setRow_heap _ _ _ _ _ _ (HBOX.out W1)
      have HB2 := kept (HB1.out.trans (hb2.mono HB1.out.size))
      have HEQ := kept (equal_any W2 q3 W1.heap.size A3 _ code.length code.length c3 32 code (D.take code.length) rfl (by rw [List.length_take, HML.out]; omega) hcl (HM.out.below0 HB2.out) ((mem_blk hD2).take code.length))
      clear hW2 hb2 hD2 hd hd2 hp1
      have hp3 : (code.length : Int) ≤ 32 := by omega
      go_wp2_with fail
      refine HEQ.out.mono ?_
      rintro e W3 ⟨rfl, nd, rfl⟩
      go_wp2_with fail
      go_ret
      exact ⟨congrArg (fun b => Ending.returned (.bool b)) HCB.out.symm, below_drewN HB2.out _⟩
end Go.Proofs.YtgplkdnffbappaaDoor
