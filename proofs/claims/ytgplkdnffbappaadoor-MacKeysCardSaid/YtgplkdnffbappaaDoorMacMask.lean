/-
  mask of package mac, by a contract.
-/
import Derived.Test.YtgplkdnffbappaaDoorMacMath
namespace Go.Proofs.YtgplkdnffbappaaDoor
open Go.RowKit
set_option linter.unusedVariables false
set_option linter.unusedSimpArgs false

/-- A block of which the first k bytes are masked. -/
def mkF (m : UInt8) (l : List UInt8) (k : Nat) : Nat → Value := fun j => bv (if j < k then xr (l.getD j 0) m else l.getD j 0)
theorem mkF_zero (m : UInt8) (l : List UInt8) (h : l.length = 64) : (l.map bv).toArray = gA 64 (mkF m l 0) := by
  rw [gA_list, h]
  exact gA_ext fun j _ => by unfold mkF; rw [if_neg (by omega)]
theorem mkF_set (m : UInt8) (l : List UInt8) (k : Nat) : ∀ j, j < 64 → mkF m l (k + 1) j = if j = k then bv (xr (l.getD k 0) m) else mkF m l k j := fun j _ => by
  unfold mkF
  by_cases e : j = k
  · subst e
    rw [if_pos (by omega), if_pos rfl]
  · rw [if_neg e]
    by_cases h : j < k
    · rw [if_pos h, if_pos (by omega)]
    · rw [if_neg h, if_neg (by omega)]
theorem mkF_all (m : UInt8) (l : List UInt8) (h : l.length = 64) : gA 64 (mkF m l 64) = ((xorB m l).map bv).toArray := by
  rw [gA_list, xorB_len, h]
  refine gA_ext fun j hj => ?_
  unfold mkF xorB
  rw [if_pos hj]
  simp [h, hj]
theorem mkF_self (m : UInt8) (l : List UInt8) (k : Nat) : mkF m l k k = .int .u8 ((l.getD k 0).toNat : Int) := by
  unfold mkF
  rw [if_neg (by omega)]
  rfl
theorem mkF_one (m : UInt8) (l : List UInt8) (k : Nat) : (gA 64 (mkF m l k)).all (·.oneCell') = true := by
  rw [Array.all_eq_true_iff_forall_mem]
  intro v hv
  have hv' : v ∈ (List.range 64).map (mkF m l k) := by simpa [gA] using hv
  obtain ⟨i, _, rfl⟩ := List.mem_map.1 hv'
  rfl
theorem zeros_g (n : Nat) : (Array.replicate n (Value.int .u8 0)) = gA n (fun _ => bv 0) := by
  apply Array.ext_getElem?
  intro j
  by_cases h : j < n
  · rw [gA_at _ _ h]; simp [h]; rfl
  · rw [Array.getElem?_eq_none (by simp; omega), Array.getElem?_eq_none (by rw [gA_size]; omega)]
set_option maxHeartbeats 4000000 in
set_option maxRecDepth 100000 in
theorem mask_any (w : World) (l : List UInt8) (m : UInt8) (hl : l.length = 64) :
    Calls Tryd.prog 22 #[.agg (l.map bv).toArray, .int .u8 (m.toNat : Int)] w fun e w' => e = .returned (.agg ((xorB m l).map bv).toArray) ∧ Below w.heap.size w w' := by
  have HL := kept hl
  have HA := kept (mkF_all m l hl)
  rw [mkF_zero m l hl]
  clear hl
  go_enter Tryd.func22, Tryd.ntmps22
  go_wp2_with fail
  go_name_world W0 hW0
  have HB0 := kept (show Blk W0 w.heap.size 44 (gA 64 (mkF m l 0)) by
    rw [← hW0]
    exact (Blk.new w _ _).alloc _)
  have HR0 := kept (show Blk W0 (w.heap.size + 1) 44 (gA 64 (fun _ => bv 0)) by
    rw [← hW0, ← zeros_g]
    have n2 := Blk.new (w.alloc (.cells (gA 64 (mkF m l 0)) 44)) 44 (Array.replicate 64 (.int .u8 0))
    simp only [World.size_alloc] at n2
    exact n2)
  have HW0 := kept (show Below w.heap.size w W0 by
    rw [← hW0]
    exact ((Below.refl _ _).alloc (Nat.le_refl _) _).alloc (by simp) _)
  clear hW0
  go_loopw [6] (fun i wr => ∃ k : Nat, k ≤ 64 ∧ i = .int .i64 k ∧ Kept (Blk wr w.heap.size 44 (gA 64 (mkF m l k))) ∧ Kept (Blk wr (w.heap.size + 1) 44 (gA 64 (fun _ => bv 0))) ∧ Kept (Below w.heap.size w wr)) (fun i _ => 64 - (intOf i).toNat)
  case atStart => exact ⟨0, Nat.zero_le _, rfl, HB0, HR0, HW0⟩
  case round =>
    obtain ⟨k, hk, rfl, HB1, HR1, HW1⟩ := hrel
    rename World => W1
    clear HB0 HR0 HW0
    by_cases hlt : k < 64
    · have c1 : W1.cell? ⟨w.heap.size, k, none⟩ = some (.int .u8 ((l.getD k 0).toNat : Int)) := by rw [HB1.out.cell, ← mkF_self m]; exact gA_at _ _ hlt
      have f1 := HB1.out.frozen k
      have HS := kept (mkF_set m l k)
      generalize l.getD k 0 = x at c1 HS
      have hx := x8 x m
      go_wp2
      go_roundw
      case rel =>
        refine ⟨k + 1, by omega, by go_num, kept (HB1.out.putG k _ HS.out), kept (HR1.out.far (by show w.heap.size + 1 ≠ w.heap.size; omega) _), kept (HW1.out.setCell (p := ⟨w.heap.size, k, none⟩) (Nat.le_refl _) _)⟩
      case measure => simp [intOf]; omega
    · obtain rfl : k = 64 := by omega
      go_wp2_with (first | (refine wpList_load_row rfl 44 _ rfl w.heap.size rfl 44 (gA 64 (mkF m l 64)) (0,0) _ HB1.out Tryd.underlying44 rfl (by rw [b64_size, gA_size]) ?_) | (refine wpList_store_row rfl 44 _ _ rfl (w.heap.size + 1) (gA 64 (mkF m l 64)) rfl rfl 44 (gA 64 (fun _ => bv 0)) HR1.out (by rw [b64_size, gA_size]) (by rw [gA_size, gA_size]) (mkF_one _ _ _) ?_))
      exact bodyPost_ret (v := .agg (gA 64 (mkF m l 64))) (results_cell_row Tryd.results22 _ _ (w.heap.size + 1) 44 (gA 64 (mkF m l 64)) (0, 0) _ rfl (setRow_heap _ _ _ _ _ _ HR1.out) Tryd.underlying44 rfl (by rw [b64_size, gA_size])) rfl ⟨by rw [HA.out], below_setRow HW1.out (by omega) _⟩
end Go.Proofs.YtgplkdnffbappaaDoor
