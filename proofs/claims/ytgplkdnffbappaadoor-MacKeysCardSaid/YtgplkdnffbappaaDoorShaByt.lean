/-
  The digester's bytes, by a contract; the bytes of a digest.
-/
import Derived.Test.YtgplkdnffbappaaDoorShaDgM
namespace Go.Proofs.YtgplkdnffbappaaDoor
open Go.RowKit
set_option linter.unusedVariables false
set_option linter.unusedSimpArgs false

def digB (s : St) (i : Nat) : UInt8 := UInt8.ofNat ((stF s (i / 4)).toNat / 2 ^ (24 - 8 * (i % 4)) % 256)
def dig32 (s : St) : List UInt8 := (List.range 32).map (digB s)
/-- The first n bytes of a digest, zeros behind. -/
def dgF (s : St) (n : Nat) : Nat → Value := fun j => bv (if j < n then digB s j else 0)
theorem dgF_zero (s : St) : (Array.replicate 32 (Value.int .u8 0)) = gA 32 (dgF s 0) := by
  unfold dgF
  rfl
theorem dgF_set (s : St) (n : Nat) : ∀ j, j < 32 → dgF s (n + 1) j = if j = n then bv (digB s n) else dgF s n j := fun j _ => by
  unfold dgF
  by_cases e : j = n
  · subst e
    rw [if_pos (by omega), if_pos rfl]
  · rw [if_neg e]
    by_cases h : j < n
    · rw [if_pos h, if_pos (by omega)]
    · rw [if_neg h, if_neg (by omega)]
theorem dgF_all (s : St) : gA 32 (dgF s 32) = ((dig32 s).map bv).toArray := by
  unfold dig32
  rw [gA_map]
  exact gA_ext fun j h => by unfold dgF; rw [if_pos h]
theorem dig_num (s : St) (n : Nat) : wi (stF s (n / 4)) / 2 ^ (24 - 8 * (n % 4)) % 256 = ((digB s n).toNat : Int) := by
  unfold digB wi
  rw [ofNat_toNat, Int.natCast_emod, Int.natCast_ediv, Int.natCast_pow]
  rfl
theorem b32_size : (Tryd.prog.info? 26).map (·.size) = some 32 := by kernel_rfl
theorem dgF_one (s : St) (n : Nat) : (gA 32 (dgF s n)).all (·.oneCell') = true := by
  rw [Array.all_eq_true_iff_forall_mem]
  intro v hv
  have hv' : v ∈ (List.range 32).map (dgF s n) := by simpa [gA] using hv
  obtain ⟨i, _, rfl⟩ := List.mem_map.1 hv'
  rfl
theorem st_at {s : St} {buf : List UInt8} {u : Int} {w : World} {g : Nat} {t : TypeId} (h : Blk w g t (dgA s buf u)) (j : Nat) (hj : j < 8) : w.cell? ⟨g, j, none⟩ = some (.int .u32 (wi (stF s j))) := by
  have := dg_state h j (wv (stF s j)) (by
    rw [Array.getElem?_toList, v8_st]
    exact v8_at _ hj)
  rw [Nat.zero_add] at this
  exact this
set_option maxHeartbeats 4000000 in
set_option maxRecDepth 100000 in
theorem dbytes_any (w : World) (g : Nat) (s : St) (buf : List UInt8) (z : Int) (hB : Blk w g 56 (dgA s buf z)) :
    Calls Tryd.prog 33 #[.pointer (some ⟨g, 0, none⟩)] w fun e w' => e = .returned (.agg ((dig32 s).map bv).toArray) ∧ Below w.heap.size w w' := by
  have hg := hB.lt
  have HB := kept hB
  clear hB
  go_enter Tryd.func33, Tryd.ntmps33
  go_wp2
  go_name_world W0 hW0
  have HR0 := kept (show Blk W0 w.heap.size 26 (gA 32 (dgF s 0)) by
    rw [← hW0, ← dgF_zero]
    exact (Blk.new w _ _).alloc _)
  have HT0 := kept (show Blk W0 (w.heap.size + 1) 26 (gA 32 (dgF s 0)) by
    rw [← hW0, ← dgF_zero]
    have n2 := Blk.new (w.alloc (.cells (Array.replicate 32 (.int .u8 0)) 26)) 26 (Array.replicate 32 (.int .u8 0))
    simp only [World.size_alloc] at n2
    exact n2)
  have HW0 := kept (show Below w.heap.size w W0 by
    rw [← hW0]
    exact ((Below.refl _ _).alloc (Nat.le_refl _) _).alloc (by simp) _)
  clear hW0
  go_loopw [5] (fun i wr => ∃ n : Nat, n ≤ 32 ∧ i = .int .i64 n ∧ Kept (Blk wr w.heap.size 26 (gA 32 (dgF s 0))) ∧ Kept (Blk wr (w.heap.size + 1) 26 (gA 32 (dgF s n))) ∧ Kept (Below w.heap.size w wr)) (fun i _ => 32 - (intOf i).toNat)
  case atStart => exact ⟨0, Nat.zero_le _, rfl, HR0, HT0, HW0⟩
  case round =>
    obtain ⟨n, hn, rfl, HR1, HT1, HW1⟩ := hrel
    rename World => W1
    clear HR0 HT0 HW0
    by_cases hlt : n < 32
    · have c1 := st_at (HB.out.below HW1.out hg) (n / 4) (by omega)
      have c2 : W1.cell? ⟨w.heap.size + 1, n, none⟩ = some (dgF s n n) := by rw [HT1.out.cell]; exact gA_at _ _ hlt
      have f2 := HT1.out.frozen n
      have hnum := dig_num s n
      have HN := kept hnum
      clear hnum
      go_wp2
      go_roundw
      case rel =>
        refine ⟨n + 1, by omega, by go_num, kept (HR1.out.far (by show w.heap.size ≠ w.heap.size + 1; omega) _), kept ?_, kept (HW1.out.setCell (p := ⟨w.heap.size + 1, n, none⟩) (by show w.heap.size ≤ w.heap.size + 1; omega) _)⟩
        rw [HN.out]
        exact HT1.out.putG n (bv (digB s n)) (dgF_set s n)
      case measure => simp [intOf]; omega
    · obtain rfl : n = 32 := by omega
      go_wp2_with (first | (refine wpList_load_row rfl 26 _ rfl (w.heap.size + 1) rfl 26 (gA 32 (dgF s 32)) (0,0) _ ?hg Tryd.underlying26 rfl ?hi ?_) | (refine wpList_store_row rfl 26 _ _ rfl w.heap.size (gA 32 (dgF s 32)) rfl rfl 26 (gA 32 (dgF s 0)) ?hg2 ?hi2 ?ho ?h1 ?_))
      case hg => exact HT1.out
      case hi => rw [b32_size, gA_size]
      case hg2 => exact HR1.out
      case hi2 => rw [b32_size, gA_size]
      case ho => rw [gA_size, gA_size]
      case h1 => exact dgF_one _ _
      exact bodyPost_ret (v := .agg (gA 32 (dgF s 32))) (results_cell_row Tryd.results33 _ _ w.heap.size 26 (gA 32 (dgF s 32)) (0, 0) _ rfl (setRow_heap _ _ _ _ _ _ HR1.out) Tryd.underlying26 rfl (by rw [b32_size, gA_size])) rfl ⟨by rw [dgF_all], below_setRow HW1.out (Nat.le_refl _) _⟩
end Go.Proofs.YtgplkdnffbappaaDoor
