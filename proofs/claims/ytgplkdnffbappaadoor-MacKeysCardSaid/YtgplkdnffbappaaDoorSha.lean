/-
  Contracts of package sha: rot.
-/
import Derived.Test.YtgplkdnffbappaaDoorShaRefB
namespace Go.Proofs.YtgplkdnffbappaaDoor
open Go.RowKit
set_option linter.unusedVariables false

theorem and31 (n m : Nat) (h0 : 0 < n) (h : n + m = 32) : bits .and .u64 (IntKind.u64.wrap (-(n : Int))) 31 = (m : Int) := by
  have : ∀ k : Nat, k < 32 → 0 < k → bits .and .u64 (IntKind.u64.wrap (-(k : Int))) 31 = ((32 - k : Nat) : Int) := by decide +kernel
  by_cases hm : n = 32
  · obtain rfl : m = 0 := by omega
    subst hm
    decide +kernel
  · rw [this n (by omega) h0]
    congr 1
    omega
theorem rotr_flip (n m : Nat) (x : Wd) (h : n + m = 32) : bits .or .u32 (wi x * (2 ^ m : Nat) % 4294967296) (wi x / (2 ^ n : Nat)) = wi (rotr n x) := by
  rw [b_shr, b_shl, b_or]
  unfold rotr
  rw [BitVec.or_comm, show 32 - n = m by omega]
theorem rotl_any (x : Wd) (n : Nat) (w : World) (h0 : 0 < n) (hn : n < 32) : Calls Tryd.prog 39 #[.int .u32 (wi x), .int .i64 (-(n : Int))] w fun e w' => e = .returned (.int .u32 (wi (rotr n x))) ∧ w = w' := by
  have hx := wi_lo x
  have hx' := wi_hi x
  obtain ⟨m, hm⟩ : ∃ m, n + m = 32 := ⟨32 - n, by omega⟩
  have ha := and31 n m h0 hm
  have HR := kept (rotr_flip n m x hm)
  have hm0 : ¬ (32 < m) := by omega
  have hm1 : m < 32 := by omega
  have hm2 : (32 : Int) - (m : Int) = (n : Int) := by omega
  clear hm
  go_enter Tryd.func39, Tryd.ntmps39
  go_wp2
  go_ret
  refine ⟨ret_i ?_, rfl⟩
  have e := HR.out
  rw [Int.natCast_pow, Int.natCast_pow] at e
  exact e
theorem srot_any (x : Wd) (n : Nat) (w : World) (h0 : 0 < n) (hn : n < 32) : Calls Tryd.prog 38 #[.int .u32 (wi x), .int .i64 (n : Int)] w fun e w' => e = .returned (.int .u32 (wi (rotr n x))) ∧ w = w' := by
  have hr := fun w => rotl_any x n w h0 hn
  have HR := kept hr
  clear hr
  go_enter Tryd.func38, Tryd.ntmps38
  go_wp2_with (go_at_call 39; refine (HR.out _).mono ?_; rintro e w' ⟨rfl, rfl⟩)
  go_ret
  exact ⟨rfl, rfl⟩
theorem srot_i (x : Wd) (z : Int) (w : World) (h0 : 0 < z) (h1 : z < 32) : Calls Tryd.prog 38 #[.int .u32 (wi x), .int .i64 z] w fun e w' => e = .returned (.int .u32 (wi (rotr z.toNat x))) ∧ w = w' := by
  obtain ⟨n, rfl⟩ := Int.eq_ofNat_of_zero_le (show 0 ≤ z by omega)
  exact srot_any x n w (by omega) (by omega)

set_option maxHeartbeats 1000000 in
set_option maxRecDepth 100000 in
theorem sstart_any (w : World) : Calls Tryd.prog 30 #[] w fun e w' => e = .returned (.agg (stA startS)) ∧ Below w.heap.size w w' := by
  go_enter Tryd.func30, Tryd.ntmps30
  go_wp2
  exact bodyPost_ret (v := .agg (stA startS)) (by simp [results, Tryd.results30, go_sem]; rfl) rfl ⟨rfl, (Below.refl _ _).alloc (Nat.le_refl _) _⟩

/-- The constants, in memory: the variable of package sha. -/
def kF (j : Nat) : Wd := kList.getD j 0
theorem kList_len : kList.length = 64 := rfl
theorem kF_map : (List.range 64).map kF = kList := by rfl
theorem kA_eq : (kList.map wv).toArray = wA kF := by
  unfold wA
  rw [← kF_map, List.map_map]
  rfl
def KAt (w : World) : Prop := ∃ t fr, w.heap[0]? = some (.cells (wA kF) t fr)
theorem KAt.lt {w : World} (h : KAt w) : 0 < w.heap.size := by
  obtain ⟨t, fr, h⟩ := h
  rcases Nat.lt_or_ge 0 w.heap.size with hlt | hge
  · exact hlt
  · rw [Array.getElem?_eq_none hge] at h; cases h
theorem KAt.keep {w w' : World} (h : KAt w) (hb : w'.heap[0]? = w.heap[0]?) : KAt w' := by
  obtain ⟨t, fr, h⟩ := h
  exact ⟨t, fr, hb.trans h⟩
theorem KAt.below {w w' : World} {B : Nat} (h : KAt w) (hb : Below B w w') (hB : w.heap.size ≤ B) : KAt w' := h.keep (hb.block _ (Nat.lt_of_lt_of_le h.lt hB))
theorem KAt.below0 {w w' : World} (h : KAt w) (hb : Below w.heap.size w w') : KAt w' := h.below hb (Nat.le_refl _)
theorem KAt.alloc {w : World} (h : KAt w) (o : Obj) : KAt (w.alloc o) := h.keep (Below.heap_alloc w o _ h.lt)
theorem KAt.drew {w : World} (h : KAt w) : KAt w.drew := h
theorem KAt.drewN {w : World} (h : KAt w) (n : Nat) : KAt (w.drewN n) := h
theorem KAt.cell {w : World} (h : KAt w) {k : Nat} (hk : k < 64) : w.cell? ⟨0, k, none⟩ = some (.int .u32 (wi (kF k))) := by
  obtain ⟨t, fr, h⟩ := h
  rw [cell_of_row w _ k (wA kF) t fr h]
  exact wA_at kF hk
end Go.Proofs.YtgplkdnffbappaaDoor
