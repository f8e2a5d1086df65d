/-
  Package ctr: a cipher in memory; New and Used, by contracts.
-/
import Derived.Test.YtnfgmgkdkfeekaaCcBlk
import Derived.Test.YtnfgmgkdkfeekaaCcRng
namespace Go.Proofs.Ytnfgmgkdkfeekaa
open Go.RowKit
set_option linter.unusedVariables false
set_option linter.unusedSimpArgs false

/-- The cells of a cipher. -/
def ciA (key nonce : Nat → UInt8) (u : Int) : Array Value := ((bA 16 key).toList ++ (bA 8 nonce).toList ++ [Value.int .i64 u]).toArray
/-- A cipher at block g. -/
def CAt (key nonce : Nat → UInt8) (used g : Nat) (w : World) : Prop := Blk w g 48 (ciA key nonce (used : Int))
theorem CAt.lt {key nonce : Nat → UInt8} {used g : Nat} {w : World} (h : CAt key nonce used g w) : g < w.heap.size := Blk.lt h
theorem CAt.keep {key nonce : Nat → UInt8} {used g : Nat} {w w' : World} (h : CAt key nonce used g w) (hk : w'.heap[g]? = w.heap[g]?) : CAt key nonce used g w' := Blk.keep h hk
theorem CAt.used {key nonce : Nat → UInt8} {used g : Nat} {w : World} (h : CAt key nonce used g w) : w.cell? ⟨g, 24, none⟩ = some (.int .i64 (used : Int)) := by
  rw [Blk.cell h]
  rfl
theorem CAt.key {key nonce : Nat → UInt8} {used g : Nat} {w : World} (h : CAt key nonce used g w) : w.rangeAt g 0 (bA 16 key).toList := fun j v hv => by
  have := Blk.range h j v (show ((bA 16 key).toList ++ (bA 8 nonce).toList ++ [Value.int .i64 (used : Int)])[j]? = some v by
    rw [List.append_assoc, List.getElem?_append_left (List.getElem?_eq_some_iff.1 hv).1]
    exact hv)
  exact this
theorem CAt.nonce {key nonce : Nat → UInt8} {used g : Nat} {w : World} (h : CAt key nonce used g w) : w.rangeAt g 16 (bA 8 nonce).toList := fun j v hv => by
  have hj := (List.getElem?_eq_some_iff.1 hv).1
  have hl : (bA 16 key).toList.length = 16 := by rw [Array.length_toList, bA_size]
  have := Blk.range h (16 + j) v (show ((bA 16 key).toList ++ (bA 8 nonce).toList ++ [Value.int .i64 (used : Int)])[16 + j]? = some v by
    rw [List.append_assoc, List.getElem?_append_right (by rw [hl]; omega), hl, show 16 + j - 16 = j by omega, List.getElem?_append_left hj]
    exact hv)
  rwa [Nat.zero_add] at this
theorem ciA_put (key nonce : Nat → UInt8) (u v : Int) : (ciA key nonce u).setIfInBounds 24 (.int .i64 v) = ciA key nonce v := by kernel_rfl
theorem CAt.put {key nonce : Nat → UInt8} {used g : Nat} {w : World} (h : CAt key nonce used g w) (v : Nat) : CAt key nonce v g (w.setCell ⟨g, 24, none⟩ (.int .i64 (v : Int))) := by
  have := Blk.put h 24 (.int .i64 (v : Int))
  rwa [ciA_put] at this
theorem ci_built (key nonce : Nat → UInt8) : Try.prog.built 48 [(0, .agg (bA 16 key)), (1, .agg (bA 8 nonce))] = some (ciA key nonce 0) := by kernel_rfl
theorem cused_w (w : World) (key nonce : Nat → UInt8) (used g : Nat) (hc : CAt key nonce used g w) : Calls Try.prog 17 #[.pointer (some ⟨g, 0, none⟩)] w fun e w' => e = .returned (.int .i64 (used : Int)) ∧ Below w.heap.size w w' := by
  have cu := hc.used
  go_enter Try.func17, Try.ntmps17
  go_wp2
  go_ret
  exact ⟨rfl, Below.refl _ _⟩
theorem cused_nil (w : World) : Calls Try.prog 17 #[.pointer none] w fun e w' => e = .returned (.int .i64 0) ∧ Below w.heap.size w w' := by
  go_enter Try.func17, Try.ntmps17
  go_wp2
  go_ret
  exact ⟨rfl, Below.refl _ _⟩
set_option maxHeartbeats 1000000 in
theorem cnew_any (w : World) (key nonce : Nat → UInt8) : Calls Try.prog 15 #[.agg (bA 16 key), .agg (bA 8 nonce)] w fun e w' => ∃ g, e = .returned (.pointer (some ⟨g, 0, none⟩)) ∧ w.heap.size ≤ g ∧ CAt key nonce 0 g w' ∧ Below w.heap.size w w' := by
  go_enter Try.func15, Try.ntmps15
  go_upto_region 1 with (fail)
  go_name_world W0 hW0
  have HK := kept (show Blk W0 w.heap.size 22 (bA 16 key) by rw [← hW0]; exact (Blk.new w _ _).alloc _)
  have HN := kept (show Blk W0 (w.heap.size + 1) 23 (bA 8 nonce) by
    rw [← hW0]
    have n1 := Blk.new (w.alloc (.cells (bA 16 key) 22)) 23 (bA 8 nonce)
    simpa only [World.size_alloc] using n1)
  have HW := kept (show Below w.heap.size w W0 by rw [← hW0]; exact ((Below.refl _ w).alloc (Nat.le_refl _) _).alloc (by simp) _)
  clear hW0
  go_wp2_with (first | (refine wpList_load_row rfl 22 (.tmp 2) rfl w.heap.size rfl 22 (bA 16 key) (0, 0) _ HK.out Try.underlying22 rfl (by rw [b16_size, bA_size]) ?_) | (refine wpList_load_row rfl 23 (.tmp 3) rfl (w.heap.size + 1) rfl 23 (bA 8 nonce) (0, 0) _ HN.out Try.underlying23 rfl (by rw [b8_size, bA_size]) ?_) | (refine wpList_builtA rfl 48 _ rfl [(0, .agg (bA 16 key)), (1, .agg (bA 8 nonce))] (ciA key nonce 0) rfl (ci_built key nonce) ?_))
  go_ret
  exact ⟨_, rfl, HW.out.size, Blk.new W0 _ _, HW.out.alloc HW.out.size _⟩
end Go.Proofs.Ytnfgmgkdkfeekaa
