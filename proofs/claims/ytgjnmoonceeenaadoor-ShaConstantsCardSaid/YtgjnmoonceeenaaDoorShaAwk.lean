/-
  The fixed examples that every statement of layer 4 checks first are met.
-/
import Derived.Test.YtgjnmoonceeenaaDoorShaSum
import Derived.Lib.SmallJoins
namespace Go.Proofs.YtgjnmoonceeenaaDoor
open Go.RowKit
set_option linter.unusedVariables false
set_option linter.unusedSimpArgs false

theorem dig_none : ((digest []).getD 0 0, (digest []).getD 1 0, (digest []).getD 2 0, (digest []).getD 31 0) = ((0xe3, 0xb0, 0xc4, 0x55) : UInt8 × UInt8 × UInt8 × UInt8) := by decide +kernel
theorem dig_abc : ((digest [97, 98, 99]).getD 0 0, (digest [97, 98, 99]).getD 1 0, (digest [97, 98, 99]).getD 2 0, (digest [97, 98, 99]).getD 31 0) = ((0xba, 0x78, 0x16, 0xad) : UInt8 × UInt8 × UInt8 × UInt8) := by decide +kernel
theorem dig_len (m : List UInt8) : (digest m).length = 32 := by simp [digest, dig32]
theorem pad_zero : (padL 0).length = 64 := by decide +kernel
theorem memM_one {w : World} {A1 : Option Addr} {q1 c1 g : Nat} {l1 : List UInt8} (hg : g = w.heap.size) (h1 : Mem w q1 A1 l1) (hc : l1.length ≤ c1) :
    MemM (w.alloc (.cells #[.slice A1 l1.length c1] 24)) g (some ⟨g, 0, none⟩) [l1] := by
  subst hg
  refine .inr ⟨0, rfl, fun j l hj => ?_⟩
  rcases j with _ | j
  · obtain rfl : l1 = l := by simpa using hj
    exact ⟨A1, q1, c1, by rw [(Blk.new w 24 #[.slice A1 l1.length c1]).cell]; rfl, h1.alloc _, hc⟩
  · simp at hj
theorem sum_none (w : World) (hK : KAt w) : Calls Tryd.prog 10 #[.slice none 0 0] w fun e w' => e = .returned (.agg ((digest []).map bv).toArray) ∧ Below w.heap.size w w' :=
  ssum_any w 0 none 0 0 [] hK rfl (.inl rfl) (by simp) (by simp)
theorem list_cell {w : World} {g : Nat} {t : TypeId} {l : List UInt8} (h : Blk w g t (l.map bv).toArray) (k : Nat) (hk : k < l.length) : w.cell? ⟨g, k, none⟩ = some (.int .u8 ((l.getD k 0).toNat : Int)) := by
  rw [h.cell, gA_list, gA_at _ _ hk]
  rfl
theorem mem_mark {w : World} {l : List UInt8} {cs : Array Value} {t : TypeId} {fr : Nat × Nat} {g : Nat} (hg : g = w.heap.size) (h : cs = (l.map bv).toArray) : Mem (w.alloc (.cells cs t fr)) g (some ⟨g, 0, none⟩) l := by
  subst h
  subst hg
  refine .inr ⟨0, rfl, fun j b hj => ?_⟩
  rw [World.cell?_alloc_mark]
  simp [hj, bv]
theorem const_zero (w : World) (hn : KAt w) : Calls Tryd.prog 16 #[.int .i64 0] w fun e w' => e = .returned (.tuple #[.int .u32 1116352408, .bool true]) ∧ w = w' := const_yes 0 w hn (by omega)
theorem ix_zero (w : World) : (Instr.index 32 (.agg (stA startS)) (.int .i64 0)).run Tryd.prog w = .ok (.int .u32 1779033703) w := ix_s8 startS 0 (by omega) w
theorem pad_awake (w : World) : Calls Tryd.prog 20 #[.int .i64 0] w fun e w' => ∃ A c, e = .returned (.slice A 64 c) ∧ Below w.heap.size w w' :=
  (spad_any w 0 (by omega)).mono fun e w' ⟨v, he, hown, hb⟩ => by
    obtain ⟨A, q, c, rfl, _⟩ := hown.form
    rw [pad_zero] at he
    exact ⟨A, c, he, hb⟩
set_option maxHeartbeats 4000000 in
set_option maxRecDepth 100000 in
theorem awake_any (w : World) (hK : KAt w) : Calls Tryd.prog 8 #[] w fun e w' => e = .returned (.bool true) ∧ Below w.heap.size w w' := by
  have HK := kept hK
  clear hK
  obtain ⟨D0, hD0⟩ : ∃ D, digest [] = D := ⟨_, rfl⟩
  obtain ⟨D1, hD1⟩ : ∃ D, digest [97, 98, 99] = D := ⟨_, rfl⟩
  have hn0 := dig_none
  have hn1 := dig_abc
  have hl0 : D0.length = 32 := by rw [← hD0, dig_len]
  have hl1 : D1.length = 32 := by rw [← hD1, dig_len]
  rw [hD0] at hn0
  rw [hD1] at hn1
  simp only [Prod.mk.injEq] at hn0 hn1
  have H0 := kept hn0
  have H1 := kept hn1
  have HD0 := kept hD0
  have HD1 := kept hD1
  clear hn0 hn1 hD0 hD1
  have kc := fun (w : World) (C : Array Value) (n c g : Nat) (hg : g = w.heap.size) => Go.Joins.run_convert_bytes_const_at (P := Tryd.prog) w 24 5 C n c g hg Tryd.underlying24 Tryd.underlying5
  go_enter Tryd.func8, Tryd.ntmps8
  go_wp2_with fail
  refine (sum_none w HK.out).mono ?_
  rintro e w1 ⟨rfl, hb1⟩
  rw [HD0.out]
  go_wp2_with (refine wpList_store_row rfl 26 _ _ rfl w1.heap.size (D0.map bv).toArray rfl rfl 26 (Array.replicate 32 (.int .u8 0)) (Blk.new w1 _ _) ?hi2 ?ho (all_oneCell_toArray (oneCell_bv D0)) ?_)
  case hi2 => rw [b32_size]; simp [hl0]
  case ho => simp [hl0]
  have hX : Blk ((w1.alloc (.cells (Array.replicate 32 (.int .u8 0)) 26)).setRow w1.heap.size (D0.map bv).toArray) w1.heap.size 26 (D0.map bv).toArray := setRow_heap _ _ _ _ _ _ (Blk.new w1 _ _)
  have hwX : Below w.heap.size w ((w1.alloc (.cells (Array.replicate 32 (.int .u8 0)) 26)).setRow w1.heap.size (D0.map bv).toArray) := below_setRow (hb1.alloc hb1.size _) hb1.size _
  have hsX : ((w1.alloc (.cells (Array.replicate 32 (.int .u8 0)) 26)).setRow w1.heap.size (D0.map bv).toArray).heap.size = w1.heap.size + 1 := by simp
  change Calls _ _ _ ((((w1.alloc (.cells (Array.replicate 32 (.int .u8 0)) 26)).setRow w1.heap.size (D0.map bv).toArray).alloc (.cells #[.int .u8 97, .int .u8 98, .int .u8 99] 5 (3, 4))).alloc (.cells #[.slice (some ⟨w1.heap.size + 1, 0, none⟩) 3 3] 24)) _
  generalize (w1.alloc (.cells (Array.replicate 32 (.int .u8 0)) 26)).setRow w1.heap.size (D0.map bv).toArray = X at hX hwX hsX ⊢
  have hma : Mem (X.alloc (.cells #[.int .u8 97, .int .u8 98, .int .u8 99] 5 (3, 4))) (w1.heap.size + 1) (some ⟨w1.heap.size + 1, 0, none⟩) [97, 98, 99] := mem_mark hsX.symm rfl
  have hmm := memM_one (g := w1.heap.size + 1 + 1) (c1 := 3) (by simp [hsX]) hma (by simp)
  have hX2 := (hX.alloc (.cells #[.int .u8 97, .int .u8 98, .int .u8 99] 5 (3, 4))).alloc (.cells #[.slice (some ⟨w1.heap.size + 1, 0, none⟩) 3 3] 24)
  have hwX2 := (hwX.alloc hwX.size (.cells #[.int .u8 97, .int .u8 98, .int .u8 99] 5 (3, 4))).alloc (hwX.alloc hwX.size _).size (.cells #[.slice (some ⟨w1.heap.size + 1, 0, none⟩) 3 3] 24)
  refine (ssum_any _ _ _ 1 1 [[97, 98, 99]] (HK.out.below0 hwX2) rfl hmm (by simp) (by simp)).mono ?_
  rintro e w2 ⟨rfl, hb2⟩
  have HX3 := kept (hX2.below hb2 hX2.lt)
  have HW3 := kept (hwX2.trans (hb2.mono hwX2.size))
  have hlt3 := HX3.out.lt
  clear hX hwX hma hmm hX2 hwX2 hb2 kc
  rw [show [[97, 98, 99]].flatten = ([97, 98, 99] : List UInt8) from rfl, HD1.out]
  go_wp2_with (refine wpList_store_row rfl 26 _ _ rfl w2.heap.size (D1.map bv).toArray rfl rfl 26 (Array.replicate 32 (.int .u8 0)) (Blk.new w2 _ _) ?hi2 ?ho (all_oneCell_toArray (oneCell_bv D1)) ?_)
  case hi2 => rw [b32_size]; simp [hl1]
  case ho => simp [hl1]
  have hY : Blk ((w2.alloc (.cells (Array.replicate 32 (.int .u8 0)) 26)).setRow w2.heap.size (D1.map bv).toArray) w2.heap.size 26 (D1.map bv).toArray := setRow_heap _ _ _ _ _ _ (Blk.new w2 _ _)
  have hwY : Below w.heap.size w ((w2.alloc (.cells (Array.replicate 32 (.int .u8 0)) 26)).setRow w2.heap.size (D1.map bv).toArray) := below_setRow (HW3.out.alloc HW3.out.size _) HW3.out.size _
  have hX4 : Blk ((w2.alloc (.cells (Array.replicate 32 (.int .u8 0)) 26)).setRow w2.heap.size (D1.map bv).toArray) w1.heap.size 26 (D0.map bv).toArray := (HX3.out.alloc _).keep (setRow_other _ _ _ _ (by omega))
  change Calls _ _ _ ((w2.alloc (.cells (Array.replicate 32 (.int .u8 0)) 26)).setRow w2.heap.size (D1.map bv).toArray) _
  generalize (w2.alloc (.cells (Array.replicate 32 (.int .u8 0)) 26)).setRow w2.heap.size (D1.map bv).toArray = Y at hY hwY hX4 ⊢
  have x0 := list_cell hX4 0 (by omega)
  have x1 := list_cell hX4 1 (by omega)
  have x2 := list_cell hX4 2 (by omega)
  have x31 := list_cell hX4 31 (by omega)
  have y0 := list_cell hY 0 (by omega)
  have y1 := list_cell hY 1 (by omega)
  have y2 := list_cell hY 2 (by omega)
  have y31 := list_cell hY 31 (by omega)
  rw [H0.out.1] at x0
  rw [H0.out.2.1] at x1
  rw [H0.out.2.2.1] at x2
  rw [H0.out.2.2.2] at x31
  rw [H1.out.1] at y0
  rw [H1.out.2.1] at y1
  rw [H1.out.2.2.1] at y2
  rw [H1.out.2.2.2] at y31
  have HKY := kept (HK.out.below0 hwY)
  have HWY := kept hwY
  clear hX4 hY hwY HX3 HW3 hlt3 hsX
  refine (const_zero Y HKY.out).mono ?_
  rintro e w3 ⟨rfl, rfl⟩
  go_wp2_with fail
  refine (const_no 64 Y (by omega)).mono ?_
  rintro e w3 ⟨rfl, rfl⟩
  have hix := ix_zero
  go_wp2_with (first | (go_at_call 19; refine (sstart_any _).mono ?_; rintro e w4 ⟨rfl, hb4⟩) | (go_at_call 20; refine (pad_awake _).mono ?_; rintro e w5 ⟨A5, c5, rfl, hb5⟩))
  go_ret
  exact ⟨rfl, (HWY.out.trans (hb4.mono HWY.out.size)).trans (hb5.mono (HWY.out.trans (hb4.mono HWY.out.size)).size)⟩
end Go.Proofs.YtgjnmoonceeenaaDoor
