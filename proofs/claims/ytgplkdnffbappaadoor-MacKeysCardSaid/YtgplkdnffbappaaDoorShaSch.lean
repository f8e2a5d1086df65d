/-
  The schedule of package sha.
-/
import Derived.Test.YtgplkdnffbappaaDoorSha
import Derived.Laws.CopyOwn
namespace Go.Proofs.YtgplkdnffbappaaDoor
open Go.RowKit
set_option linter.unusedVariables false

theorem w64_size : (Tryd.prog.info? 52).map (·.size) = some 64 := by kernel_rfl
theorem b64_size : (Tryd.prog.info? 44).map (·.size) = some 64 := by kernel_rfl
theorem ix_b64 (l : List UInt8) (hl : l.length = 64) (k : Nat) (hk : k < 64) (w : World) : (Instr.index 44 (.agg (l.map bv).toArray) (.int .i64 (k : Int))).run Tryd.prog w = .ok (.int .u8 ((l.getD k 0).toNat : Int)) w :=
  run_index_agg _ _ 64 Tryd.underlying44 u8_size _ Tryd.underlying5 rfl _ k _ (by rw [gA_list, gA_at _ _ (by omega)]; rfl) hk w
/-- The words of the first j bytes. -/
def G1 (l : List UInt8) (j : Nat) : Nat → Wd := fun i => if i < j / 4 then wd l i else if i = j / 4 then pw l i (j % 4) else 0
theorem G1_self (l : List UInt8) (j : Nat) : G1 l j (j / 4) = pw l (j / 4) (j % 4) := by
  unfold G1
  rw [if_neg (by omega), if_pos rfl]
theorem G1_zero (l : List UInt8) : wA (G1 l 0) = wA (fun _ => 0) := wA_ext fun j _ => by
  unfold G1
  rw [if_neg (by omega)]
  split
  · rfl
  · rfl
theorem G1_set (l : List UInt8) (j : Nat) : (wA (G1 l j)).setIfInBounds (j / 4) (wv (pw l (j / 4) (j % 4) * 256 + BitVec.ofNat 32 (l.getD j 0).toNat)) = wA (G1 l (j + 1)) := by
  rw [wA_set]
  refine wA_ext fun i hi => ?_
  have e4 : 4 * (j / 4) + j % 4 = j := by omega
  have es : pw l (j / 4) (j % 4) * 256 + BitVec.ofNat 32 (l.getD j 0).toNat = pw l (j / 4) (j % 4 + 1) := by
    rw [pw, e4]
  rw [es]
  unfold G1
  by_cases h3 : j % 4 = 3
  · have e1 : (j + 1) / 4 = j / 4 + 1 := by omega
    have e2 : (j + 1) % 4 = 0 := by omega
    rw [e1, e2, h3]
    by_cases e : i = j / 4
    · subst e
      rw [if_pos rfl, if_pos (by omega)]
      rfl
    · rw [if_neg e]
      by_cases h : i < j / 4
      · rw [if_pos h, if_pos (by omega)]
      · rw [if_neg h, if_neg e, if_neg (by omega)]
        split
        · rfl
        · rfl
  · have e1 : (j + 1) / 4 = j / 4 := by omega
    have e2 : (j + 1) % 4 = j % 4 + 1 := by omega
    rw [e1, e2]
    by_cases e : i = j / 4
    · subst e
      rw [if_pos rfl, if_neg (by omega), if_pos rfl]
    · rw [if_neg e, if_neg e, if_neg e]
theorem G1_all (l : List UInt8) : wA (G1 l 64) = wA (F3 l 16) := by
  rw [← F3_start]
  refine wA_ext fun j _ => ?_
  unfold G1 F1
  by_cases h : j < 16
  · rw [if_pos (by omega), if_pos h]
  · rw [if_neg (by omega), if_neg h]
    split
    · rfl
    · rfl
theorem wA_one (f : Nat → Wd) : (wA f).all (·.oneCell') = true := by
  rw [Array.all_eq_true_iff_forall_mem]
  intro v hv
  have hv' : v ∈ (List.range 64).map fun j => wv (f j) := by simpa [wA] using hv
  obtain ⟨i, _, rfl⟩ := List.mem_map.1 hv'
  rfl
set_option maxHeartbeats 4000000 in
set_option maxRecDepth 100000 in
theorem sched_any (w : World) (l : List UInt8) (hl : l.length = 64) :
    Calls Tryd.prog 37 #[.agg (l.map bv).toArray] w fun e w' => e = .returned (.agg (wA (SW l))) ∧ Below w.heap.size w w' := by
  have HL := kept hl
  have hix := ix_b64 l hl
  have HIX := kept hix
  clear hl hix
  go_enter Tryd.func37, Tryd.ntmps37
  go_wp2_with (refine wpList_load_row rfl 44 _ rfl w.heap.size rfl 44 (l.map bv).toArray (0,0) _ ?hg Tryd.underlying44 rfl ?hi ?_)
  case hg => exact ((Blk.new w _ _).alloc _).alloc _
  case hi =>
    rw [b64_size]
    simp [HL.out]
  go_name_world W0 hW0
  have HB := kept (show Blk W0 (w.heap.size + 1 + 1) 52 (wA (G1 l 0)) by
    rw [← hW0, G1_zero]
    have n2 := Blk.new ((w.alloc (.cells (l.map bv).toArray 44)).alloc (.cells (wA fun _ => 0) 52)) 52 (wA fun _ => 0)
    simp only [World.size_alloc] at n2
    exact n2)
  have HR := kept (show Blk W0 (w.heap.size + 1) 52 (wA fun _ => 0) by
    rw [← hW0]
    have n2 := (Blk.new (w.alloc (.cells (l.map bv).toArray 44)) 52 (wA fun _ => 0)).alloc (.cells (wA fun _ => 0) 52)
    simp only [World.size_alloc] at n2
    exact n2)
  have hbw : Below w.heap.size w W0 := by
    rw [← hW0]
    exact (((Below.refl _ _).alloc (Nat.le_refl _) _).alloc (by simp) _).alloc (by simp; omega) _
  clear hW0
  go_loopw [12] (fun i wr => ∃ n : Nat, n ≤ 64 ∧ i = .int .i64 n ∧ Kept (Blk wr (w.heap.size + 1) 52 (wA fun _ => 0)) ∧ Kept (Blk wr (w.heap.size + 1 + 1) 52 (wA (G1 l n))) ∧ Below w.heap.size w wr) (fun i _ => 64 - (intOf i).toNat)
  case atStart => exact ⟨0, Nat.zero_le _, rfl, HR, HB, hbw⟩
  case round =>
    obtain ⟨n, hn, rfl, HR1, HB1, hbw1⟩ := hrel
    rename World => W1
    clear HR HB hbw
    by_cases hlt : n < 64
    · obtain ⟨x, hx⟩ : ∃ x, pw l (n / 4) (n % 4) = x := ⟨_, rfl⟩
      obtain ⟨b, hb⟩ : ∃ b, l.getD n 0 = b := ⟨_, rfl⟩
      have hix := HIX.out n hlt
      rw [hb] at hix
      have c1 : W1.cell? ⟨w.heap.size + 1 + 1, n / 4, none⟩ = some (.int .u32 (wi x)) := by
        rw [HB1.out.cell, wA_at _ (by omega), G1_self, hx]
      have f1 := HB1.out.frozen (n / 4)
      have hset := G1_set l n
      rw [hx, hb] at hset
      have HS := kept hset
      have hx32 := wi_lo x
      have hb256 := byte_lt b
      clear hx hb hset
      go_wp2
      go_roundw
      case rel => exact ⟨n + 1, by omega, by go_num, kept (HR1.out.far (by show w.heap.size + 1 ≠ w.heap.size + 1 + 1; omega) _), kept (put_word HB1.out (b_or8 x b) HS.out), hbw1.setCell (p := ⟨w.heap.size + 1 + 1, n / 4, none⟩) (by show w.heap.size ≤ w.heap.size + 1 + 1; omega) _⟩
      case measure => simp [intOf]; omega
    · obtain rfl : n = 64 := by omega
      have HB2 := kept (show Blk W1 (w.heap.size + 1 + 1) 52 (wA (F3 l 16)) by rw [← G1_all]; exact HB1.out)
      clear HB1
      go_wp2
      go_loopw [6] (fun i wr => ∃ k : Nat, k ≤ 48 ∧ i = .int .i64 ((k + 16 : Nat) : Int) ∧ Kept (Blk wr (w.heap.size + 1) 52 (wA fun _ => 0)) ∧ Kept (Blk wr (w.heap.size + 1 + 1) 52 (wA (F3 l (k + 16)))) ∧ Below w.heap.size w wr) (fun i _ => 64 - (intOf i).toNat)
      case atStart => exact ⟨0, Nat.zero_le _, rfl, HR1, HB2, hbw1⟩
      case round =>
        obtain ⟨k, hk, rfl, HR3, HB3, hbw3⟩ := hrel
        rename World => W3
        clear HR1 HB2 hbw1
        by_cases hlk : k < 48
        · obtain ⟨x0, hx0⟩ : ∃ x, SW l k = x := ⟨_, rfl⟩
          obtain ⟨x1, hx1⟩ : ∃ x, SW l (k + 1) = x := ⟨_, rfl⟩
          obtain ⟨x9, hx9⟩ : ∃ x, SW l (k + 9) = x := ⟨_, rfl⟩
          obtain ⟨x14, hx14⟩ : ∃ x, SW l (k + 14) = x := ⟨_, rfl⟩
          have hnew := kept (show SW l (k + 16) = x0 + sg0 x1 + x9 + sg1 x14 by rw [SW_high l k hlk, hx0, hx1, hx9, hx14])
          have c0 : W3.cell? ⟨w.heap.size + 1 + 1, k, none⟩ = some (.int .u32 (wi x0)) := by rw [HB3.out.cell, wA_at _ (by omega), F3_at l _ _ (by omega), hx0]
          have c1 : W3.cell? ⟨w.heap.size + 1 + 1, k + 1, none⟩ = some (.int .u32 (wi x1)) := by rw [HB3.out.cell, wA_at _ (by omega), F3_at l _ _ (by omega), hx1]
          have c9 : W3.cell? ⟨w.heap.size + 1 + 1, k + 9, none⟩ = some (.int .u32 (wi x9)) := by rw [HB3.out.cell, wA_at _ (by omega), F3_at l _ _ (by omega), hx9]
          have c14 : W3.cell? ⟨w.heap.size + 1 + 1, k + 14, none⟩ = some (.int .u32 (wi x14)) := by rw [HB3.out.cell, wA_at _ (by omega), F3_at l _ _ (by omega), hx14]
          have c16 : W3.cell? ⟨w.heap.size + 1 + 1, k + 16, none⟩ = some (.int .u32 (wi (F3 l (k + 16) (k + 16)))) := by rw [HB3.out.cell, wA_at _ (by omega)]
          have f16 := HB3.out.frozen (k + 16)
          have l0 := wi_lo x0
          have l1 := wi_lo x1
          have l9 := wi_lo x9
          have l14 := wi_lo x14
          clear hx0 hx1 hx9 hx14
          go_wp2
          have e1 : IntKind.i64.wrap ((k : Int) + 16 - 15) = (k : Int) + 1 := (IntWalk.i64_in _ (by omega)).trans (by omega)
          have e14 : IntKind.i64.wrap ((k : Int) + 16 - 2) = (k : Int) + 14 := (IntWalk.i64_in _ (by omega)).trans (by omega)
          have t1 : ((k : Int) + 1).toNat = k + 1 := by omega
          have t14 : ((k : Int) + 14).toNat = k + 14 := by omega
          have p1 : (k : Int) + 1 < 64 := by omega
          have p14 : (k : Int) + 14 < 64 := by omega
          have o1 : 0 ≤ (k : Int) + 1 := by omega
          have o14 : 0 ≤ (k : Int) + 14 := by omega
          go_quiet (fail)
          clear e1 e14 t1 t14 p1 p14 o1 o14 c1 c14 l1 l14
          go_wp2_with (go_at_call 38; refine (srot_i _ _ _ (by decide) (by decide)).mono ?_; rintro e w' ⟨rfl, rfl⟩)
          go_name_slot 9 s9 hs9
          have hS9 : s9 = wi (sg0 x1) := by rw [← hs9, b_shr3, b_xor, b_xor]; rfl
          clear hs9
          subst hS9
          go_name_slot 10 s10 hs10
          have hS10 : s10 = wi (sg1 x14) := by rw [← hs10, b_shr10, b_xor, b_xor]; rfl
          clear hs10
          subst hS10
          go_name_world W4 hW4
          have HR4 := kept (show Blk W4 (w.heap.size + 1) 52 (wA fun _ => 0) by rw [← hW4]; exact HR3.out)
          have HB4 := kept (show Blk W4 (w.heap.size + 1 + 1) 52 (wA (F3 l (k + 16))) by rw [← hW4]; exact HB3.out)
          have hbw4 : Below w.heap.size w W4 := by rw [← hW4]; exact below_drewN hbw3 _
          have d0 : W4.cell? ⟨w.heap.size + 1 + 1, k, none⟩ = some (.int .u32 (wi x0)) := by rw [← hW4]; exact c0
          have d9 : W4.cell? ⟨w.heap.size + 1 + 1, k + 9, none⟩ = some (.int .u32 (wi x9)) := by rw [← hW4]; exact c9
          have d16 : W4.cell? ⟨w.heap.size + 1 + 1, k + 16, none⟩ = some (.int .u32 (wi (F3 l (k + 16) (k + 16)))) := by rw [← hW4]; exact c16
          have g16 : W4.frozen? ⟨w.heap.size + 1 + 1, k + 16, none⟩ = false := by rw [← hW4]; exact f16
          clear hW4 c0 c9 c16 f16 HR3 HB3 hbw3
          have e0 : IntKind.i64.wrap ((k : Int) + 16 - 16) = k := (IntWalk.i64_in _ (by omega)).trans (by omega)
          have e9 : IntKind.i64.wrap ((k : Int) + 16 - 7) = (k : Int) + 9 := (IntWalk.i64_in _ (by omega)).trans (by omega)
          have t9 : ((k : Int) + 9).toNat = k + 9 := by omega
          have t16 : ((k : Int) + 16).toNat = k + 16 := by omega
          have p9 : (k : Int) + 9 < 64 := by omega
          have p0 : (k : Int) < 64 := by omega
          have o9 : 0 ≤ (k : Int) + 9 := by omega
          have o16 : 0 ≤ (k : Int) + 16 := by omega
          go_region
          clear e0 e9 t9 p9 p0 o9 d0 d9 d16 g16
          go_wp2
          go_roundw
          case rel =>
            repeat apply Exists.intro
            refine And.intro ?_ rfl
            refine ⟨k + 1, by omega, by first | go_num | (congr 1; omega), kept ((HR4.out.far (by show w.heap.size + 1 ≠ w.heap.size + 1 + 1; omega) _).drew_), kept (Blk.drew_ (put_word (x := SW l (k + 16)) HB4.out ?_ ?_)), (hbw4.setCell (p := ⟨w.heap.size + 1 + 1, k + 16, none⟩) (by show w.heap.size ≤ w.heap.size + 1 + 1; omega) _).drew⟩
            · rw [hnew.out]
              exact b_add4 x0 (sg0 x1) x9 (sg1 x14)
            · rw [F3_set, show k + 16 + 1 = k + 1 + 16 by omega]
          case measure => simp [intOf]; omega
        · obtain rfl : k = 48 := by omega
          have HB4 := kept (show Blk W3 (w.heap.size + 1 + 1) 52 (wA (SW l)) by rw [← F3_all]; exact HB3.out)
          clear HB3
          go_wp2_with (first | (refine wpList_load_row rfl 52 _ rfl (w.heap.size + 1 + 1) rfl 52 (wA (SW l)) (0,0) _ ?hg Tryd.underlying52 rfl ?hi ?_) | (refine wpList_store_row rfl 52 _ _ rfl (w.heap.size + 1) (wA (SW l)) rfl rfl 52 (wA fun _ => 0) ?hg2 ?hi2 ?ho ?h1 ?_))
          case hg => exact HB4.out
          case hi => rw [w64_size, wA_size]
          case hg2 => exact HR3.out
          case hi2 => rw [w64_size, wA_size]
          case ho => rw [wA_size, wA_size]
          case h1 => exact wA_one _
          exact bodyPost_ret (v := .agg (wA (SW l))) (results_cell_row Tryd.results37 _ _ (w.heap.size + 1) 52 (wA (SW l)) (0, 0) _ rfl (setRow_heap _ _ _ _ _ _ HR3.out) Tryd.underlying52 rfl (by rw [w64_size, wA_size])) rfl ⟨rfl, below_setRow hbw3 (by omega) _⟩
end Go.Proofs.YtgplkdnffbappaaDoor
