/-
  The reference's Keys of package aes, by a contract.
-/
import Derived.Test.YtcjbplgjjhenkaaDoorSm5
import Derived.Laws.CopyOwn
import Derived.Deep.MidRow
import Derived.StillTailTactics
import Derived.Test.YtcjbplgjjhenkaaDoorSm4
import Derived.Lib.ItoaWalk
import Derived.RegionTactic
import Derived.BigRegion
/-
  The schedule of package sha.
-/
namespace Go.Proofs.YtcjbplgjjhenkaaDoor
open Go.RowKit
set_option linter.unusedVariables false

theorem w64_size : (Tryd.prog.info? 79).map (·.size) = some 64 := by kernel_rfl
theorem b64_size : (Tryd.prog.info? 67).map (·.size) = some 64 := by kernel_rfl
theorem ix_b64 (l : List UInt8) (hl : l.length = 64) (k : Nat) (hk : k < 64) (w : World) : (Instr.index 67 (.agg (l.map bv).toArray) (.int .i64 (k : Int))).run Tryd.prog w = .ok (.int .u8 ((l.getD k 0).toNat : Int)) w :=
  run_index_agg _ _ 64 Tryd.underlying67 u8_size _ Tryd.underlying5 rfl _ k _ (by rw [gA_list, gA_at _ _ (by omega)]; rfl) hk w
/-- The words of the first j bytes. -/
def G1 (l : List UInt8) (j : Nat) : Nat → Wd := fun i => if i < j / 4 then wd l i else if i = j / 4 then pw l i (j % 4) else 0
theorem G1_self (l : List UInt8) (j : Nat) : G1 l j (j / 4) = pw l (j / 4) (j % 4) := by
  unfold G1
  rw [if_neg (by omega), if_pos rfl]
theorem G1_zero (l : List UInt8) : wA (G1 l 0) = wA (fun _ => 0) := wA_ext fun j _ => by
  unfold G1
  rw [if_neg (by omega)]
  split
  · rfl
  · rfl
theorem G1_set (l : List UInt8) (j : Nat) : (wA (G1 l j)).setIfInBounds (j / 4) (wv (pw l (j / 4) (j % 4) * 256 + BitVec.ofNat 32 (l.getD j 0).toNat)) = wA (G1 l (j + 1)) := by
  rw [wA_set]
  refine wA_ext fun i hi => ?_
  have e4 : 4 * (j / 4) + j % 4 = j := by omega
  have es : pw l (j / 4) (j % 4) * 256 + BitVec.ofNat 32 (l.getD j 0).toNat = pw l (j / 4) (j % 4 + 1) := by
    rw [pw, e4]
  rw [es]
  unfold G1
  by_cases h3 : j % 4 = 3
  · have e1 : (j + 1) / 4 = j / 4 + 1 := by omega
    have e2 : (j + 1) % 4 = 0 := by omega
    rw [e1, e2, h3]
    by_cases e : i = j / 4
    · subst e
      rw [if_pos rfl, if_pos (by omega)]
      rfl
    · rw [if_neg e]
      by_cases h : i < j / 4
      · rw [if_pos h, if_pos (by omega)]
      · rw [if_neg h, if_neg e, if_neg (by omega)]
        split
        · rfl
        · rfl
  · have e1 : (j + 1) / 4 = j / 4 := by omega
    have e2 : (j + 1) % 4 = j % 4 + 1 := by omega
    rw [e1, e2]
    by_cases e : i = j / 4
    · subst e
      rw [if_pos rfl, if_neg (by omega), if_pos rfl]
    · rw [if_neg e, if_neg e, if_neg e]
theorem G1_all (l : List UInt8) : wA (G1 l 64) = wA (F3 l 16) := by
  rw [← F3_start]
  refine wA_ext fun j _ => ?_
  unfold G1 F1
  by_cases h : j < 16
  · rw [if_pos (by omega), if_pos h]
  · rw [if_neg (by omega), if_neg h]
    split
    · rfl
    · rfl
theorem wA_one (f : Nat → Wd) : (wA f).all (·.oneCell') = true := by
  rw [Array.all_eq_true_iff_forall_mem]
  intro v hv
  have hv' : v ∈ (List.range 64).map fun j => wv (f j) := by simpa [wA] using hv
  obtain ⟨i, _, rfl⟩ := List.mem_map.1 hv'
  rfl
set_option maxHeartbeats 4000000 in
set_option maxRecDepth 100000 in
theorem sched_any (w : World) (l : List UInt8) (hl : l.length = 64) :
    Calls Tryd.prog 67 #[.agg (l.map bv).toArray] w fun e w' => e = .returned (.agg (wA (SW l))) ∧ Below w.heap.size w w' := by
  have HL := kept hl
  have hix := ix_b64 l hl
  have HIX := kept hix
  clear hl hix
  go_enter Tryd.func67, Tryd.ntmps67
  go_wp2_with (refine wpList_load_row rfl 67 _ rfl w.heap.size rfl 67 (l.map bv).toArray (0,0) _ ?hg Tryd.underlying67 rfl ?hi ?_)
  case hg => exact ((Blk.new w _ _).alloc _).alloc _
  case hi =>
    rw [b64_size]
    simp [HL.out]
  go_name_world W0 hW0
  have HB := kept (show Blk W0 (w.heap.size + 1 + 1) 79 (wA (G1 l 0)) by
    rw [← hW0, G1_zero]
    have n2 := Blk.new ((w.alloc (.cells (l.map bv).toArray 67)).alloc (.cells (wA fun _ => 0) 79)) 79 (wA fun _ => 0)
    simp only [World.size_alloc] at n2
    exact n2)
  have HR := kept (show Blk W0 (w.heap.size + 1) 79 (wA fun _ => 0) by
    rw [← hW0]
    have n2 := (Blk.new (w.alloc (.cells (l.map bv).toArray 67)) 79 (wA fun _ => 0)).alloc (.cells (wA fun _ => 0) 79)
    simp only [World.size_alloc] at n2
    exact n2)
  have hbw : Below w.heap.size w W0 := by
    rw [← hW0]
    exact (((Below.refl _ _).alloc (Nat.le_refl _) _).alloc (by simp) _).alloc (by simp; omega) _
  clear hW0
  go_loopw [12] (fun i wr => ∃ n : Nat, n ≤ 64 ∧ i = .int .i64 n ∧ Kept (Blk wr (w.heap.size + 1) 79 (wA fun _ => 0)) ∧ Kept (Blk wr (w.heap.size + 1 + 1) 79 (wA (G1 l n))) ∧ Below w.heap.size w wr) (fun i _ => 64 - (intOf i).toNat)
  case atStart => exact ⟨0, Nat.zero_le _, rfl, HR, HB, hbw⟩
  case round =>
    obtain ⟨n, hn, rfl, HR1, HB1, hbw1⟩ := hrel
    rename World => W1
    clear HR HB hbw
    by_cases hlt : n < 64
    · obtain ⟨x, hx⟩ : ∃ x, pw l (n / 4) (n % 4) = x := ⟨_, rfl⟩
      obtain ⟨b, hb⟩ : ∃ b, l.getD n 0 = b := ⟨_, rfl⟩
      have hix := HIX.out n hlt
      rw [hb] at hix
      have c1 : W1.cell? ⟨w.heap.size + 1 + 1, n / 4, none⟩ = some (.int .u32 (wi x)) := by
        rw [HB1.out.cell, wA_at _ (by omega), G1_self, hx]
      have f1 := HB1.out.frozen (n / 4)
      have hset := G1_set l n
      rw [hx, hb] at hset
      have HS := kept hset
      have hx32 := wi_lo x
      have hb256 := byte_lt b
      clear hx hb hset
      go_wp2
      go_roundw
      case rel => exact ⟨n + 1, by omega, by go_num, kept (HR1.out.far (by show w.heap.size + 1 ≠ w.heap.size + 1 + 1; omega) _), kept (put_word HB1.out (b_or8 x b) HS.out), hbw1.setCell (p := ⟨w.heap.size + 1 + 1, n / 4, none⟩) (by show w.heap.size ≤ w.heap.size + 1 + 1; omega) _⟩
      case measure => simp [intOf]; omega
    · obtain rfl : n = 64 := by omega
      have HB2 := kept (show Blk W1 (w.heap.size + 1 + 1) 79 (wA (F3 l 16)) by rw [← G1_all]; exact HB1.out)
      clear HB1
      go_wp2
      go_loopw [6] (fun i wr => ∃ k : Nat, k ≤ 48 ∧ i = .int .i64 ((k + 16 : Nat) : Int) ∧ Kept (Blk wr (w.heap.size + 1) 79 (wA fun _ => 0)) ∧ Kept (Blk wr (w.heap.size + 1 + 1) 79 (wA (F3 l (k + 16)))) ∧ Below w.heap.size w wr) (fun i _ => 64 - (intOf i).toNat)
      case atStart => exact ⟨0, Nat.zero_le _, rfl, HR1, HB2, hbw1⟩
      case round =>
        obtain ⟨k, hk, rfl, HR3, HB3, hbw3⟩ := hrel
        rename World => W3
        clear HR1 HB2 hbw1
        by_cases hlk : k < 48
        · obtain ⟨x0, hx0⟩ : ∃ x, SW l k = x := ⟨_, rfl⟩
          obtain ⟨x1, hx1⟩ : ∃ x, SW l (k + 1) = x := ⟨_, rfl⟩
          obtain ⟨x9, hx9⟩ : ∃ x, SW l (k + 9) = x := ⟨_, rfl⟩
          obtain ⟨x14, hx14⟩ : ∃ x, SW l (k + 14) = x := ⟨_, rfl⟩
          have hnew := kept (show SW l (k + 16) = x0 + sg0 x1 + x9 + sg1 x14 by rw [SW_high l k hlk, hx0, hx1, hx9, hx14])
          have c0 : W3.cell? ⟨w.heap.size + 1 + 1, k, none⟩ = some (.int .u32 (wi x0)) := by rw [HB3.out.cell, wA_at _ (by omega), F3_at l _ _ (by omega), hx0]
          have c1 : W3.cell? ⟨w.heap.size + 1 + 1, k + 1, none⟩ = some (.int .u32 (wi x1)) := by rw [HB3.out.cell, wA_at _ (by omega), F3_at l _ _ (by omega), hx1]
          have c9 : W3.cell? ⟨w.heap.size + 1 + 1, k + 9, none⟩ = some (.int .u32 (wi x9)) := by rw [HB3.out.cell, wA_at _ (by omega), F3_at l _ _ (by omega), hx9]
          have c14 : W3.cell? ⟨w.heap.size + 1 + 1, k + 14, none⟩ = some (.int .u32 (wi x14)) := by rw [HB3.out.cell, wA_at _ (by omega), F3_at l _ _ (by omega), hx14]
          have c16 : W3.cell? ⟨w.heap.size + 1 + 1, k + 16, none⟩ = some (.int .u32 (wi (F3 l (k + 16) (k + 16)))) := by rw [HB3.out.cell, wA_at _ (by omega)]
          have f16 := HB3.out.frozen (k + 16)
          have l0 := wi_lo x0
          have l1 := wi_lo x1
          have l9 := wi_lo x9
          have l14 := wi_lo x14
          clear hx0 hx1 hx9 hx14
          go_wp2
          have e1 : IntKind.i64.wrap ((k : Int) + 16 - 15) = (k : Int) + 1 := (IntWalk.i64_in _ (by omega)).trans (by omega)
          have e14 : IntKind.i64.wrap ((k : Int) + 16 - 2) = (k : Int) + 14 := (IntWalk.i64_in _ (by omega)).trans (by omega)
          have t1 : ((k : Int) + 1).toNat = k + 1 := by omega
          have t14 : ((k : Int) + 14).toNat = k + 14 := by omega
          have p1 : (k : Int) + 1 < 64 := by omega
          have p14 : (k : Int) + 14 < 64 := by omega
          have o1 : 0 ≤ (k : Int) + 1 := by omega
          have o14 : 0 ≤ (k : Int) + 14 := by omega
          go_quiet (fail)
          clear e1 e14 t1 t14 p1 p14 o1 o14 c1 c14 l1 l14
          go_wp2_with (go_at_call 68; refine (srot_i _ _ _ (by decide) (by decide)).mono ?_; rintro e w' ⟨rfl, rfl⟩)
          go_name_slot 9 s9 hs9
          have hS9 : s9 = wi (sg0 x1) := by rw [← hs9, b_shr3, b_xor, b_xor]; rfl
          clear hs9
          subst hS9
          go_name_slot 10 s10 hs10
          have hS10 : s10 = wi (sg1 x14) := by rw [← hs10, b_shr10, b_xor, b_xor]; rfl
          clear hs10
          subst hS10
          go_name_world W4 hW4
          have HR4 := kept (show Blk W4 (w.heap.size + 1) 79 (wA fun _ => 0) by rw [← hW4]; exact HR3.out)
          have HB4 := kept (show Blk W4 (w.heap.size + 1 + 1) 79 (wA (F3 l (k + 16))) by rw [← hW4]; exact HB3.out)
          have hbw4 : Below w.heap.size w W4 := by rw [← hW4]; exact below_drewN hbw3 _
          have d0 : W4.cell? ⟨w.heap.size + 1 + 1, k, none⟩ = some (.int .u32 (wi x0)) := by rw [← hW4]; exact c0
          have d9 : W4.cell? ⟨w.heap.size + 1 + 1, k + 9, none⟩ = some (.int .u32 (wi x9)) := by rw [← hW4]; exact c9
          have d16 : W4.cell? ⟨w.heap.size + 1 + 1, k + 16, none⟩ = some (.int .u32 (wi (F3 l (k + 16) (k + 16)))) := by rw [← hW4]; exact c16
          have g16 : W4.frozen? ⟨w.heap.size + 1 + 1, k + 16, none⟩ = false := by rw [← hW4]; exact f16
          clear hW4 c0 c9 c16 f16 HR3 HB3 hbw3
          have e0 : IntKind.i64.wrap ((k : Int) + 16 - 16) = k := (IntWalk.i64_in _ (by omega)).trans (by omega)
          have e9 : IntKind.i64.wrap ((k : Int) + 16 - 7) = (k : Int) + 9 := (IntWalk.i64_in _ (by omega)).trans (by omega)
          have t9 : ((k : Int) + 9).toNat = k + 9 := by omega
          have t16 : ((k : Int) + 16).toNat = k + 16 := by omega
          have p9 : (k : Int) + 9 < 64 := by omega
          have p0 : (k : Int) < 64 := by omega
          have o9 : 0 ≤ (k : Int) + 9 := by omega
          have o16 : 0 ≤ (k : Int) + 16 := by omega
          go_region
          clear e0 e9 t9 p9 p0 o9 d0 d9 d16 g16
          go_wp2
          go_roundw
          case rel =>
            repeat apply Exists.intro
            refine And.intro ?_ rfl
            refine ⟨k + 1, by omega, by first | go_num | (congr 1; omega), kept ((HR4.out.far (by show w.heap.size + 1 ≠ w.heap.size + 1 + 1; omega) _).drew_), kept (Blk.drew_ (put_word (x := SW l (k + 16)) HB4.out ?_ ?_)), (hbw4.setCell (p := ⟨w.heap.size + 1 + 1, k + 16, none⟩) (by show w.heap.size ≤ w.heap.size + 1 + 1; omega) _).drew⟩
            · rw [hnew.out]
              exact b_add4 x0 (sg0 x1) x9 (sg1 x14)
            · rw [F3_set, show k + 16 + 1 = k + 1 + 16 by omega]
          case measure => simp [intOf]; omega
        · obtain rfl : k = 48 := by omega
          have HB4 := kept (show Blk W3 (w.heap.size + 1 + 1) 79 (wA (SW l)) by rw [← F3_all]; exact HB3.out)
          clear HB3
          go_wp2_with (first | (refine wpList_load_row rfl 79 _ rfl (w.heap.size + 1 + 1) rfl 79 (wA (SW l)) (0,0) _ ?hg Tryd.underlying79 rfl ?hi ?_) | (refine wpList_store_row rfl 79 _ _ rfl (w.heap.size + 1) (wA (SW l)) rfl rfl 79 (wA fun _ => 0) ?hg2 ?hi2 ?ho ?h1 ?_))
          case hg => exact HB4.out
          case hi => rw [w64_size, wA_size]
          case hg2 => exact HR3.out
          case hi2 => rw [w64_size, wA_size]
          case ho => rw [wA_size, wA_size]
          case h1 => exact wA_one _
          exact bodyPost_ret (v := .agg (wA (SW l))) (results_cell_row Tryd.results67 _ _ (w.heap.size + 1) 79 (wA (SW l)) (0, 0) _ rfl (setRow_heap _ _ _ _ _ _ HR3.out) Tryd.underlying79 rfl (by rw [w64_size, wA_size])) rfl ⟨rfl, below_setRow hbw3 (by omega) _⟩
end Go.Proofs.YtcjbplgjjhenkaaDoor
/-
  Block of package sha.
-/
namespace Go.Proofs.YtcjbplgjjhenkaaDoor
open Go.RowKit
set_option linter.unusedVariables false

theorem s8_size : (Tryd.prog.info? 77).map (·.size) = some 8 := by kernel_rfl
theorem u32_size : (Tryd.prog.info? 76).map (·.size) = some 1 := by kernel_rfl
theorem ix_w64 (f : Nat → Wd) (k : Nat) (hk : k < 64) (w : World) : (Instr.index 79 (.agg (wA f)) (.int .i64 (k : Int))).run Tryd.prog w = .ok (.int .u32 (wi (f k))) w :=
  run_index_agg _ _ 64 Tryd.underlying79 u32_size _ Tryd.underlying76 rfl _ k _ (wA_at f hk) hk w
theorem ix_s8 (s : St) (k : Nat) (hk : k < 8) (w : World) : (Instr.index 77 (.agg (stA s)) (.int .i64 (k : Int))).run Tryd.prog w = .ok (.int .u32 (wi (stF s k))) w :=
  run_index_agg _ _ 8 Tryd.underlying77 u32_size _ Tryd.underlying76 rfl _ k _ (by rw [v8_st]; exact v8_at (stF s) hk) hk w
theorem stA_one (s : St) : (stA s).all (·.oneCell') = true := by simp [stA, wv, Value.oneCell']
theorem addS_comm (s q : St) : addS s q = addS q s := by
  unfold addS
  rw [BitVec.add_comm s.a, BitVec.add_comm s.b, BitVec.add_comm s.c, BitVec.add_comm s.d, BitVec.add_comm s.e, BitVec.add_comm s.f, BitVec.add_comm s.g, BitVec.add_comm s.h]
/-- The blocks of a call of Block: the state, the block, the result's variable. -/
structure Env2 (w : World) (s : St) (wr : World) : Prop where
  bel : Below w.heap.size w wr
  b0 : Blk wr w.heap.size 77 (stA s)
  b2 : Blk wr (w.heap.size + 1 + 1) 77 (Array.replicate 8 (.int .u32 0))
theorem Env2.drewN {w wr : World} {s : St} (h : Env2 w s wr) (n : Nat) : Env2 w s (wr.drewN n) := ⟨below_drewN h.bel n, h.b0, h.b2⟩
theorem Env2.later {w wr wx : World} {s : St} (h : Env2 w s wr) (hb : Below wr.heap.size wr wx) : Env2 w s wx :=
  ⟨h.bel.trans (hb.mono h.bel.size), h.b0.below hb h.b0.lt, h.b2.below hb h.b2.lt⟩
theorem t_form (q : St) (kk ww : Wd) : (wi q.h + bits BinOp.xor IntKind.u32 (bits BinOp.xor IntKind.u32 (wi (rotr 6 q.e)) (wi (rotr 11 q.e))) (wi (rotr 25 q.e)) +
      bits BinOp.xor IntKind.u32 (bits BinOp.and IntKind.u32 (wi q.e) (wi q.f)) (bits BinOp.and IntKind.u32 (bits BinOp.xor IntKind.u32 (if IntKind.u32.signed = true then -1 else IntKind.u32.max) (wi q.e)) (wi q.g)) + wi kk + wi ww) % 4294967296 = wi (stepT kk ww q) := by
  have e : (if IntKind.u32.signed = true then (-1 : Int) else IntKind.u32.max) = IntKind.u32.max := rfl
  rw [e]
  simp only [b_not, b_xor, b_and]
  exact b_add5 q.h (Sg1 q.e) (chW q.e q.f q.g) kk ww
theorem u_form (q : St) : (bits BinOp.xor IntKind.u32 (bits BinOp.xor IntKind.u32 (wi (rotr 2 q.a)) (wi (rotr 13 q.a))) (wi (rotr 22 q.a)) +
      bits BinOp.xor IntKind.u32 (bits BinOp.xor IntKind.u32 (bits BinOp.and IntKind.u32 (wi q.a) (wi q.b)) (bits BinOp.and IntKind.u32 (wi q.a) (wi q.c))) (bits BinOp.and IntKind.u32 (wi q.b) (wi q.c))) % 4294967296 = wi (stepU q) := by
  simp only [b_xor, b_and]
  exact b_add (Sg0 q.a) (majW q.a q.b q.c)
theorem val_i {k : IntKind} {a b : Int} (h : a = b) : Value.int k a = .int k b := by rw [h]
set_option maxHeartbeats 8000000 in
set_option maxRecDepth 100000 in
theorem sblock_any (w : World) (s : St) (l : List UInt8) (hl : l.length = 64) (hk : KAt w) :
    Calls Tryd.prog 59 #[.agg (stA s), .agg (l.map bv).toArray] w fun e w' => e = .returned (.agg (stA (blockS kList s l))) ∧ Below w.heap.size w w' := by
  have HSC := kept (fun w => sched_any w l hl)
  have HL := kept hl
  have HK := kept hk
  clear hl hk
  go_enter Tryd.func59, Tryd.ntmps59
  go_wp2
  go_name_world W0 hW0
  have HE : Env2 w s W0 := by
    rw [← hW0]
    refine ⟨(((Below.refl _ _).alloc (Nat.le_refl _) _).alloc (by simp) _).alloc (by simp; omega) _, ((Blk.new w _ _).alloc _).alloc _, ?_⟩
    have n2 := Blk.new ((w.alloc (.cells (stA s) 77)).alloc (.cells (l.map bv).toArray 67)) 77 (Array.replicate 8 (.int .u32 0))
    simp only [World.size_alloc] at n2
    exact n2
  have HB : Blk W0 (w.heap.size + 1) 67 (l.map bv).toArray := by
    rw [← hW0]
    have n2 := (Blk.new (w.alloc (.cells (stA s) 77)) 67 (l.map bv).toArray).alloc (.cells (Array.replicate 8 (.int .u32 0)) 77)
    simp only [World.size_alloc] at n2
    exact n2
  have HE0 := kept HE
  have HB0 := kept HB
  have b0 := HE.b0
  clear HE HB hW0
  have z0 := b0.cell 0
  have z1 := b0.cell 1
  have z2 := b0.cell 2
  have z3 := b0.cell 3
  have z4 := b0.cell 4
  have z5 := b0.cell 5
  have z6 := b0.cell 6
  have z7 := b0.cell 7
  simp only [stA, wv, List.getElem?_toArray, List.getElem?_cons_zero, List.getElem?_cons_succ] at z0 z1 z2 z3 z4 z5 z6 z7
  clear b0
  go_quiet (fail)
  go_wp2
  go_quiet (fail)
  clear z0 z1 z2 z3 z4 z5 z6 z7
  go_wp2_with (first | (refine wpList_load_row rfl 67 _ rfl (w.heap.size + 1) rfl 67 (l.map bv).toArray (0,0) _ ?hg Tryd.underlying67 rfl ?hi ?_) | (go_at_call 67; refine (HSC.out _).mono ?_; rintro e W2 ⟨rfl, hb2⟩))
  case hg => exact HB0.out
  case hi =>
    rw [b64_size]
    simp [HL.out]
  have HE2 := kept ((HE0.out.drewN _).later hb2)
  have HK2 := kept (HK.out.below0 HE2.out.bel)
  clear HE0 HB0 hb2
  go_loopw [5, 6, 7, 8, 9, 10, 11, 12, 37] (fun va vb vc vd ve vf vg vh i wr => ∃ (n : Nat) (q : St), n ≤ 64 ∧ i = .int .i64 n ∧ Kept (rounds kList (sched (words l) 48) s n = q) ∧ va = .int .u32 (wi q.a) ∧ vb = .int .u32 (wi q.b) ∧ vc = .int .u32 (wi q.c) ∧ vd = .int .u32 (wi q.d) ∧ ve = .int .u32 (wi q.e) ∧ vf = .int .u32 (wi q.f) ∧ vg = .int .u32 (wi q.g) ∧ vh = .int .u32 (wi q.h) ∧ Kept (Env2 w s wr) ∧ Kept (KAt wr)) (fun _ _ _ _ _ _ _ _ i _ => 64 - (intOf i).toNat)
  case atStart => exact ⟨0, s, Nat.zero_le _, rfl, kept rfl, rfl, rfl, rfl, rfl, rfl, rfl, rfl, rfl, HE2, HK2⟩
  case round =>
    obtain ⟨n, q, hn, rfl, HQ, rfl, rfl, rfl, rfl, rfl, rfl, rfl, rfl, HE3, HK3⟩ := hrel
    rename World => W3
    clear HE2 HK2
    by_cases hln : n < 64
    · obtain ⟨kk, hkk⟩ : ∃ q, kF n = q := ⟨_, rfl⟩
      obtain ⟨ww, hww⟩ : ∃ q, SW l n = q := ⟨_, rfl⟩
      have HN := kept (show rounds kList (sched (words l) 48) s (n + 1) = step kk ww q by
        have hk1 : kList.getD n 0 = kk := hkk
        rw [rounds, hk1, HQ.out]
        exact congrArg (fun x => step kk x q) hww)
      have hix := ix_w64 (SW l) n hln
      rw [hww] at hix
      have hc := HK3.out.cell hln
      rw [hkk] at hc
      have p0 : (0 : Int) ≤ (n : Int) := by omega
      have p1 : (n : Int) < 64 := by omega
      clear hkk hww
      go_wp2
      go_quiet ((go_at_call 68; exact quiet_eq (srot_i _ _ _ (by decide) (by decide))))
      go_wp2_with (go_at_call 68; refine (srot_i _ _ _ (by decide) (by decide)).mono ?_; rintro e w' ⟨rfl, rfl⟩)
      go_roundw
      case rel =>
        refine ⟨n + 1, step kk ww q, by omega, by go_num, HN, val_i ?_, rfl, rfl, rfl, val_i ?_, rfl, rfl, rfl, kept (HE3.out.drewN _), kept (HK3.out.drewN _)⟩
        · rw [t_form, u_form, b_add]
          rfl
        · rw [t_form, b_add]
          rfl
      case measure => simp [intOf]; omega
    · obtain rfl : n = 64 := by omega
      have HR := kept (show blockS kList s l = addS q s by unfold blockS; rw [HQ.out])
      clear HQ
      go_wp2
      go_loopw [108] (fun i wr => ∃ m : Nat, m ≤ 8 ∧ i = .int .i64 m ∧ Kept (Below w.heap.size w wr) ∧ Kept (Blk wr w.heap.size 77 (v8 (sumF s q m))) ∧ Kept (Blk wr (w.heap.size + 1 + 1) 77 (Array.replicate 8 (.int .u32 0)))) (fun i _ => 8 - (intOf i).toNat)
      case atStart => exact ⟨0, Nat.zero_le _, rfl, kept HE3.out.bel, kept (by rw [sumF_start]; exact HE3.out.b0), kept HE3.out.b2⟩
      case round =>
        obtain ⟨m, hm, rfl, HE4, HS4, HR4⟩ := hrel
        rename World => W4
        clear HE3 HK3
        by_cases hlm : m < 8
        · obtain ⟨x, hx⟩ : ∃ x, stF s m = x := ⟨_, rfl⟩
          obtain ⟨y, hy⟩ : ∃ y, stF q m = y := ⟨_, rfl⟩
          have z0 : W4.cell? ⟨w.heap.size, m, none⟩ = some (.int .u32 (wi x)) := by rw [HS4.out.cell, v8_at _ hlm, sumF_at, hx]
          have f0 := HS4.out.frozen m
          have hix := ix_s8 q m hlm
          rw [hy] at hix
          simp only [stA, wv] at hix
          have hset := sumF_set s q m
          rw [hx, hy] at hset
          have HSET := kept hset
          clear hx hy hset
          go_wp2
          go_roundw
          case rel => exact ⟨m + 1, by omega, by go_num, kept (HE4.out.setCell (p := ⟨w.heap.size, m, none⟩) (Nat.le_refl _) _), kept (put_word8 HS4.out (b_add x y) HSET.out), kept (HR4.out.far (by show w.heap.size + 1 + 1 ≠ w.heap.size; omega) _)⟩
          case measure => simp [intOf]; omega
        · obtain rfl : m = 8 := by omega
          have HB4 := kept (show Blk W4 w.heap.size 77 (stA (addS q s)) by rw [addS_comm, ← sumF_end]; exact HS4.out)
          clear HS4
          go_wp2_with (first | (refine wpList_load_row rfl 77 _ rfl w.heap.size rfl 77 (stA (addS q s)) (0,0) _ ?hg Tryd.underlying77 rfl ?hi ?_) | (refine wpList_store_row rfl 77 _ _ rfl (w.heap.size + 1 + 1) (stA (addS q s)) rfl rfl 77 (Array.replicate 8 (.int .u32 0)) ?hg2 ?hi2 ?ho ?h1 ?_))
          case hg => exact HB4.out
          case hi => rw [s8_size, stA_size]
          case hg2 => exact HR4.out
          case hi2 => rw [s8_size, stA_size]
          case ho => rfl
          case h1 => exact stA_one _
          exact bodyPost_ret (v := .agg (stA (addS q s))) (results_cell_row Tryd.results59 _ _ (w.heap.size + 1 + 1) 77 (stA (addS q s)) (0, 0) _ rfl (setRow_heap _ _ _ _ _ _ HR4.out) Tryd.underlying77 rfl (by rw [s8_size, stA_size])) rfl ⟨by rw [HR.out], below_setRow HE4.out (by omega) _⟩
end Go.Proofs.YtcjbplgjjhenkaaDoor
/-
  A digester in memory: what its cells hold after some bytes; plain laws.
-/
namespace Go.Proofs.YtcjbplgjjhenkaaDoor
open Go.RowKit
set_option linter.unusedVariables false

/-- The state behind the first n blocks of m. -/
def foldB (s : St) (m : List UInt8) : Nat → St
  | 0 => s
  | n + 1 => blockS kList (foldB s m n) ((m.drop (64 * n)).take 64)
theorem foldB_append (s : St) (m x : List UInt8) (n : Nat) (h : 64 * n ≤ m.length) : foldB s (m ++ x) n = foldB s m n := by
  induction n with
  | zero => rfl
  | succ n ih =>
    rw [foldB, foldB, ih (by omega), List.drop_append_of_le_length (by omega), List.take_append_of_le_length (by rw [List.length_drop]; omega)]
/-- The cells of a digester. -/
def dgL (s : St) (buf : List UInt8) (u : Int) : List Value := (stA s).toList ++ (buf.map bv ++ [.int .i64 u])
def dgA (s : St) (buf : List UInt8) (u : Int) : Array Value := (dgL s buf u).toArray
theorem dgL_len (s : St) (buf : List UInt8) (u : Int) (h : buf.length = 64) : (dgL s buf u).length = 73 := by
  simp [dgL, stA, h]
theorem dgA_used (s : St) (buf : List UInt8) (u : Int) (h : buf.length = 64) : (dgA s buf u)[72]? = some (.int .i64 u) := by
  unfold dgA dgL
  rw [List.getElem?_toArray, List.getElem?_append_right (by simp [stA]), List.getElem?_append_right (by simp [stA, h])]
  simp [stA, h]
theorem dgA_set (s : St) (buf : List UInt8) (u v : Int) (h : buf.length = 64) : (dgA s buf u).setIfInBounds 72 (.int .i64 v) = dgA s buf v := by
  unfold dgA dgL
  rw [List.setIfInBounds_toArray, List.set_append_right _ _ (by simp [stA]), List.set_append_right _ _ (by simp [stA, h])]
  simp [stA, h]
theorem dgA_splice (s : St) (buf x : List UInt8) (u : Nat) (z : Int) (h : buf.length = 64) (hx : u + x.length ≤ 64) :
    ((dgA s buf z).toList.take (8 + u) ++ (x.map bv ++ (dgA s buf z).toList.drop (8 + u + (x.map bv).length))).toArray = dgA s (splice buf u x) z := by
  unfold dgA dgL splice
  have h8 : (stA s).toList.length = 8 := by simp [stA]
  congr 1
  simp only [List.length_map]
  rw [List.take_append, List.take_of_length_le (by omega), h8, show 8 + u - 8 = u by omega, List.take_append_of_le_length (by simp; omega),
    List.drop_append, List.drop_of_length_le (by omega), h8, show 8 + u + x.length - 8 = u + x.length by omega, List.drop_append_of_le_length (by simp; omega)]
  simp [List.map_take, List.map_drop]
theorem splice_take (buf x : List UInt8) (u : Nat) (hu : u ≤ buf.length) : (splice buf u x).take (u + x.length) = buf.take u ++ x := by
  unfold splice
  rw [← List.append_assoc, List.take_append_of_le_length (by simp; omega), List.take_of_length_le (by simp; omega)]
theorem splice_len (buf x : List UInt8) (u : Nat) (h : buf.length = 64) (hx : u + x.length ≤ 64) : (splice buf u x).length = 64 := by
  rw [length_splice _ _ _ (by omega), h]
/-- A digester at block g that has been given the bytes m. -/
def Dg (w : World) (g : Nat) (m : List UInt8) : Prop :=
  ∃ buf : List UInt8, buf.length = 64 ∧ Blk w g 86 (dgA (foldB startS m (m.length / 64)) buf (m.length % 64 : Nat)) ∧ buf.take (m.length % 64) = m.drop (64 * (m.length / 64))
theorem dg_more {w : World} {g : Nat} {m x buf : List UInt8} (hb : buf.length = 64) (ht : buf.take (m.length % 64) = m.drop (64 * (m.length / 64))) (hx : m.length % 64 + x.length < 64)
    (h : Blk w g 86 (dgA (foldB startS m (m.length / 64)) (splice buf (m.length % 64) x) ((m.length % 64 + x.length : Nat) : Int))) : Dg w g (m ++ x) := by
  have e1 : (m ++ x).length / 64 = m.length / 64 := by rw [List.length_append]; omega
  have e2 : (m ++ x).length % 64 = m.length % 64 + x.length := by rw [List.length_append]; omega
  refine ⟨splice buf (m.length % 64) x, splice_len _ _ _ hb (by omega), ?_, ?_⟩
  · rw [e1, e2, foldB_append _ _ _ _ (by omega)]
    exact h
  · rw [e1, e2, splice_take _ _ _ (by omega), ht, List.drop_append_of_le_length (by omega)]
theorem dg_full {w : World} {g : Nat} {m x buf : List UInt8} (hb : buf.length = 64) (ht : buf.take (m.length % 64) = m.drop (64 * (m.length / 64))) (hx : m.length % 64 + x.length = 64)
    (h : Blk w g 86 (dgA (blockS kList (foldB startS m (m.length / 64)) (splice buf (m.length % 64) x)) (splice buf (m.length % 64) x) (0 : Nat))) : Dg w g (m ++ x) := by
  have e1 : (m ++ x).length / 64 = m.length / 64 + 1 := by rw [List.length_append]; omega
  have e2 : (m ++ x).length % 64 = 0 := by rw [List.length_append]; omega
  have hs := splice_len buf x (m.length % 64) hb (by omega)
  have e3 : ((m ++ x).drop (64 * (m.length / 64))).take 64 = splice buf (m.length % 64) x := by
    rw [List.drop_append_of_le_length (by omega), ← ht, ← splice_take _ _ _ (by omega), List.take_take, hx]
    exact List.take_of_length_le (by omega)
  refine ⟨splice buf (m.length % 64) x, hs, ?_, ?_⟩
  · rw [e1, e2, foldB, foldB_append _ _ _ _ (by omega), e3]
    exact h
  · rw [e1, e2, List.take_zero, List.drop_of_length_le (by rw [List.length_append]; omega)]
theorem dg_start {w : World} {g : Nat} (h : Blk w g 86 (dgA startS (List.replicate 64 0) 0)) : Dg w g [] :=
  ⟨List.replicate 64 0, by simp, h, rfl⟩
theorem dg_state {s : St} {buf : List UInt8} {u : Int} {w : World} {g : Nat} {t : TypeId} (h : Blk w g t (dgA s buf u)) : w.rangeAt g 0 (stA s).toList := by
  intro j v hj
  rw [h.cell]
  unfold dgA dgL
  have hl : j < (stA s).toList.length := (List.getElem?_eq_some_iff.1 hj).1
  rw [List.getElem?_toArray, Nat.zero_add, List.getElem?_append_left hl]
  exact hj
theorem dg_block {s : St} {buf : List UInt8} {u : Int} {w : World} {g : Nat} {t : TypeId} (h : Blk w g t (dgA s buf u)) : w.rangeAt g 8 (buf.map bv) := by
  intro j v hj
  rw [h.cell]
  unfold dgA dgL
  have hl : j < (buf.map bv).length := (List.getElem?_eq_some_iff.1 hj).1
  rw [List.getElem?_toArray, List.getElem?_append_right (by simp [stA]), show 8 + j - (stA s).toList.length = j by simp [stA], List.getElem?_append_left hl]
  exact hj
theorem dg_there {s : St} {buf : List UInt8} {u : Int} {w : World} {g : Nat} {t : TypeId} (h : Blk w g t (dgA s buf u)) : w.there g 0 8 := by
  intro j hj
  refine ⟨?_, h.frozen _⟩
  have hl : j < (stA s).toList.length := by simp [stA]; omega
  rw [dg_state h j _ (List.getElem?_eq_getElem hl)]
  rfl
theorem dg_store {s : St} {buf : List UInt8} {u : Int} {w : World} {g : Nat} {t : TypeId} (h : Blk w g t (dgA s buf u)) (s' : St) : Blk (w.setCells g 0 (stA s').toList) g t (dgA s' buf u) := by
  have e : dgA s' buf u = (((((((((dgA s buf u).setIfInBounds 0 (wv s'.a)).setIfInBounds 1 (wv s'.b)).setIfInBounds 2 (wv s'.c)).setIfInBounds 3 (wv s'.d)).setIfInBounds 4 (wv s'.e)).setIfInBounds 5 (wv s'.f)).setIfInBounds 6 (wv s'.g)).setIfInBounds 7 (wv s'.h)) := by
    simp [dgA, dgL, stA]
  rw [e]
  exact (((((((h.put 0 _).put 1 _).put 2 _).put 3 _).put 4 _).put 5 _).put 6 _).put 7 _
theorem Dg.grown {w w' : World} {g : Nat} {m : List UInt8} {row : Option Nat} (h : Dg w g m) (hb : w.grownBy w' row) (hg : some g ≠ row) : Dg w' g m := by
  obtain ⟨buf, h1, h2, h3⟩ := h
  exact ⟨buf, h1, h2.grown hb hg, h3⟩
end Go.Proofs.YtcjbplgjjhenkaaDoor
/-
  The digester's add, by a contract.
-/
namespace Go.Proofs.YtcjbplgjjhenkaaDoor
open Go.RowKit
set_option linter.unusedVariables false
set_option linter.unusedSimpArgs false

/-- The loads and stores of whole arrays as steps of a region that draws its order. -/
theorem step_load_mid {P : Program} {ops : Array Oper} {op : Oper} {a : Act} {w : World} {K : Act → World → Prop} {Q : Exit → Act → World → Prop} {E : Prop} (hgd : op.guard = none) (ty : TypeId) (x : Operand) (ho : op.op = .load ty x)
    (b o : Nat) (hx : a.eval x = .pointer (some ⟨b, o, none⟩)) (cs : List Value) (d : TypeDesc) (hc : w.rangeAt b o cs)
    (hu : P.underlying ty = some d) (hd : d.isRow = true) (hi : (P.info? ty).map (·.size) = some cs.length)
    (h : K (a.put op.dst (.agg cs.toArray)) w) : if Region.wanted op (yielded ops a.tmps) = true then Oper.wp P op a w K Q else E := by
  have hw : Region.wanted op (yielded ops a.tmps) = true := by simp [Region.wanted, hgd]
  rw [if_pos hw]
  exact wp_load_mid ty x ho b o hx cs d hc hu hd hi h
theorem step_store_mid {P : Program} {ops : Array Oper} {op : Oper} {a : Act} {w : World} {K : Act → World → Prop} {Q : Exit → Act → World → Prop} {E : Prop} (hgd : op.guard = none) (ty : TypeId) (x y : Operand) (ho : op.op = .store ty x y)
    (b o : Nat) (cells : Array Value) (hx : a.eval x = .pointer (some ⟨b, o, none⟩)) (hy : a.eval y = .agg cells)
    (ht : w.there b o cells.size) (hi : (P.info? ty).map (·.size) = some cells.size) (h1 : cells.all (·.oneCell') = true)
    (h : K (a.put op.dst undef) (w.setCells b o cells.toList)) : if Region.wanted op (yielded ops a.tmps) = true then Oper.wp P op a w K Q else E := by
  have hw : Region.wanted op (yielded ops a.tmps) = true := by simp [Region.wanted, hgd]
  rw [if_pos hw]
  exact wp_store_mid ty x y ho b o cells hx hy ht hi h1 h
theorem gb_state {w w' : World} {g : Nat} (h : w.grownBy w' (some g)) (s : St) : w.grownBy (w'.setCells g 0 (stA s).toList) (some g) :=
  gb_setCell (p := ⟨g, 7, none⟩) (gb_setCell (p := ⟨g, 6, none⟩) (gb_setCell (p := ⟨g, 5, none⟩) (gb_setCell (p := ⟨g, 4, none⟩) (gb_setCell (p := ⟨g, 3, none⟩) (gb_setCell (p := ⟨g, 2, none⟩) (gb_setCell (p := ⟨g, 1, none⟩) (gb_setCell (p := ⟨g, 0, none⟩) h (.inl rfl) _) (.inl rfl) _) (.inl rfl) _) (.inl rfl) _) (.inl rfl) _) (.inl rfl) _) (.inl rfl) _) (.inl rfl) _
theorem mem_state {w : World} {g q : Nat} {A : Option Addr} {l : List UInt8} (h : Mem w q A l) (hq : q ≠ g) (s : St) : Mem (w.setCells g 0 (stA s).toList) q A l :=
  (((((((h.setCell (p := ⟨g, 0, none⟩) hq _).setCell (p := ⟨g, 1, none⟩) hq _).setCell (p := ⟨g, 2, none⟩) hq _).setCell (p := ⟨g, 3, none⟩) hq _).setCell (p := ⟨g, 4, none⟩) hq _).setCell (p := ⟨g, 5, none⟩) hq _).setCell (p := ⟨g, 6, none⟩) hq _).setCell (p := ⟨g, 7, none⟩) hq _
set_option maxHeartbeats 8000000 in
set_option maxRecDepth 100000 in
theorem dadd_any (w : World) (g q : Nat) (m l : List UInt8) (A : Option Addr) (n c : Nat) (hD : Dg w g m) (hK : KAt w) (hgK : g ≠ 0) (hn : n = l.length) (hc : l.length ≤ c) (hl : l.length ≤ 140737488355328) (hm : Mem w q A l) (hq : q ≠ g) :
    Calls Tryd.prog 51 #[.pointer (some ⟨g, 0, none⟩), .slice A n c] w fun e w' => e = .returned (.tuple #[]) ∧ Dg w' g (m ++ l) ∧ w.grownBy w' (some g) := by
  subst hn
  have HK := kept hK
  have hgl : g < w.heap.size := by obtain ⟨_, _, hb, _⟩ := hD; exact hb.lt
  have HD := kept hD
  have HM := kept hm
  clear hK hD hm
  go_enter Tryd.func51, Tryd.ntmps51
  go_wp2_with fail
  go_loopw [1] (fun v wr => ∃ (p r : List UInt8) (A' : Option Addr) (c' : Nat), p ++ r = l ∧ v = .slice A' r.length c' ∧ r.length ≤ c' ∧ Kept (Mem wr q A' r) ∧ Kept (Dg wr g (m ++ p)) ∧ Kept (w.grownBy wr (some g))) (fun v _ => lenV v)
  case atStart => exact ⟨[], l, A, c, rfl, rfl, hc, HM, kept (by rw [List.append_nil]; exact HD.out), kept (World.grownBy.refl w _)⟩
  case round =>
    obtain ⟨p, r, A', c', hpr, rfl, hc', HM1, HD1, HG1⟩ := hrel
    rename World => W1
    clear HD HM
    by_cases hr : r.length = 0
    · have hre : r = [] := List.length_eq_zero_iff.1 hr
      subst hre
      have hpl : p = l := by rw [List.append_nil] at hpr; exact hpr
      subst hpl
      go_wp2
      go_end0
      exact ⟨rfl, HD1.out, HG1.out⟩
    · obtain ⟨M, hM⟩ : ∃ M, m ++ p = M := ⟨_, rfl⟩
      have HPR := kept hpr
      rw [hM] at HD1
      have HMM := kept hM
      clear hpr hM
      obtain ⟨buf, hbuf, hblk, htk⟩ := HD1.out
      obtain ⟨S, hS⟩ : ∃ S, foldB startS M (M.length / 64) = S := ⟨_, rfl⟩
      obtain ⟨u, hu⟩ : ∃ u, M.length % 64 = u := ⟨_, rfl⟩
      have hu64 : u < 64 := by omega
      rw [hS, hu] at hblk
      rw [hu] at htk
      have HS := kept hS
      have HU := kept hu
      have HBUF := kept hbuf
      have HTK := kept htk
      have HB := kept hblk
      clear hS hu hbuf htk hblk HD1
      have c72 : W1.cell? ⟨g, 72, none⟩ = some (.int .i64 (u : Int)) := by rw [HB.out.cell]; exact dgA_used S buf u HBUF.out
      have u0 : (0 : Int) ≤ (u : Int) := by omega
      have u1 : (u : Int) ≤ 64 := by omega
      have u2 : ¬ (64 = u) := by omega
      go_wp2
      go_still_tail 9, (by kernel_rfl)
      change wpList _ _ _ _ _ W1.drew
      have hrne : r ≠ [] := fun e => hr (by rw [e]; rfl)
      have hadr : ∃ o, A' = some ⟨q, o, none⟩ ∧ ∀ j b, r[j]? = some b → W1.cell? ⟨q, o + j, none⟩ = some (bv b) := by
        rcases HM1.out with h | ⟨o, h1, h2⟩
        · exact absurd h hrne
        · exact ⟨o, h1, h2⟩
      obtain ⟨o, rfl, hcell⟩ := hadr
      obtain ⟨x, hx⟩ : ∃ x, r.take (64 - u) = x := ⟨_, rfl⟩
      have hxl : x.length = min r.length (64 - u) := by rw [← hx, List.length_take, Nat.min_comm]
      have HX := kept hx
      have HXL := kept hxl
      have HC := kept hcell
      clear hx hxl hcell hrne u0 u1 u2
      refine wpList_copy_own rfl (.tmp 15) (.tmp 16) 24 24 rfl 5 Tryd.underlying24 u8_size g (8 + u) (64 - u) (64 - u) ⟨q, o, none⟩ r.length c' rfl rfl (dgA S buf u) 86 HB.out (x.map bv) (by rw [List.length_map, HXL.out]) ?hsrc ?hfit (oneCell_bv x) ?_
      case hsrc =>
        intro j v hv
        rw [List.getElem?_map, ← HX.out, List.getElem?_take] at hv
        split at hv
        · cases hj : r[j]? with
          | none => rw [hj] at hv; cases hv
          | some b =>
            rw [hj] at hv
            injection hv with hv
            subst hv
            rw [Addr.add_mid]
            exact HC.out j b hj
        · cases hv
      case hfit =>
        have : (dgA S buf (u : Int)).size = 73 := by unfold dgA; rw [List.size_toArray, dgL_len _ _ _ HBUF.out]
        rw [this, List.length_map, HXL.out]
        omega
      rw [dgA_splice S buf x u u HBUF.out (by rw [HXL.out]; omega), List.length_map]
      obtain ⟨buf2, hbuf2⟩ : ∃ b, splice buf u x = b := ⟨_, rfl⟩
      rw [hbuf2]
      have hlb2 : buf2.length = 64 := by rw [← hbuf2]; exact splice_len _ _ _ HBUF.out (by rw [HXL.out]; omega)
      have HB2 := kept (show Blk (W1.drew.setRow g (dgA S buf2 u)) g 86 (dgA S buf2 u) from setRow_heap _ _ _ _ _ _ HB.out)
      have HG2 := kept (show w.grownBy (W1.drew.setRow g (dgA S buf2 u)) (some g) from
        ⟨HG1.out.os, HG1.out.tape, HG1.out.output, by rw [setRow_size]; exact HG1.out.size, fun i hi hne => (setRow_other _ g i _ (fun e => hne (by rw [e]))).trans (HG1.out.block i hi hne)⟩)
      have HM2 := kept (show Mem (W1.drew.setRow g (dgA S buf2 u)) q (some ⟨q, o, none⟩) r from HM1.out.keep fun hq' => setRow_other _ g q _ hq)
      have HBUF2 := kept hbuf2
      have HLB2 := kept hlb2
      clear hbuf2 hlb2 HB HG1 HM1 HC c72
      generalize W1.drew.setRow g (dgA S buf2 u) = W2 at HB2 HG2 HM2 ⊢
      have c72 : W2.cell? ⟨g, 72, none⟩ = some (.int .i64 (u : Int)) := by rw [HB2.out.cell]; exact dgA_used S buf2 u HLB2.out
      have f72 := HB2.out.frozen 72
      have hxle : x.length ≤ r.length := by rw [HXL.out]; omega
      have hxle2 : x.length ≤ 64 := by rw [HXL.out]; omega
      have hxc : x.length ≤ c' := by omega
      have hxp : 0 < x.length := by rw [HXL.out]; omega
      obtain ⟨A2, hA2⟩ : ∃ A2, (if c' = x.length then some (⟨q, o, none⟩ : Addr) else some ⟨q, o + x.length, none⟩) = A2 := ⟨_, rfl⟩
      have hm2 : Mem W2 q A2 (r.drop x.length) := by
        have := HM2.out.cut (k := x.length) (cap := c') hxle hc'
        rw [← hA2]
        have e : (if c' = x.length then some (⟨q, o, none⟩ : Addr) else some ⟨q, o + x.length, none⟩) = (if c' = x.length then some (⟨q, o, none⟩ : Addr) else (some (⟨q, o, none⟩ : Addr)).map (·.add x.length)) := by
          rw [Option.map_some, Addr.add_mid]
        rw [e]
        exact this
      have HM3 := kept hm2
      have hrl : (r.drop x.length).length = r.length - x.length := List.length_drop
      have HRL := kept hrl
      have hpr2 : (p ++ x) ++ r.drop x.length = l := by
        have e : x ++ r.drop x.length = r := by
          have h1 : x = r.take x.length := by
            rw [HXL.out, ← HX.out]
            by_cases h : r.length ≤ 64 - u
            · rw [Nat.min_eq_left h, List.take_of_length_le h, List.take_of_length_le (Nat.le_refl _)]
            · rw [Nat.min_eq_right (by omega)]
          conv => lhs; lhs; rw [h1]
          exact List.take_append_drop _ _
        rw [List.append_assoc, e, HPR.out]
      have HPR2 := kept hpr2
      clear hm2 hrl hpr2 HM2
      by_cases h64 : u + x.length = 64
      · have ht : ((u : Int) + (x.length : Int) == 64) = true := by rw [beq_iff_eq]; omega
        have H64 := kept h64
        clear h64
        go_wp2
        have HB3 := kept (show Blk (W2.setCell ⟨g, 72, none⟩ (.int .i64 ((u : Int) + (x.length : Int)))) g 86 (dgA S buf2 ((u : Int) + (x.length : Int))) by
          have := HB2.out.put 72 (.int .i64 ((u : Int) + (x.length : Int)))
          rw [dgA_set _ _ _ _ HLB2.out] at this
          exact this)
        have HG3 := kept (gb_setCell (p := ⟨g, 72, none⟩) HG2.out (.inl rfl) (.int .i64 ((u : Int) + (x.length : Int))))
        have HM4 := kept (HM3.out.setCell (p := ⟨g, 72, none⟩) hq (.int .i64 ((u : Int) + (x.length : Int))))
        clear HB2 HG2 HM3 c72 f72
        generalize W2.setCell ⟨g, 72, none⟩ (.int .i64 ((u : Int) + (x.length : Int))) = W3 at HB3 HG3 HM4 ⊢
        have HK3 := kept (show KAt W3 from HK.out.keep (HG3.out.block _ HK.out.lt (fun e => hgK (by injection e with e; exact e.symm))))
        have HSB := kept (fun w' hk => sblock_any w' S buf2 HLB2.out hk)
        have n33 : (Tryd.prog.info? 67).map (·.size) = some (buf2.map bv).length := by rw [b64_size, List.length_map, HLB2.out]
        have n32 : (Tryd.prog.info? 77).map (·.size) = some (stA S).toList.length := s8_size
        have r0 := kept (show W3.drew.rangeAt g 0 (stA S).toList from dg_state HB3.out)
        have r8 := kept (show W3.drew.rangeAt g 8 (buf2.map bv) from dg_block HB3.out)
        refine wp_region_any (by kernel_rfl) ?_
        change wpAny _ _ _ _ _ _ _ (World.drew _)
        refine wpAny_take (i := 0) (v := ?_) rfl (by kernel_rfl) (by kernel_rfl) (by kernel_rfl) (fun _ _ _ h => h) (Or.inl ⟨by rfl, ?_⟩) ?_
        rotate_left
        · intro w; go_simp; with_reducible rfl
        simp only [Act.put, List.getElem_toArray, List.getElem_cons_zero, List.getElem_cons_succ, List.setIfInBounds_toArray, List.set_cons_zero, List.set_cons_succ]
        refine wpAny_take (i := 1) (v := ?_) rfl (by kernel_rfl) (by kernel_rfl) (by kernel_rfl) (fun _ _ _ h => h) (Or.inl ⟨by rfl, ?_⟩) ?_
        rotate_left
        · intro w; go_simp; with_reducible rfl
        simp only [Act.put, List.getElem_toArray, List.getElem_cons_zero, List.getElem_cons_succ, List.setIfInBounds_toArray, List.set_cons_zero, List.set_cons_succ]
        refine wpAny_take (i := 2) (v := ?_) rfl (by kernel_rfl) (by kernel_rfl) (by kernel_rfl) (fun _ _ _ h => h) (Or.inl ⟨by rfl, ?_⟩) ?_
        rotate_left
        · intro w; go_simp; with_reducible rfl
        simp only [Act.put, List.getElem_toArray, List.getElem_cons_zero, List.getElem_cons_succ, List.setIfInBounds_toArray, List.set_cons_zero, List.set_cons_succ]
        refine wpAny_take (i := 3) (v := ?_) rfl (by kernel_rfl) (by kernel_rfl) (by kernel_rfl) (fun _ _ _ h => h) (Or.inl ⟨by rfl, ?_⟩) ?_
        rotate_left
        · intro w; go_simp; with_reducible rfl
        simp only [Act.put, List.getElem_toArray, List.getElem_cons_zero, List.getElem_cons_succ, List.setIfInBounds_toArray, List.set_cons_zero, List.set_cons_succ]
        refine wpAny_take (i := 5) (v := ?_) rfl (by kernel_rfl) (by kernel_rfl) (by kernel_rfl) (fun _ _ _ h => h) (Or.inl ⟨by rfl, ?_⟩) ?_
        rotate_left
        · intro w; go_simp; with_reducible rfl
        simp only [Act.put, List.getElem_toArray, List.getElem_cons_zero, List.getElem_cons_succ, List.setIfInBounds_toArray, List.set_cons_zero, List.set_cons_succ]
        refine wpAny_take (i := 6) (v := ?_) rfl (by kernel_rfl) (by kernel_rfl) (by kernel_rfl) (fun _ _ _ h => h) (Or.inl ⟨by rfl, ?_⟩) ?_
        rotate_left
        · intro w; go_simp; with_reducible rfl
        simp only [Act.put, List.getElem_toArray, List.getElem_cons_zero, List.getElem_cons_succ, List.setIfInBounds_toArray, List.set_cons_zero, List.set_cons_succ]
        refine wpAny_take (i := 7) (v := ?_) rfl (by kernel_rfl) (by kernel_rfl) (by kernel_rfl) (fun _ _ _ h => h) (Or.inl ⟨by rfl, ?_⟩) ?_
        rotate_left
        · intro w; go_simp; with_reducible rfl
        simp only [Act.put, List.getElem_toArray, List.getElem_cons_zero, List.getElem_cons_succ, List.setIfInBounds_toArray, List.set_cons_zero, List.set_cons_succ]
        have HK4 := kept (show KAt W3.drew from HK3.out)
        refine wpAny_ready (rs := [4, 8]) (by kernel_rfl) (by simp) ?_
        refine AllReady.cons rfl (fun K hK => ?_) (AllReady.cons rfl (fun K hK => ?_) AllReady.nil)
        · refine step_load_mid rfl 77 (.tmp 37) rfl g 0 rfl (stA S).toList _ r0.out Tryd.underlying77 rfl n32 ?_
          refine hK _ _ ?_
          clear hK K
          simp only [Act.put, List.getElem_toArray, List.getElem_cons_zero, List.getElem_cons_succ, List.setIfInBounds_toArray, List.set_cons_zero, List.set_cons_succ]
          refine wpAny_ready (rs := [8]) (by kernel_rfl) (by simp) ?_
          refine AllReady.cons rfl (fun K hK => ?_) AllReady.nil
          refine step_load_mid rfl 67 (.tmp 41) rfl g 8 rfl (buf2.map bv) _ r8.out Tryd.underlying67 rfl n33 ?_
          refine hK _ _ ?_
          clear hK K
          simp only [Act.put, List.getElem_toArray, List.getElem_cons_zero, List.getElem_cons_succ, List.setIfInBounds_toArray, List.set_cons_zero, List.set_cons_succ]
          refine wpAny_ready (rs := [9]) (by kernel_rfl) (by simp) ?_
          refine AllReady.cons rfl (fun K hK => ?_) AllReady.nil
          go_simp
          refine (HSB.out _ HK4.out).mono ?_
          rintro e W4 ⟨rfl, hb4⟩
          refine hK _ _ ?_
          clear hK K
          have hb4' : Below W3.heap.size W3 W4 := ⟨hb4.os, hb4.tape, hb4.output, hb4.size, hb4.block⟩
          have HB4 := kept (HB3.out.below hb4' HB3.out.lt)
          refine wpAny_take (i := 10) (v := ?_) rfl (by kernel_rfl) (by kernel_rfl) (by kernel_rfl) (fun _ _ _ h => h) (Or.inl ⟨by rfl, ?_⟩) ?_
          rotate_left
          · intro w; go_simp; with_reducible rfl
          simp only [Act.put, List.getElem_toArray, List.getElem_cons_zero, List.getElem_cons_succ, List.setIfInBounds_toArray, List.set_cons_zero, List.set_cons_succ]
          refine wpAny_take (i := 11) (v := ?_) rfl (by kernel_rfl) (by kernel_rfl) (by kernel_rfl) (fun _ _ _ h => h) (Or.inl ⟨by rfl, ?_⟩) ?_
          rotate_left
          · intro w; go_simp; with_reducible rfl
          simp only [Act.put, List.getElem_toArray, List.getElem_cons_zero, List.getElem_cons_succ, List.setIfInBounds_toArray, List.set_cons_zero, List.set_cons_succ]
          refine wpAny_ready (rs := [12]) (by kernel_rfl) (by simp) ?_
          refine AllReady.cons rfl (fun K hK => ?_) AllReady.nil
          refine step_store_mid rfl 77 (.tmp 45) (.tmp 43) rfl g 0 (stA (blockS kList S buf2)) rfl rfl (dg_there HB4.out) (by rw [s8_size, stA_size]) (stA_one _) ?_
          refine hK _ _ ?_
          clear hK K
          simp only [Act.put, List.getElem_toArray, List.getElem_cons_zero, List.getElem_cons_succ, List.setIfInBounds_toArray, List.set_cons_zero, List.set_cons_succ]
          refine wpAny_done (by kernel_rfl) ?_ _
          have HB5 := kept (dg_store HB4.out (blockS kList S buf2))
          have HG5 := kept (gb_state (gb_then HG3.out (gb_of_below hb4' none) (.inr fun j h => by cases h)) (blockS kList S buf2))
          have HM5 := kept (mem_state (HM4.out.below0 hb4') hq (blockS kList S buf2))
          clear hb4 hb4' HB4 HB3 HG3 HM4 HK3 HK4 HSB r0 r8
          generalize W4.setCells g 0 (stA (blockS kList S buf2)).toList = W5 at HB5 HG5 HM5 ⊢
          have c72 : W5.cell? ⟨g, 72, none⟩ = some (.int .i64 ((u : Int) + (x.length : Int))) := by rw [HB5.out.cell]; exact dgA_used _ _ _ HLB2.out
          have f72 := HB5.out.frozen 72
          go_wp2
          go_roundw
          case rel =>
            refine ⟨p ++ x, r.drop x.length, A2, c' - x.length, HPR2.out, by rw [HRL.out], by rw [HRL.out]; omega, kept (HM5.out.setCell hq _), kept ?_, kept ?_⟩
            · rw [← List.append_assoc, HMM.out]
              refine dg_full (buf := buf) HBUF.out (by rw [HU.out]; exact HTK.out) (by rw [HU.out]; exact H64.out) ?_
              rw [HU.out, HS.out, HBUF2.out]
              have := HB5.out.put 72 (.int .i64 0)
              rw [dgA_set _ _ _ _ HLB2.out] at this
              exact this
            · exact gb_setCell (p := ⟨g, 72, none⟩) HG5.out (.inl rfl) _
          case measure => simp [lenV]; omega
        · refine step_load_mid rfl 67 (.tmp 41) rfl g 8 rfl (buf2.map bv) _ r8.out Tryd.underlying67 rfl n33 ?_
          refine hK _ _ ?_
          clear hK K
          simp only [Act.put, List.getElem_toArray, List.getElem_cons_zero, List.getElem_cons_succ, List.setIfInBounds_toArray, List.set_cons_zero, List.set_cons_succ]
          refine wpAny_ready (rs := [4]) (by kernel_rfl) (by simp) ?_
          refine AllReady.cons rfl (fun K hK => ?_) AllReady.nil
          refine step_load_mid rfl 77 (.tmp 37) rfl g 0 rfl (stA S).toList _ r0.out Tryd.underlying77 rfl n32 ?_
          refine hK _ _ ?_
          clear hK K
          simp only [Act.put, List.getElem_toArray, List.getElem_cons_zero, List.getElem_cons_succ, List.setIfInBounds_toArray, List.set_cons_zero, List.set_cons_succ]
          refine wpAny_ready (rs := [9]) (by kernel_rfl) (by simp) ?_
          refine AllReady.cons rfl (fun K hK => ?_) AllReady.nil
          go_simp
          refine (HSB.out _ HK4.out).mono ?_
          rintro e W4 ⟨rfl, hb4⟩
          refine hK _ _ ?_
          clear hK K
          have hb4' : Below W3.heap.size W3 W4 := ⟨hb4.os, hb4.tape, hb4.output, hb4.size, hb4.block⟩
          have HB4 := kept (HB3.out.below hb4' HB3.out.lt)
          refine wpAny_take (i := 10) (v := ?_) rfl (by kernel_rfl) (by kernel_rfl) (by kernel_rfl) (fun _ _ _ h => h) (Or.inl ⟨by rfl, ?_⟩) ?_
          rotate_left
          · intro w; go_simp; with_reducible rfl
          simp only [Act.put, List.getElem_toArray, List.getElem_cons_zero, List.getElem_cons_succ, List.setIfInBounds_toArray, List.set_cons_zero, List.set_cons_succ]
          refine wpAny_take (i := 11) (v := ?_) rfl (by kernel_rfl) (by kernel_rfl) (by kernel_rfl) (fun _ _ _ h => h) (Or.inl ⟨by rfl, ?_⟩) ?_
          rotate_left
          · intro w; go_simp; with_reducible rfl
          simp only [Act.put, List.getElem_toArray, List.getElem_cons_zero, List.getElem_cons_succ, List.setIfInBounds_toArray, List.set_cons_zero, List.set_cons_succ]
          refine wpAny_ready (rs := [12]) (by kernel_rfl) (by simp) ?_
          refine AllReady.cons rfl (fun K hK => ?_) AllReady.nil
          refine step_store_mid rfl 77 (.tmp 45) (.tmp 43) rfl g 0 (stA (blockS kList S buf2)) rfl rfl (dg_there HB4.out) (by rw [s8_size, stA_size]) (stA_one _) ?_
          refine hK _ _ ?_
          clear hK K
          simp only [Act.put, List.getElem_toArray, List.getElem_cons_zero, List.getElem_cons_succ, List.setIfInBounds_toArray, List.set_cons_zero, List.set_cons_succ]
          refine wpAny_done (by kernel_rfl) ?_ _
          have HB5 := kept (dg_store HB4.out (blockS kList S buf2))
          have HG5 := kept (gb_state (gb_then HG3.out (gb_of_below hb4' none) (.inr fun j h => by cases h)) (blockS kList S buf2))
          have HM5 := kept (mem_state (HM4.out.below0 hb4') hq (blockS kList S buf2))
          clear hb4 hb4' HB4 HB3 HG3 HM4 HK3 HK4 HSB r0 r8
          generalize W4.setCells g 0 (stA (blockS kList S buf2)).toList = W5 at HB5 HG5 HM5 ⊢
          have c72 : W5.cell? ⟨g, 72, none⟩ = some (.int .i64 ((u : Int) + (x.length : Int))) := by rw [HB5.out.cell]; exact dgA_used _ _ _ HLB2.out
          have f72 := HB5.out.frozen 72
          go_wp2
          go_roundw
          case rel =>
            refine ⟨p ++ x, r.drop x.length, A2, c' - x.length, HPR2.out, by rw [HRL.out], by rw [HRL.out]; omega, kept (HM5.out.setCell hq _), kept ?_, kept ?_⟩
            · rw [← List.append_assoc, HMM.out]
              refine dg_full (buf := buf) HBUF.out (by rw [HU.out]; exact HTK.out) (by rw [HU.out]; exact H64.out) ?_
              rw [HU.out, HS.out, HBUF2.out]
              have := HB5.out.put 72 (.int .i64 0)
              rw [dgA_set _ _ _ _ HLB2.out] at this
              exact this
            · exact gb_setCell (p := ⟨g, 72, none⟩) HG5.out (.inl rfl) _
          case measure => simp [lenV]; omega
      · have ht : ((u : Int) + (x.length : Int) == 64) = false := by rw [beq_eq_false_iff_ne]; omega
        have H64 := kept h64
        clear h64
        go_wp2
        go_roundw
        case rel =>
          refine ⟨p ++ x, r.drop x.length, A2, c' - x.length, HPR2.out, by rw [HRL.out], by rw [HRL.out]; omega, kept (HM3.out.setCell hq _), kept ?_, kept ?_⟩
          · rw [← List.append_assoc, HMM.out]
            refine dg_more (buf := buf) HBUF.out (by rw [HU.out]; exact HTK.out) (by rw [HU.out]; have := H64.out; have := HXL.out; omega) ?_
            rw [HU.out, HS.out, HBUF2.out]
            have := HB2.out.put 72 (.int .i64 ((u + x.length : Nat) : Int))
            rw [dgA_set _ _ _ _ HLB2.out] at this
            exact this
          · exact gb_setCell (p := ⟨g, 72, none⟩) HG2.out (.inl rfl) _
        case measure => simp [lenV]; omega
end Go.Proofs.YtcjbplgjjhenkaaDoor
/-
  The digester's bytes, by a contract; the bytes of a digest.
-/
namespace Go.Proofs.YtcjbplgjjhenkaaDoor
open Go.RowKit
set_option linter.unusedVariables false
set_option linter.unusedSimpArgs false

def digB (s : St) (i : Nat) : UInt8 := UInt8.ofNat ((stF s (i / 4)).toNat / 2 ^ (24 - 8 * (i % 4)) % 256)
def dig32 (s : St) : List UInt8 := (List.range 32).map (digB s)
/-- The first n bytes of a digest, zeros behind. -/
def dgF (s : St) (n : Nat) : Nat → Value := fun j => bv (if j < n then digB s j else 0)
theorem dgF_zero (s : St) : (Array.replicate 32 (Value.int .u8 0)) = gA 32 (dgF s 0) := by
  unfold dgF
  rfl
theorem dgF_set (s : St) (n : Nat) : ∀ j, j < 32 → dgF s (n + 1) j = if j = n then bv (digB s n) else dgF s n j := fun j _ => by
  unfold dgF
  by_cases e : j = n
  · subst e
    rw [if_pos (by omega), if_pos rfl]
  · rw [if_neg e]
    by_cases h : j < n
    · rw [if_pos h, if_pos (by omega)]
    · rw [if_neg h, if_neg (by omega)]
theorem dgF_all (s : St) : gA 32 (dgF s 32) = ((dig32 s).map bv).toArray := by
  unfold dig32
  rw [gA_map]
  exact gA_ext fun j h => by unfold dgF; rw [if_pos h]
theorem dig_num (s : St) (n : Nat) : wi (stF s (n / 4)) / 2 ^ (24 - 8 * (n % 4)) % 256 = ((digB s n).toNat : Int) := by
  unfold digB wi
  rw [ofNat_toNat, Int.natCast_emod, Int.natCast_ediv, Int.natCast_pow]
  rfl
theorem b32_size : (Tryd.prog.info? 36).map (·.size) = some 32 := by kernel_rfl
theorem dgF_one (s : St) (n : Nat) : (gA 32 (dgF s n)).all (·.oneCell') = true := by
  rw [Array.all_eq_true_iff_forall_mem]
  intro v hv
  have hv' : v ∈ (List.range 32).map (dgF s n) := by simpa [gA] using hv
  obtain ⟨i, _, rfl⟩ := List.mem_map.1 hv'
  rfl
theorem st_at {s : St} {buf : List UInt8} {u : Int} {w : World} {g : Nat} {t : TypeId} (h : Blk w g t (dgA s buf u)) (j : Nat) (hj : j < 8) : w.cell? ⟨g, j, none⟩ = some (.int .u32 (wi (stF s j))) := by
  have := dg_state h j (wv (stF s j)) (by
    rw [Array.getElem?_toList, v8_st]
    exact v8_at _ hj)
  rw [Nat.zero_add] at this
  exact this
set_option maxHeartbeats 4000000 in
set_option maxRecDepth 100000 in
theorem dbytes_any (w : World) (g : Nat) (s : St) (buf : List UInt8) (z : Int) (hB : Blk w g 86 (dgA s buf z)) :
    Calls Tryd.prog 53 #[.pointer (some ⟨g, 0, none⟩)] w fun e w' => e = .returned (.agg ((dig32 s).map bv).toArray) ∧ Below w.heap.size w w' := by
  have hg := hB.lt
  have HB := kept hB
  clear hB
  go_enter Tryd.func53, Tryd.ntmps53
  go_wp2
  go_name_world W0 hW0
  have HR0 := kept (show Blk W0 w.heap.size 36 (gA 32 (dgF s 0)) by
    rw [← hW0, ← dgF_zero]
    exact (Blk.new w _ _).alloc _)
  have HT0 := kept (show Blk W0 (w.heap.size + 1) 36 (gA 32 (dgF s 0)) by
    rw [← hW0, ← dgF_zero]
    have n2 := Blk.new (w.alloc (.cells (Array.replicate 32 (.int .u8 0)) 36)) 36 (Array.replicate 32 (.int .u8 0))
    simp only [World.size_alloc] at n2
    exact n2)
  have HW0 := kept (show Below w.heap.size w W0 by
    rw [← hW0]
    exact ((Below.refl _ _).alloc (Nat.le_refl _) _).alloc (by simp) _)
  clear hW0
  go_loopw [5] (fun i wr => ∃ n : Nat, n ≤ 32 ∧ i = .int .i64 n ∧ Kept (Blk wr w.heap.size 36 (gA 32 (dgF s 0))) ∧ Kept (Blk wr (w.heap.size + 1) 36 (gA 32 (dgF s n))) ∧ Kept (Below w.heap.size w wr)) (fun i _ => 32 - (intOf i).toNat)
  case atStart => exact ⟨0, Nat.zero_le _, rfl, HR0, HT0, HW0⟩
  case round =>
    obtain ⟨n, hn, rfl, HR1, HT1, HW1⟩ := hrel
    rename World => W1
    clear HR0 HT0 HW0
    by_cases hlt : n < 32
    · have c1 := st_at (HB.out.below HW1.out hg) (n / 4) (by omega)
      have c2 : W1.cell? ⟨w.heap.size + 1, n, none⟩ = some (dgF s n n) := by rw [HT1.out.cell]; exact gA_at _ _ hlt
      have f2 := HT1.out.frozen n
      have hnum := dig_num s n
      have HN := kept hnum
      clear hnum
      go_wp2
      go_roundw
      case rel =>
        refine ⟨n + 1, by omega, by go_num, kept (HR1.out.far (by show w.heap.size ≠ w.heap.size + 1; omega) _), kept ?_, kept (HW1.out.setCell (p := ⟨w.heap.size + 1, n, none⟩) (by show w.heap.size ≤ w.heap.size + 1; omega) _)⟩
        rw [HN.out]
        exact HT1.out.putG n (bv (digB s n)) (dgF_set s n)
      case measure => simp [intOf]; omega
    · obtain rfl : n = 32 := by omega
      go_wp2_with (first | (refine wpList_load_row rfl 36 _ rfl (w.heap.size + 1) rfl 36 (gA 32 (dgF s 32)) (0,0) _ ?hg Tryd.underlying36 rfl ?hi ?_) | (refine wpList_store_row rfl 36 _ _ rfl w.heap.size (gA 32 (dgF s 32)) rfl rfl 36 (gA 32 (dgF s 0)) ?hg2 ?hi2 ?ho ?h1 ?_))
      case hg => exact HT1.out
      case hi => rw [b32_size, gA_size]
      case hg2 => exact HR1.out
      case hi2 => rw [b32_size, gA_size]
      case ho => rw [gA_size, gA_size]
      case h1 => exact dgF_one _ _
      exact bodyPost_ret (v := .agg (gA 32 (dgF s 32))) (results_cell_row Tryd.results53 _ _ w.heap.size 36 (gA 32 (dgF s 32)) (0, 0) _ rfl (setRow_heap _ _ _ _ _ _ HR1.out) Tryd.underlying36 rfl (by rw [b32_size, gA_size])) rfl ⟨by rw [dgF_all], below_setRow HW1.out (Nat.le_refl _) _⟩
end Go.Proofs.YtcjbplgjjhenkaaDoor
/-
  The reference's table of substitutions, by a contract.
-/
namespace Go.Proofs.YtcjbplgjjhenkaaDoor
open Go.RowKit
set_option linter.unusedVariables false
set_option linter.unusedSimpArgs false

theorem b256_size : (Tryd.prog.info? 72).map (·.size) = some 256 := by kernel_rfl
theorem raff_zero (w : World) : Calls Tryd.prog 61 #[.int .i64 0] w fun e w' => e = .returned (.int .u8 ((gaff 0).toNat : Int)) ∧ w = w' := raff_any w 0
theorem raff_z (w : World) (b : UInt8) (z : Int) (hz : z = (b.toNat : Int)) : Calls Tryd.prog 61 #[.int .i64 z] w fun e w' => e = .returned (.int .u8 ((gaff b).toNat : Int)) ∧ w = w' := by
  subst hz
  exact raff_any w b
theorem raff_still (w : World) (b : UInt8) (z : Int) (hz : z = (b.toNat : Int)) : Calls Tryd.prog 61 #[.int .i64 z] w fun e w' => e = .returned (.int .u8 ((gaff b).toNat : Int)) ∧ w' = w := by
  subst hz
  exact (raff_any w b).mono fun e w' h => ⟨h.1, h.2.symm⟩
theorem zero256 (w : World) : (zeroValue 72).run Tryd.prog w = .ok (.agg (bA 256 fun _ => 0)) w := by kernel_rfl
set_option maxHeartbeats 1000000 in
set_option maxRecDepth 100000 in
theorem rbox_any (w : World) : Calls Tryd.prog 55 #[] w fun e w' => e = .returned (.agg (bA 256 fun j => gsub (UInt8.ofNat j))) ∧ Below w.heap.size w w' := by
  have hz := zero256
  go_enter Tryd.func55, Tryd.ntmps55
  go_wp2_with fail
  go_name_world W0 hW0
  have HR0 := kept (show Blk W0 w.heap.size 72 (bA 256 fun _ => 0) by
    rw [← hW0]
    exact (Blk.new w _ _).alloc _)
  have HP0 := kept (show Blk W0 (w.heap.size + 1) 72 (bA 256 (pwF 0)) by
    rw [← hW0]
    have n2 := Blk.new (w.alloc (.cells (bA 256 fun _ => 0) 72)) 72 (bA 256 fun _ => 0)
    simp only [World.size_alloc] at n2
    exact n2)
  have HW0 := kept (show Below w.heap.size w W0 by
    rw [← hW0]
    exact ((Below.refl _ _).alloc (Nat.le_refl _) _).alloc (by simp) _)
  clear hW0
  go_loopw [2, 3] (fun x i wr => ∃ k : Nat, k ≤ 256 ∧ i = .int .i64 k ∧ x = .int .u8 ((gpow 3 k).toNat : Int) ∧ Kept (Blk wr w.heap.size 72 (bA 256 fun _ => 0)) ∧ Kept (Blk wr (w.heap.size + 1) 72 (bA 256 (pwF k))) ∧ Kept (Below w.heap.size w wr)) (fun _ i _ => 256 - (intOf i).toNat)
  case atStart => exact ⟨0, Nat.zero_le _, rfl, rfl, HR0, HP0, HW0⟩
  case round =>
    obtain ⟨k, hk, rfl, rfl, HR1, HP1, HW1⟩ := hrel
    rename World => W1
    clear HR0 HP0 HW0
    by_cases hlt : k < 256
    · have c1 : W1.cell? ⟨w.heap.size + 1, k, none⟩ = some (.int .u8 ((pwF k k).toNat : Int)) := by rw [HP1.out.cell]; exact bA_at _ _ hlt
      have f1 := HP1.out.frozen k
      have HS := kept (show ∀ j, j < 256 → pwF (k + 1) j = if j = k then gpow 3 k else pwF k j from fun j _ => by
        unfold pwF
        by_cases e : j = k
        · subst e; rw [if_pos (by omega), if_pos rfl]
        · rw [if_neg e]
          by_cases h : j < k
          · rw [if_pos h, if_pos (by omega)]
          · rw [if_neg h, if_neg (by omega)])
      have HN := kept (show gpow 3 (k + 1) = gf (gpow 3 k) 3 from rfl)
      generalize gpow 3 k = x at HS HN
      have hx := byte_lt x
      have hx' : (x.toNat : Int) < 256 := by omega
      clear hx
      go_wp2_with fail
      refine (rgmul_any _ x 3).mono ?_
      rintro e w' ⟨rfl, rfl⟩
      go_wp2
      go_roundw
      case rel => exact ⟨k + 1, by omega, by go_num, by rw [HN.out], kept (HR1.out.far (by show w.heap.size ≠ w.heap.size + 1; omega) _), kept (HP1.out.putB k _ HS.out), kept (HW1.out.setCell (p := ⟨w.heap.size + 1, k, none⟩) (by show w.heap.size ≤ w.heap.size + 1; omega) _)⟩
      case measure => simp [intOf]; omega
    · obtain rfl : k = 256 := by omega
      have hg2 : w.heap.size + 1 < W1.heap.size := HP1.out.lt
      generalize gpow 3 256 = x0
      go_wp2_with fail
      have HR2 := kept (HR1.out.alloc (.cells (bA 256 fun _ => 0) 72))
      have HP2 := kept (HP1.out.alloc (.cells (bA 256 fun _ => 0) 72))
      have HO2 := kept (Blk.new W1 72 (bA 256 fun _ => 0))
      have HW2 := kept (HW1.out.alloc (show w.heap.size ≤ W1.heap.size by omega) (.cells (bA 256 fun _ => 0) 72))
      refine (raff_zero _).mono ?_
      rintro e w' ⟨rfl, rfl⟩
      clear HR1 HP1 HW1
      generalize hW2 : W1.alloc (.cells (bA 256 fun _ => 0) 72) = W2 at HR2 HP2 HO2 HW2
      clear hW2
      generalize W1.heap.size = g2 at hg2 HO2
      have c0 : W2.cell? ⟨g2, 0, none⟩ = some (.int .u8 0) := by rw [HO2.out.cell]; exact bA_at _ _ (by omega)
      have f0 := HO2.out.frozen 0
      have HO3 := kept (HO2.out.putB 0 (gaff 0) (f' := bxF 0) fun j _ => rfl)
      have HR3 := kept (HR2.out.far (p := ⟨g2, 0, none⟩) (by show w.heap.size ≠ g2; omega) (.int .u8 ((gaff 0).toNat : Int)))
      have HP3 := kept (HP2.out.far (p := ⟨g2, 0, none⟩) (by show w.heap.size + 1 ≠ g2; omega) (.int .u8 ((gaff 0).toNat : Int)))
      have HW3 := kept (HW2.out.setCell (p := ⟨g2, 0, none⟩) (by show w.heap.size ≤ g2; omega) (.int .u8 ((gaff 0).toNat : Int)))
      clear HO2 HR2 HP2 HW2
      go_wp2_with fail
      go_loopw [5] (fun i wr => ∃ k : Nat, k ≤ 256 ∧ i = .int .i64 k ∧ Kept (Blk wr w.heap.size 72 (bA 256 fun _ => 0)) ∧ Kept (Blk wr (w.heap.size + 1) 72 (bA 256 (pwF 256))) ∧ Kept (Blk wr g2 72 (bA 256 (bxF k))) ∧ Kept (Below w.heap.size w wr)) (fun i _ => 256 - (intOf i).toNat)
      case atStart => exact ⟨0, Nat.zero_le _, rfl, HR3, HP3, HO3, HW3⟩
      case round =>
        obtain ⟨k, hk, rfl, HR4, HP4, HO4, HW4⟩ := hrel
        rename World => W4
        clear HR3 HP3 HO3 HW3
        by_cases hlt : k < 256
        · have e1 : pwF 256 k = gpow 3 k := if_pos hlt
          have e2 : pwF 256 (255 - k) = gpow 3 (255 - k) := if_pos (by omega)
          have HS := kept (bxF_succ k)
          have c1 : W4.cell? ⟨w.heap.size + 1, k, none⟩ = some (.int .u8 ((pwF 256 k).toNat : Int)) := by rw [HP4.out.cell]; exact bA_at _ _ hlt
          have c2 : W4.cell? ⟨w.heap.size + 1, 255 - k, none⟩ = some (.int .u8 ((pwF 256 (255 - k)).toNat : Int)) := by rw [HP4.out.cell]; exact bA_at _ _ (by omega)
          rw [e1] at c1
          rw [e2] at c2
          generalize gpow 3 k = x at c1 HS
          generalize gpow 3 (255 - k) = y at c2 HS
          have hx := byte_lt x
          have c3 : W4.cell? ⟨g2, x.toNat, none⟩ = some (.int .u8 ((bxF k x.toNat).toNat : Int)) := by rw [HO4.out.cell]; exact bA_at _ _ hx
          have f3 := HO4.out.frozen x.toNat
          have hk2 : (255 : Int) - (k : Int) = ((255 - k : Nat) : Int) := by omega
          have hx' : (x.toNat : Int) < 256 := by omega
          clear e1 e2
          have hy := byte_lt y
          have hy' : (y.toNat : Int) < 256 := by omega
          clear hy hx
          have p0 : (k : Int) < 256 := by omega
          have p1 : ((255 - k : Nat) : Int) < 256 := by omega
          have p2 : IntKind.i64.wrap ((255 - k : Nat) : Int) = ((255 - k : Nat) : Int) := IntWalk.i64_in _ (by omega)
          have p3 : (0 : Int) ≤ ((255 - k : Nat) : Int) := by omega
          have p4 : IntKind.i64.wrap (y.toNat : Int) = (y.toNat : Int) := IntWalk.i64_in _ (by omega)
          go_wp2_with fail
          refine wp_region_still_tail 9 (by kernel_rfl) (by kernel_rfl) ?_
          simp only [List.take_succ_cons, List.take_zero, List.drop_succ_cons, List.drop_zero]
          iterate 8 still_step
          still_call (raff_still W4.drew y _ rfl)
          refine wpStill_nil ?_
          change wpList _ _ _ _ _ W4.drew
          have d3 : W4.drew.cell? ⟨g2, x.toNat, none⟩ = some (.int .u8 ((bxF k x.toNat).toNat : Int)) := c3
          have e3 : W4.drew.frozen? ⟨g2, x.toNat, none⟩ = false := f3
          go_wp2
          go_roundw
          case rel => exact ⟨k + 1, by omega, by go_num, kept (HR4.out.drew_.far (p := ⟨g2, x.toNat, none⟩) (by show w.heap.size ≠ g2; omega) _), kept (HP4.out.drew_.far (p := ⟨g2, x.toNat, none⟩) (by show w.heap.size + 1 ≠ g2; omega) _), kept (HO4.out.drew_.putB x.toNat (gaff y) fun j _ => HS.out j), kept (HW4.out.drew.setCell (p := ⟨g2, x.toNat, none⟩) (by show w.heap.size ≤ g2; omega) _)⟩
          case measure => simp [intOf]; omega
        · obtain rfl : k = 256 := by omega
          go_wp2_with (first | (refine wpList_load_row rfl 72 _ rfl g2 rfl 72 (bA 256 (bxF 256)) (0,0) _ HO4.out Tryd.underlying72 rfl (by rw [b256_size, bA_size]) ?_) | (refine wpList_store_row rfl 72 _ _ rfl w.heap.size (bA 256 (bxF 256)) rfl rfl 72 (bA 256 (fun _ => 0)) HR4.out (by rw [b256_size, bA_size]) (by rw [bA_size, bA_size]) (bA_one _ _) ?_))
          exact bodyPost_ret (v := .agg (bA 256 (bxF 256))) (results_cell_row Tryd.results55 _ _ w.heap.size 72 (bA 256 (bxF 256)) (0, 0) _ rfl (setRow_heap _ _ _ _ _ _ HR4.out) Tryd.underlying72 rfl (by rw [b256_size, bA_size])) rfl ⟨by rw [bA_ext bxF_all], below_setRow HW4.out (Nat.le_refl _) _⟩
end Go.Proofs.YtcjbplgjjhenkaaDoor
/-
  The reference's twice and Round of package aes, by contracts.
-/
namespace Go.Proofs.YtcjbplgjjhenkaaDoor
open Go.RowKit
set_option linter.unusedVariables false
set_option linter.unusedSimpArgs false

theorem xt_num (a : UInt8) : (xt a).toNat = if 255 < 2 * a.toNat then (2 * a.toNat ^^^ 283) % 256 else 2 * a.toNat := of_all (P := fun a => (xt a).toNat = if 255 < 2 * a.toNat then (2 * a.toNat ^^^ 283) % 256 else 2 * a.toNat) (by decide +kernel) a
set_option maxHeartbeats 1000000 in
theorem rtwice_any (w : World) (a : UInt8) : Calls Tryd.prog 69 #[.int .u8 (a.toNat : Int)] w fun e w' => e = .returned (.int .u8 ((xt a).toNat : Int)) ∧ w = w' := by
  have ha := byte_lt a
  have HX := kept (xt_num a)
  generalize xt a = r at HX
  generalize a.toNat = n at ha HX
  go_enter Tryd.func69, Tryd.ntmps69
  by_cases h : 255 < 2 * n
  · have h1 : (255 : Int) < 2 * (n : Int) := by omega
    have hx := x64 (2 * n) 283 (by omega) (by omega)
    have e2 : ((2 * n : Nat) : Int) = 2 * (n : Int) := by omega
    rw [e2] at hx
    have hr : ((2 * n ^^^ 283 : Nat) : Int) % 256 = (r.toNat : Int) := by
      rw [HX.out, if_pos h]
      omega
    go_wp2
    go_ret
    refine ⟨congrArg (fun z => Ending.returned (.int .u8 z)) ?_, rfl⟩
    have hx' : bits .xor .i64 (2 * (n : Int)) 283 = ((2 * n ^^^ 283 : Nat) : Int) := hx
    show bits .xor .i64 (2 * (n : Int)) 283 % 256 = _
    rw [hx', hr]
  · have h1 : ¬ (255 : Int) < 2 * (n : Int) := by omega
    have hr : 2 * (n : Int) = (r.toNat : Int) := by
      rw [HX.out, if_neg h]
      omega
    go_wp2
    go_ret
    exact ⟨rfl, rfl⟩
theorem rtwice_still (w : World) (a : UInt8) : Calls Tryd.prog 69 #[.int .u8 (a.toNat : Int)] w fun e w' => e = .returned (.int .u8 ((xt a).toNat : Int)) ∧ w' = w :=
  (rtwice_any w a).mono fun e w' h => ⟨h.1, h.2.symm⟩
/-- What is filled byte by byte. -/
def fillF (f : Nat → UInt8) (n : Nat) : Nat → UInt8 := fun j => if j < n then f j else 0
theorem fillF_set (f : Nat → UInt8) (n m : Nat) (h : m = n + 1) (j : Nat) : fillF f m j = if j = n then f n else fillF f n j := by
  subst h
  unfold fillF
  by_cases e : j = n
  · subst e; rw [if_pos (by omega), if_pos rfl]
  · rw [if_neg e]
    by_cases h : j < n
    · rw [if_pos h, if_pos (by omega)]
    · rw [if_neg h, if_neg (by omega)]
theorem fillF_at (f : Nat → UInt8) (n : Nat) : fillF f n n = 0 := if_neg (by omega)
theorem fillF_all (n : Nat) (f : Nat → UInt8) : bA n (fillF f n) = bA n f := bA_ext fun j h => if_pos h
/-- A round: the bytes moved and replaced. -/
def rndS (box b : Nat → UInt8) : Nat → UInt8 := fun j => box (b (j % 4 + 4 * ((j / 4 + j % 4) % 4))).toNat
/-- The columns mixed. -/
def rndM (s : Nat → UInt8) : Nat → UInt8 := fun j => (((xt (s j) ^^^ xt (s ((j % 4 + 1) % 4 + 4 * (j / 4)))) ^^^ s ((j % 4 + 1) % 4 + 4 * (j / 4))) ^^^ s ((j % 4 + 2) % 4 + 4 * (j / 4))) ^^^ s ((j % 4 + 3) % 4 + 4 * (j / 4))
def rndF (last : Bool) (box b key : Nat → UInt8) : Nat → UInt8 := fun j => (if last then rndS box b j else rndM (rndS box b) j) ^^^ key j
theorem b16_size : (Tryd.prog.info? 22).map (·.size) = some 16 := by kernel_rfl
structure REnv (w : World) (b key box : Nat → UInt8) (W : World) : Prop where
  bb : Blk W w.heap.size 22 (bA 16 b)
  bk : Blk W (w.heap.size + 1) 22 (bA 16 key)
  bx : Blk W (w.heap.size + 1 + 1) 72 (bA 256 box)
  br : Blk W (w.heap.size + 1 + 1 + 1) 22 (bA 16 fun _ => 0)
  bw : Below w.heap.size w W
theorem REnv.set {w W : World} {b key box : Nat → UInt8} (h : REnv w b key box W) {g : Nat} (hg : w.heap.size + 4 ≤ g) (i : Nat) (u : Value) : REnv w b key box (W.setCell ⟨g, i, none⟩ u) :=
  ⟨h.bb.far (by show w.heap.size ≠ g; omega) u, h.bk.far (by show w.heap.size + 1 ≠ g; omega) u, h.bx.far (by show w.heap.size + 1 + 1 ≠ g; omega) u, h.br.far (by show w.heap.size + 1 + 1 + 1 ≠ g; omega) u, h.bw.setCell (by show w.heap.size ≤ g; omega) u⟩
theorem REnv.alloc {w W : World} {b key box : Nat → UInt8} (h : REnv w b key box W) (o : Obj) : REnv w b key box (W.alloc o) := ⟨h.bb.alloc o, h.bk.alloc o, h.bx.alloc o, h.br.alloc o, h.bw.alloc h.bw.size o⟩
theorem REnv.drew {w W : World} {b key box : Nat → UInt8} (h : REnv w b key box W) : REnv w b key box W.drew := ⟨h.bb.drew_, h.bk.drew_, h.bx.drew_, h.br.drew_, h.bw.drew⟩
theorem renv_start (w : World) (b key box : Nat → UInt8) (z1 z2 : Array Value) (h1 : z1 = bA 16 fun _ => 0) (h2 : z2 = bA 16 fun _ => 0) :
    REnv w b key box (((((w.alloc (.cells (bA 16 b) 22)).alloc (.cells (bA 16 key) 22)).alloc (.cells (bA 256 box) 72)).alloc (.cells z1 22)).alloc (.cells z2 22)) ∧
    Blk (((((w.alloc (.cells (bA 16 b) 22)).alloc (.cells (bA 16 key) 22)).alloc (.cells (bA 256 box) 72)).alloc (.cells z1 22)).alloc (.cells z2 22)) (w.heap.size + 1 + 1 + 1 + 1) 22 (bA 16 fun _ => 0) := by
  subst h1 h2
  have n0 := Blk.new w 22 (bA 16 b)
  have n1 := Blk.new (w.alloc (.cells (bA 16 b) 22)) 22 (bA 16 key)
  have n2 := Blk.new ((w.alloc (.cells (bA 16 b) 22)).alloc (.cells (bA 16 key) 22)) 72 (bA 256 box)
  have n3 := Blk.new (((w.alloc (.cells (bA 16 b) 22)).alloc (.cells (bA 16 key) 22)).alloc (.cells (bA 256 box) 72)) 22 (bA 16 fun _ => 0)
  have n4 := Blk.new ((((w.alloc (.cells (bA 16 b) 22)).alloc (.cells (bA 16 key) 22)).alloc (.cells (bA 256 box) 72)).alloc (.cells (bA 16 fun _ => 0) 22)) 22 (bA 16 fun _ => 0)
  simp only [World.size_alloc] at n1 n2 n3 n4
  exact ⟨⟨(((n0.alloc _).alloc _).alloc _).alloc _, ((n1.alloc _).alloc _).alloc _, (n2.alloc _).alloc _, n3.alloc _, (((((Below.refl _ _).alloc (Nat.le_refl _) _).alloc (by simp) _).alloc (by simp; omega) _).alloc (by simp; omega) _).alloc (by simp; omega) _⟩, n4⟩
set_option maxHeartbeats 1000000 in
set_option maxRecDepth 100000 in
theorem rround_any (w : World) (b key box : Nat → UInt8) (last : Bool) : Calls Tryd.prog 63 #[.agg (bA 16 b), .agg (bA 16 key), .bool last, .agg (bA 256 box)] w fun e w' => e = .returned (.agg (bA 16 (rndF last box b key))) ∧ Below w.heap.size w w' := by
  go_enter Tryd.func63, Tryd.ntmps63
  go_wp2_with fail
  go_name_world W0 hW0
  have hE := renv_start w b key box _ _ (show #[Value.int .u8 0, .int .u8 0, .int .u8 0, .int .u8 0, .int .u8 0, .int .u8 0, .int .u8 0, .int .u8 0, .int .u8 0, .int .u8 0, .int .u8 0, .int .u8 0, .int .u8 0, .int .u8 0, .int .u8 0, .int .u8 0] = bA 16 fun _ => 0 from rfl) (show #[Value.int .u8 0, .int .u8 0, .int .u8 0, .int .u8 0, .int .u8 0, .int .u8 0, .int .u8 0, .int .u8 0, .int .u8 0, .int .u8 0, .int .u8 0, .int .u8 0, .int .u8 0, .int .u8 0, .int .u8 0, .int .u8 0] = bA 16 fun _ => 0 from rfl)
  rw [hW0] at hE
  clear hW0
  have HE0 := kept hE.1
  have HS0 := kept (show Blk W0 (w.heap.size + 1 + 1 + 1 + 1) 22 (bA 16 (fillF (rndS box b) (4 * 0))) from hE.2)
  clear hE
  go_loopw [10] (fun c wr => ∃ n : Nat, n ≤ 4 ∧ c = .int .i64 n ∧ Kept (REnv w b key box wr) ∧ Kept (Blk wr (w.heap.size + 1 + 1 + 1 + 1) 22 (bA 16 (fillF (rndS box b) (4 * n))))) (fun c _ => 4 - (intOf c).toNat)
  case atStart => exact ⟨0, Nat.zero_le _, rfl, HE0, HS0⟩
  case round =>
    obtain ⟨c, hc, rfl, HE1, HS1⟩ := hrel
    rename World => W1
    clear HE0 HS0
    by_cases hlt : c < 4
    · go_wp2_with fail
      go_loopw [11] (fun r wr => ∃ n : Nat, n ≤ 4 ∧ r = .int .i64 n ∧ Kept (REnv w b key box wr) ∧ Kept (Blk wr (w.heap.size + 1 + 1 + 1 + 1) 22 (bA 16 (fillF (rndS box b) (4 * c + n))))) (fun r _ => 4 - (intOf r).toNat)
      case atStart => exact ⟨0, Nat.zero_le _, rfl, HE1, HS1⟩
      case round =>
        obtain ⟨r, hr, rfl, HE2, HS2⟩ := hrel
        rename World => W2
        clear HE1 HS1
        by_cases hl : r < 4
        · have q1 : r + 4 * ((c + r) % 4) < 16 := by omega
          obtain ⟨x, hx⟩ : ∃ x, b (r + 4 * ((c + r) % 4)) = x := ⟨_, rfl⟩
          have c1 : W2.cell? ⟨w.heap.size, r + 4 * ((c + r) % 4), none⟩ = some (.int .u8 (x.toNat : Int)) := by rw [HE2.out.bb.cell, ← hx]; exact bA_at _ _ q1
          have hx2 := byte_lt x
          obtain ⟨y, hy⟩ : ∃ y, box x.toNat = y := ⟨_, rfl⟩
          have c2 : W2.cell? ⟨w.heap.size + 1 + 1, x.toNat, none⟩ = some (.int .u8 (y.toNat : Int)) := by rw [HE2.out.bx.cell, ← hy]; exact bA_at _ _ hx2
          have c3 : W2.cell? ⟨w.heap.size + 1 + 1 + 1 + 1, r + 4 * c, none⟩ = some (.int .u8 0) := by
            rw [HS2.out.cell, show r + 4 * c = 4 * c + r by omega, bA_at _ _ (by omega), fillF_at]
            rfl
          have f3 := HS2.out.frozen (r + 4 * c)
          have HY := kept (show rndS box b (r + 4 * c) = y by
            unfold rndS
            rw [show (r + 4 * c) % 4 = r by omega, show (r + 4 * c) / 4 = c by omega, hx, hy])
          clear hx hy
          go_wp2
          go_roundw
          case rel => exact ⟨r + 1, by omega, by go_num, kept (HE2.out.set (by omega) _ _), kept (HS2.out.putB (r + 4 * c) y fun j _ => by rw [← HY.out, show r + 4 * c = 4 * c + r by omega]; exact fillF_set _ _ _ rfl j)⟩
          case measure => simp [intOf]; omega
        · obtain rfl : r = 4 := by omega
          go_wp2
          go_roundw
          case rel => exact ⟨c + 1, by omega, by go_num, HE2, by rw [show 4 * (c + 1) = 4 * c + 4 by omega]; exact HS2⟩
          case measure => simp [intOf]; omega
    · obtain rfl : c = 4 := by omega
      have HT := kept (show Blk W1 (w.heap.size + 1 + 1 + 1 + 1) 22 (bA 16 (rndS box b)) by
        rw [← fillF_all]
        exact HS1.out)
      clear HS1
      go_wp2_with fail
      go_name_world W2 hW2
      have hg5 : w.heap.size + 4 < W1.heap.size := HT.out.lt
      have HE2 := kept (show REnv w b key box W2 by rw [← hW2]; exact HE1.out.alloc _)
      have HT2 := kept (show Blk W2 (w.heap.size + 1 + 1 + 1 + 1) 22 (bA 16 (rndS box b)) by rw [← hW2]; exact HT.out.alloc _)
      have HO2 := kept (show Blk W2 W1.heap.size 22 (bA 16 fun _ => 0) by rw [← hW2]; exact Blk.new W1 _ _)
      clear HE1 HT hW2
      generalize W1.heap.size = g5 at hg5 HO2
      have HO3 := kept (show Blk W2 g5 22 (bA 16 (fillF (rndF last box b key) (4 * 0))) from HO2.out)
      clear HO2
      go_loopw [13] (fun c wr => ∃ n : Nat, n ≤ 4 ∧ c = .int .i64 n ∧ Kept (REnv w b key box wr) ∧ Kept (Blk wr (w.heap.size + 1 + 1 + 1 + 1) 22 (bA 16 (rndS box b))) ∧ Kept (Blk wr g5 22 (bA 16 (fillF (rndF last box b key) (4 * n))))) (fun c _ => 4 - (intOf c).toNat)
      case atStart => exact ⟨0, Nat.zero_le _, rfl, HE2, HT2, HO3⟩
      case round =>
        obtain ⟨c, hc, rfl, HE4, HT4, HO4⟩ := hrel
        rename World => W4
        clear HE2 HT2 HO3
        by_cases hlt : c < 4
        · have hc4 : (c : Int) < 4 := by omega
          go_wp2_with fail
          go_loopw [14] (fun r wr => ∃ n : Nat, n ≤ 4 ∧ r = .int .i64 n ∧ Kept (REnv w b key box wr) ∧ Kept (Blk wr (w.heap.size + 1 + 1 + 1 + 1) 22 (bA 16 (rndS box b))) ∧ Kept (Blk wr g5 22 (bA 16 (fillF (rndF last box b key) (4 * c + n))))) (fun r _ => 4 - (intOf r).toNat)
          case atStart => exact ⟨0, Nat.zero_le _, rfl, HE4, HT4, HO4⟩
          case round =>
            obtain ⟨r, hr, rfl, HE5, HT5, HO5⟩ := hrel
            rename World => W5
            clear HE4 HT4 HO4
            by_cases hl : r < 4
            · have HF := kept (show rndF last box b key (r + 4 * c) = (if last then rndS box b (r + 4 * c) else (((xt (rndS box b (r + 4 * c)) ^^^ xt (rndS box b ((r + 1) % 4 + 4 * c))) ^^^ rndS box b ((r + 1) % 4 + 4 * c)) ^^^ rndS box b ((r + 2) % 4 + 4 * c)) ^^^ rndS box b ((r + 3) % 4 + 4 * c)) ^^^ key (r + 4 * c) by
                unfold rndF rndM
                rw [show (r + 4 * c) % 4 = r by omega, show (r + 4 * c) / 4 = c by omega])
              have cell : ∀ i, i < 16 → W5.cell? ⟨w.heap.size + 1 + 1 + 1 + 1, i, none⟩ = some (.int .u8 ((rndS box b i).toNat : Int)) := fun i hi => by rw [HT5.out.cell]; exact bA_at _ _ hi
              have d0 := cell (r + 4 * c) (by omega)
              have d1 := cell ((r + 1) % 4 + 4 * c) (by omega)
              have d2 := cell ((r + 2) % 4 + 4 * c) (by omega)
              have d3 := cell ((r + 3) % 4 + 4 * c) (by omega)
              have dk : W5.cell? ⟨w.heap.size + 1, r + 4 * c, none⟩ = some (.int .u8 ((key (r + 4 * c)).toNat : Int)) := by rw [HE5.out.bk.cell]; exact bA_at _ _ (by omega)
              have dO : W5.cell? ⟨g5, r + 4 * c, none⟩ = some (.int .u8 0) := by
                rw [HO5.out.cell, show r + 4 * c = 4 * c + r by omega, bA_at _ _ (by omega), fillF_at]
                rfl
              have fO := HO5.out.frozen (r + 4 * c)
              clear cell
              generalize rndS box b (r + 4 * c) = s0 at HF d0
              generalize rndS box b ((r + 1) % 4 + 4 * c) = s1 at HF d1
              generalize rndS box b ((r + 2) % 4 + 4 * c) = s2 at HF d2
              generalize rndS box b ((r + 3) % 4 + 4 * c) = s3 at HF d3
              generalize key (r + 4 * c) = k0 at HF dk
              cases last with
              | true =>
                have hx := gx8 s0 k0
                go_wp2
                go_roundw
                case rel => exact ⟨r + 1, by omega, by go_num, kept (HE5.out.set (by omega) _ _), kept (HT5.out.far (by show w.heap.size + 1 + 1 + 1 + 1 ≠ g5; omega) _), kept (HO5.out.putB (r + 4 * c) (gxr s0 k0) fun j _ => by rw [← show rndF true box b key (r + 4 * c) = gxr s0 k0 from HF.out, show r + 4 * c = 4 * c + r by omega]; exact fillF_set _ _ _ rfl j)⟩
                case measure => simp [intOf]; omega
              | false =>
                go_wp2_with fail
                have t2 : IntKind.i64.wrap ((r : Int) + 2) = (r : Int) + 2 := IntWalk.i64_in _ (by omega)
                have t3 : IntKind.i64.wrap ((r : Int) + 3) = (r : Int) + 3 := IntWalk.i64_in _ (by omega)
                have t4 : IntKind.i64.wrap (4 * (c : Int)) = 4 * (c : Int) := IntWalk.i64_in _ (by omega)
                have m : ∀ k : Int, 0 ≤ k → k ≤ 3 → IntKind.i64.wrap (((r : Int) + k).tmod 4 + 4 * (c : Int)) = ((r : Int) + k) % 4 + 4 * (c : Int) := fun k h0 h3 => by
                  rw [Int.tmod_eq_emod_of_nonneg (by omega)]
                  exact IntWalk.i64_in _ (by omega)
                obtain ⟨n2, hn2⟩ : ∃ n, (r + 2) % 4 + 4 * c = n := ⟨_, rfl⟩
                obtain ⟨n3, hn3⟩ : ∃ n, (r + 3) % 4 + 4 * c = n := ⟨_, rfl⟩
                rw [hn2] at d2
                rw [hn3] at d3
                have m2 : IntKind.i64.wrap (((r : Int) + 2).tmod 4 + 4 * (c : Int)) = (n2 : Int) := (m 2 (by omega) (by omega)).trans (by omega)
                have m3 : IntKind.i64.wrap (((r : Int) + 3).tmod 4 + 4 * (c : Int)) = (n3 : Int) := (m 3 (by omega) (by omega)).trans (by omega)
                have l2 : (n2 : Int) < 16 := by omega
                have l3 : (n3 : Int) < 16 := by omega
                clear m hn2 hn3
                have x1 := gx8 (xt s0) (xt s1)
                have x2 := gx8 (gxr (xt s0) (xt s1)) s1
                have x3 := gx8 (gxr (gxr (xt s0) (xt s1)) s1) s2
                have x4 := gx8 (gxr (gxr (gxr (xt s0) (xt s1)) s1) s2) s3
                refine wp_region_still_tail 25 (by kernel_rfl) (by kernel_rfl) ?_
                simp only [List.take_succ_cons, List.take_zero, List.drop_succ_cons, List.drop_zero]
                still_step
                still_call (rtwice_still W5.drew s0)
                still_step
                still_call (rtwice_still W5.drew s1)
                iterate 21 still_step
                refine wpStill_nil ?_
                change wpList _ _ _ _ _ W5.drew
                have dk' : W5.drew.cell? ⟨w.heap.size + 1, r + 4 * c, none⟩ = some (.int .u8 (k0.toNat : Int)) := dk
                have dO' : W5.drew.cell? ⟨g5, r + 4 * c, none⟩ = some (.int .u8 0) := dO
                have fO' : W5.drew.frozen? ⟨g5, r + 4 * c, none⟩ = false := fO
                clear d0 d1 d2 d3 dk dO fO t2 t3 t4 m2 m3 l2 l3
                have x5 := gx8 (gxr (gxr (gxr (gxr (xt s0) (xt s1)) s1) s2) s3) k0
                have HF' := kept (show rndF false box b key (r + 4 * c) = gxr (gxr (gxr (gxr (gxr (xt s0) (xt s1)) s1) s2) s3) k0 from HF.out)
                clear HF
                generalize gxr (gxr (gxr (gxr (xt s0) (xt s1)) s1) s2) s3 = X at x4 x5 HF'
                go_wp2
                go_roundw
                case rel =>
                  iterate 61 apply Exists.intro
                  refine And.intro ?_ rfl
                  exact ⟨r + 1, by omega, by go_num, kept (HE5.out.drew.set (by omega) _ _), kept (HT5.out.drew_.far (by show w.heap.size + 1 + 1 + 1 + 1 ≠ g5; omega) _), kept (HO5.out.drew_.putB (r + 4 * c) (gxr X k0) fun j _ => by rw [← HF'.out, show r + 4 * c = 4 * c + r by omega]; exact fillF_set _ _ _ rfl j)⟩
                case measure => simp [intOf]; omega
            · obtain rfl : r = 4 := by omega
              go_wp2
              go_roundw
              case rel => exact ⟨c + 1, by omega, by go_num, HE5, HT5, by rw [show 4 * (c + 1) = 4 * c + 4 by omega]; exact HO5⟩
              case measure => simp [intOf]; omega
        · obtain rfl : c = 4 := by omega
          have HO6 := kept (show Blk W4 g5 22 (bA 16 (rndF last box b key)) by
            rw [← fillF_all]
            exact HO4.out)
          clear HO4
          go_wp2_with (first | (refine wpList_load_row rfl 22 _ rfl g5 rfl 22 (bA 16 (rndF last box b key)) (0,0) _ HO6.out Tryd.underlying22 rfl (by rw [b16_size, bA_size]) ?_) | (refine wpList_store_row rfl 22 _ _ rfl (w.heap.size + 1 + 1 + 1) (bA 16 (rndF last box b key)) rfl rfl 22 (bA 16 (fun _ => 0)) HE4.out.br (by rw [b16_size, bA_size]) (by rw [bA_size, bA_size]) (bA_one _ _) ?_))
          exact bodyPost_ret (v := .agg (bA 16 (rndF last box b key))) (results_cell_row Tryd.results63 _ _ (w.heap.size + 1 + 1 + 1) 22 (bA 16 (rndF last box b key)) (0, 0) _ rfl (setRow_heap _ _ _ _ _ _ HE4.out.br) Tryd.underlying22 rfl (by rw [b16_size, bA_size])) rfl ⟨rfl, below_setRow HE4.out.bw (by omega) _⟩
end Go.Proofs.YtcjbplgjjhenkaaDoor
namespace Go.Proofs.YtcjbplgjjhenkaaDoor
open Go.RowKit
set_option linter.unusedVariables false
set_option linter.unusedSimpArgs false

/-- The powers of 2 in the field. -/
def kp : Nat → UInt8
  | 0 => 1
  | n + 1 => xt (kp n)
/-- A byte of the next column. -/
def kNew (box key s : Nat → UInt8) (n r : Nat) : UInt8 :=
  if n < 4 then key (4 * n + r) else gxr (s (4 * (n - 4) + r)) (if n % 4 = 0 then (if r = 0 then gxr (box (s (4 * (n - 1) + 1)).toNat) (kp ((n - 1) / 4)) else box (s (4 * (n - 1) + (r + 1) % 4)).toNat) else s (4 * (n - 1) + r))
/-- The cells behind n columns, and r bytes of the next one. -/
def kPart (box key s : Nat → UInt8) (n r : Nat) : Nat → UInt8 := fun j => if j / 4 = n ∧ j % 4 < r then kNew box key s n (j % 4) else s j
def kW (box key : Nat → UInt8) : Nat → Nat → UInt8
  | 0 => fun _ => 0
  | n + 1 => kPart box key (kW box key n) n 4
theorem kPart_zero (box key s : Nat → UInt8) (n : Nat) : bA 176 (kPart box key s n 0) = bA 176 s := bA_ext fun j _ => if_neg (by omega)
theorem kPart_set (box key s : Nat → UInt8) (n r : Nat) (hr : r < 4) (j : Nat) : kPart box key s n (r + 1) j = if j = 4 * n + r then kNew box key s n r else kPart box key s n r j := by
  unfold kPart
  by_cases e : j = 4 * n + r
  · subst e
    rw [if_pos rfl, if_pos (by omega), show (4 * n + r) % 4 = r by omega]
  · rw [if_neg e]
    by_cases h : j / 4 = n ∧ j % 4 < r
    · rw [if_pos h, if_pos (by omega)]
    · rw [if_neg h, if_neg (by omega)]
theorem kPart_old (box key s : Nat → UInt8) (n r j : Nat) (h : j < 4 * n) : kPart box key s n r j = s j := if_neg (by omega)
structure KEnv (w : World) (key box : Nat → UInt8) (W : World) : Prop where
  bk : Blk W w.heap.size 22 (bA 16 key)
  bx : Blk W (w.heap.size + 1) 72 (bA 256 box)
  br : Blk W (w.heap.size + 1 + 1) 98 (bA 176 fun _ => 0)
  bw : Below w.heap.size w W
theorem KEnv.set {w W : World} {key box : Nat → UInt8} (h : KEnv w key box W) {g : Nat} (hg : w.heap.size + 3 ≤ g) (i : Nat) (u : Value) : KEnv w key box (W.setCell ⟨g, i, none⟩ u) :=
  ⟨h.bk.far (by show w.heap.size ≠ g; omega) u, h.bx.far (by show w.heap.size + 1 ≠ g; omega) u, h.br.far (by show w.heap.size + 1 + 1 ≠ g; omega) u, h.bw.setCell (by show w.heap.size ≤ g; omega) u⟩
theorem KEnv.alloc {w W : World} {key box : Nat → UInt8} (h : KEnv w key box W) (o : Obj) : KEnv w key box (W.alloc o) := ⟨h.bk.alloc o, h.bx.alloc o, h.br.alloc o, h.bw.alloc h.bw.size o⟩
theorem Blk.row_far {W : World} {g k : Nat} {t : TypeId} {cs ds : Array Value} (h : Blk W k t cs) (hk : k ≠ g) : Blk (W.setRow g ds) k t cs := (setRow_other W g k ds hk).trans h
theorem KEnv.row {w W : World} {key box : Nat → UInt8} (h : KEnv w key box W) {g : Nat} (hg : w.heap.size + 3 ≤ g) (ds : Array Value) : KEnv w key box (W.setRow g ds) :=
  ⟨h.bk.row_far (by omega), h.bx.row_far (by omega), h.br.row_far (by omega), below_setRow h.bw (by omega) _⟩
theorem b176_size : (Tryd.prog.info? 98).map (·.size) = some 176 := by kernel_rfl
theorem b4_size : (Tryd.prog.info? 105).map (·.size) = some 4 := by kernel_rfl
/-- Four bytes. -/
def q4 (a b c d : UInt8) : Nat → UInt8
  | 0 => a
  | 1 => b
  | 2 => c
  | _ => d
theorem q4_eq (a b c d : UInt8) : #[Value.int .u8 (a.toNat : Int), .int .u8 (b.toNat : Int), .int .u8 (c.toNat : Int), .int .u8 (d.toNat : Int)] = bA 4 (q4 a b c d) := rfl
theorem KEnv.drew {w W : World} {key box : Nat → UInt8} (h : KEnv w key box W) : KEnv w key box W.drew := ⟨h.bk.drew_, h.bx.drew_, h.br.drew_, h.bw.drew⟩
theorem zero11 (w : World) : (zeroValue 98).run Tryd.prog w = .ok (.agg (bA 176 fun _ => 0)) w := by kernel_rfl
theorem zero44 (w : World) : (zeroValue 106).run Tryd.prog w = .ok (.agg (bA 176 fun _ => 0)) w := by kernel_rfl
theorem kenv_start (w : World) (key box : Nat → UInt8) :
    KEnv w key box ((((w.alloc (.cells (bA 16 key) 22)).alloc (.cells (bA 256 box) 72)).alloc (.cells (bA 176 fun _ => 0) 98)).alloc (.cells (bA 176 fun _ => 0) 106)) ∧
    Blk ((((w.alloc (.cells (bA 16 key) 22)).alloc (.cells (bA 256 box) 72)).alloc (.cells (bA 176 fun _ => 0) 98)).alloc (.cells (bA 176 fun _ => 0) 106)) (w.heap.size + 1 + 1 + 1) 106 (bA 176 fun _ => 0) := by
  have n0 := Blk.new w 22 (bA 16 key)
  have n1 := Blk.new (w.alloc (.cells (bA 16 key) 22)) 72 (bA 256 box)
  have n2 := Blk.new ((w.alloc (.cells (bA 16 key) 22)).alloc (.cells (bA 256 box) 72)) 98 (bA 176 fun _ => 0)
  have n3 := Blk.new (((w.alloc (.cells (bA 16 key) 22)).alloc (.cells (bA 256 box) 72)).alloc (.cells (bA 176 fun _ => 0) 98)) 106 (bA 176 fun _ => 0)
  simp only [World.size_alloc] at n1 n2 n3
  exact ⟨⟨((n0.alloc _).alloc _).alloc _, (n1.alloc _).alloc _, n2.alloc _, ((((Below.refl _ _).alloc (Nat.le_refl _) _).alloc (by simp) _).alloc (by simp; omega) _).alloc (by simp; omega) _⟩, n3⟩
set_option maxHeartbeats 2000000 in
set_option maxRecDepth 100000 in
theorem rkeys_any (w : World) (key box : Nat → UInt8) : Calls Tryd.prog 62 #[.agg (bA 16 key), .agg (bA 256 box)] w fun e w' => e = .returned (.agg (bA 176 (kW box key 44))) ∧ Below w.heap.size w w' := by
  have hz1 := zero11
  have hz2 := zero44
  go_enter Tryd.func62, Tryd.ntmps62
  go_wp2_with fail
  go_name_world W0 hW0
  have hE := kenv_start w key box
  rw [hW0] at hE
  clear hW0
  have HE0 := kept hE.1
  have HC0 := kept (show Blk W0 (w.heap.size + 1 + 1 + 1) 106 (bA 176 (kW box key 0)) from hE.2)
  clear hE
  go_loopw [6, 7] (fun p i wr => ∃ n : Nat, n ≤ 44 ∧ i = .int .i64 n ∧ p = .int .u8 ((kp ((n - 1) / 4)).toNat : Int) ∧ Kept (KEnv w key box wr) ∧ Kept (Blk wr (w.heap.size + 1 + 1 + 1) 106 (bA 176 (kW box key n)))) (fun _ i _ => 44 - (intOf i).toNat)
  case atStart => exact ⟨0, Nat.zero_le _, rfl, rfl, HE0, HC0⟩
  case round =>
    obtain ⟨n, hn, rfl, rfl, HE1, HC1⟩ := hrel
    rename World => W1
    clear HE0 HC0
    by_cases hlt : n < 44
    · have hn44 : (n : Int) < 44 := by omega
      by_cases h4 : n < 4
      · have hn4 : (n : Int) < 4 := by omega
        have HC2 := kept (show Blk W1 (w.heap.size + 1 + 1 + 1) 106 (bA 176 (kPart box key (kW box key n) n 0)) by rw [kPart_zero]; exact HC1.out)
        clear HC1
        go_wp2_with fail
        go_loopw [8] (fun r wr => ∃ m : Nat, m ≤ 4 ∧ r = .int .i64 m ∧ Kept (KEnv w key box wr) ∧ Kept (Blk wr (w.heap.size + 1 + 1 + 1) 106 (bA 176 (kPart box key (kW box key n) n m)))) (fun r _ => 4 - (intOf r).toNat)
        case atStart => exact ⟨0, Nat.zero_le _, rfl, HE1, HC2⟩
        case round =>
          obtain ⟨r, hr, rfl, HE2, HC3⟩ := hrel
          rename World => W2
          clear HE1 HC2
          by_cases hl : r < 4
          · have hs := kPart_set box key (kW box key n) n r hl
            have hk : kNew box key (kW box key n) n r = key (4 * n + r) := if_pos h4
            rw [hk] at hs
            have HS := kept hs
            clear hs hk
            have c1 : W2.cell? ⟨w.heap.size, 4 * n + r, none⟩ = some (.int .u8 ((key (4 * n + r)).toNat : Int)) := by rw [HE2.out.bk.cell]; exact bA_at _ _ (by omega)
            obtain ⟨o, ho⟩ : ∃ o, kPart box key (kW box key n) n r (4 * n + r) = o := ⟨_, rfl⟩
            have c2 : W2.cell? ⟨w.heap.size + 1 + 1 + 1, n * 4 + r, none⟩ = some (.int .u8 (o.toNat : Int)) := by rw [HC3.out.cell, show n * 4 + r = 4 * n + r by omega, ← ho]; exact bA_at _ _ (by omega)
            have f2 := HC3.out.frozen (n * 4 + r)
            clear ho
            generalize key (4 * n + r) = k0 at c1 HS
            have hr4 : (r : Int) < 4 := by omega
            go_wp2
            go_region
            all_goals go_wp2
            go_roundw
            case rel => exact ⟨r + 1, by omega, by go_num, kept (HE2.out.set (by omega) _ _).drew, kept (HC3.out.putB (n * 4 + r) k0 fun j _ => by rw [show n * 4 + r = 4 * n + r by omega]; exact HS.out j).drew_⟩
            case measure => simp [intOf]; omega
          · obtain rfl : r = 4 := by omega
            go_wp2
            go_roundw
            case rel => exact ⟨n + 1, by omega, by go_num, by rw [show (n - 1) / 4 = 0 by omega, show (n + 1 - 1) / 4 = 0 by omega], HE2, HC3⟩
            case measure => simp [intOf]; omega
      · have hn4 : ¬ (n : Int) < 4 := by omega
        obtain ⟨m, hm⟩ : ∃ m, n = m + 4 := ⟨n - 4, by omega⟩
        subst hm
        have cell : ∀ i, i < 176 → W1.cell? ⟨w.heap.size + 1 + 1 + 1, i, none⟩ = some (.int .u8 ((kW box key (m + 4) i).toNat : Int)) := fun i hi => by rw [HC1.out.cell]; exact bA_at _ _ hi
        have d0 := cell ((m + 3) * 4) (by omega)
        have d1 := cell ((m + 3) * 4 + 1) (by omega)
        have d2 := cell ((m + 3) * 4 + 2) (by omega)
        have d3 := cell ((m + 3) * 4 + 3) (by omega)
        clear cell
        obtain ⟨t0, e0⟩ : ∃ t, kW box key (m + 4) ((m + 3) * 4) = t := ⟨_, rfl⟩
        obtain ⟨t1, e1⟩ : ∃ t, kW box key (m + 4) ((m + 3) * 4 + 1) = t := ⟨_, rfl⟩
        obtain ⟨t2, e2⟩ : ∃ t, kW box key (m + 4) ((m + 3) * 4 + 2) = t := ⟨_, rfl⟩
        obtain ⟨t3, e3⟩ : ∃ t, kW box key (m + 4) ((m + 3) * 4 + 3) = t := ⟨_, rfl⟩
        rw [e0] at d0
        rw [e1] at d1
        rw [e2] at d2
        rw [e3] at d3
        have E0 := kept e0
        have E1 := kept e1
        have E2 := kept e2
        have E3 := kept e3
        clear e0 e1 e2 e3
        have hp : (↑(m + 4) : Int) - 1 = ((m + 3 : Nat) : Int) := by omega
        have hm44 : (m : Int) + 4 < 44 := by omega
        have hm4 : ¬ (m : Int) + 4 < 4 := by omega
        clear hn4 hn44
        by_cases h0 : m % 4 = 0
        · have hq : ((m : Int) % 4 == 0) = true := by
            rw [beq_iff_eq]
            omega
          go_wp2
          go_name_world W2 hW2
          have HE2 := kept (show KEnv w key box W2 by rw [← hW2]; exact HE1.out.alloc _)
          have HC2 := kept (show Blk W2 (w.heap.size + 1 + 1 + 1) 106 (bA 176 (kW box key (m + 4))) by rw [← hW2]; exact HC1.out.alloc _)
          have HT2 := kept (show Blk W2 W1.heap.size 105 (bA 4 (q4 t0 t1 t2 t3)) by rw [← hW2]; exact Blk.new W1 _ _)
          have hg5 : w.heap.size + 3 < W1.heap.size := HC1.out.lt
          clear hW2 d0 d1 d2 d3
          generalize W1.heap.size = g5 at hg5 HT2
          have bx : ∀ t : UInt8, W2.cell? ⟨w.heap.size + 1, t.toNat, none⟩ = some (.int .u8 ((box t.toNat).toNat : Int)) := fun t => by rw [HE2.out.bx.cell]; exact bA_at _ _ (byte_lt t)
          have b0 := bx t0
          have b1 := bx t1
          have b2 := bx t2
          have b3 := bx t3
          have d0 : W2.cell? ⟨g5, 0, none⟩ = some (.int .u8 (t0.toNat : Int)) := by rw [HT2.out.cell]; rfl
          have d1 : W2.cell? ⟨g5, 1, none⟩ = some (.int .u8 (t1.toNat : Int)) := by rw [HT2.out.cell]; rfl
          have d2 : W2.cell? ⟨g5, 2, none⟩ = some (.int .u8 (t2.toNat : Int)) := by rw [HT2.out.cell]; rfl
          have d3 : W2.cell? ⟨g5, 3, none⟩ = some (.int .u8 (t3.toNat : Int)) := by rw [HT2.out.cell]; rfl
          have l0 : (t0.toNat : Int) < 256 := by have := byte_lt t0; omega
          have l1 : (t1.toNat : Int) < 256 := by have := byte_lt t1; omega
          have l2 : (t2.toNat : Int) < 256 := by have := byte_lt t2; omega
          have l3 : (t3.toNat : Int) < 256 := by have := byte_lt t3; omega
          clear bx
          have hx1 := gx8 (box t1.toNat) (kp ((m + 3) / 4))
          refine wp_region_still_tail 19 (by kernel_rfl) (by kernel_rfl) ?_
          simp only [List.take_succ_cons, List.take_zero, List.drop_succ_cons, List.drop_zero]
          iterate 19 still_step
          refine wpStill_nil ?_
          change wpList _ _ _ _ _ W2.drew
          have HT2' := kept (show Blk W2.drew g5 105 (bA 4 (q4 t0 t1 t2 t3)) from HT2.out.drew_)
          go_wp2_with (refine wpList_store_row rfl 105 _ _ rfl g5 (bA 4 (q4 (gxr (box t1.toNat) (kp ((m + 3) / 4))) (box t2.toNat) (box t3.toNat) (box t0.toNat))) rfl rfl 105 (bA 4 (q4 t0 t1 t2 t3)) HT2'.out (by rw [b4_size, bA_size]) (by rw [bA_size, bA_size]) (bA_one _ _) ?_)
          generalize hW3 : W2.drew.setRow g5 (bA 4 (q4 (gxr (box t1.toNat) (kp ((m + 3) / 4))) (box t2.toNat) (box t3.toNat) (box t0.toNat))) = W3
          have HE3 := kept (show KEnv w key box W3 by rw [← hW3]; exact HE2.out.drew.row (by omega) _)
          have HC3 := kept (show Blk W3 (w.heap.size + 1 + 1 + 1) 106 (bA 176 (kW box key (m + 4))) by rw [← hW3]; exact HC2.out.drew_.row_far (by omega))
          have HT3 := kept (show Blk W3 g5 105 (bA 4 (q4 (gxr (box t1.toNat) (kp ((m + 3) / 4))) (box t2.toNat) (box t3.toNat) (box t0.toNat))) by rw [← hW3]; exact setRow_heap _ _ _ _ _ _ HT2'.out)
          have HTT := kept (show ∀ r, r < 4 → kNew box key (kW box key (m + 4)) (m + 4) r = gxr (kW box key (m + 4) (4 * m + r)) (q4 (gxr (box t1.toNat) (kp ((m + 3) / 4))) (box t2.toNat) (box t3.toNat) (box t0.toNat) r) from fun r hr => by
            unfold kNew
            rw [if_neg (by omega), if_pos (by omega), show m + 4 - 4 = m by omega, show 4 * (m + 4 - 1) = (m + 3) * 4 by omega, show (m + 4 - 1) / 4 = (m + 3) / 4 by omega]
            congr 1
            match r, hr with
            | 0, _ => rw [if_pos rfl, E1.out]; rfl
            | 1, _ => rw [if_neg (by omega), E2.out]; rfl
            | 2, _ => rw [if_neg (by omega), E3.out]; rfl
            | 3, _ => rw [if_neg (by omega)]; exact congrArg (fun z : UInt8 => box z.toNat) E0.out)
          have HP := kept (show xt (kp ((m + 3) / 4)) = kp ((m + 4) / 4) by rw [show (m + 4) / 4 = (m + 3) / 4 + 1 by omega]; rfl)
          clear hW3 HE2 HC2 HT2 HT2' d0 d1 d2 d3 b0 b1 b2 b3 l0 l1 l2 l3 E0 E1 E2 E3
          generalize q4 (gxr (box t1.toNat) (kp ((m + 3) / 4))) (box t2.toNat) (box t3.toNat) (box t0.toNat) = T at HT3 HTT
          refine (rtwice_any W3 _).mono ?_
          rintro e w' ⟨rfl, rfl⟩
          rw [HP.out]
          go_wp2_with fail
          go_loopw [10] (fun r wr => ∃ x : Nat, x ≤ 4 ∧ r = .int .i64 x ∧ Kept (KEnv w key box wr) ∧ Kept (Blk wr (w.heap.size + 1 + 1 + 1) 106 (bA 176 (kPart box key (kW box key (m + 4)) (m + 4) x))) ∧ Kept (Blk wr g5 105 (bA 4 T))) (fun r _ => 4 - (intOf r).toNat)
          case atStart => exact ⟨0, Nat.zero_le _, rfl, HE3, kept (by rw [kPart_zero]; exact HC3.out), HT3⟩
          case round =>
            obtain ⟨r, hr, rfl, HE4, HC4, HT4⟩ := hrel
            rename World => W5
            clear HE3 HC3 HT3
            by_cases hl : r < 4
            · have hs := kPart_set box key (kW box key (m + 4)) (m + 4) r hl
              rw [HTT.out r hl] at hs
              have HS := kept hs
              clear hs
              have c1 : W5.cell? ⟨w.heap.size + 1 + 1 + 1, m * 4 + r, none⟩ = some (.int .u8 ((kW box key (m + 4) (4 * m + r)).toNat : Int)) := by rw [HC4.out.cell, show m * 4 + r = 4 * m + r by omega, bA_at _ _ (by omega), kPart_old _ _ _ _ _ _ (by omega)]
              have c2 : W5.cell? ⟨g5, r, none⟩ = some (.int .u8 ((T r).toNat : Int)) := by rw [HT4.out.cell]; exact bA_at _ _ hl
              obtain ⟨o, ho⟩ : ∃ o, kPart box key (kW box key (m + 4)) (m + 4) r (4 * (m + 4) + r) = o := ⟨_, rfl⟩
              have c3 : W5.cell? ⟨w.heap.size + 1 + 1 + 1, (m + 4) * 4 + r, none⟩ = some (.int .u8 (o.toNat : Int)) := by rw [HC4.out.cell, show (m + 4) * 4 + r = 4 * (m + 4) + r by omega, ← ho]; exact bA_at _ _ (by omega)
              have f3 := HC4.out.frozen ((m + 4) * 4 + r)
              clear ho
              have hx := gx8 (kW box key (m + 4) (4 * m + r)) (T r)
              generalize gxr (kW box key (m + 4) (4 * m + r)) (T r) = Z at hx HS
              generalize kW box key (m + 4) (4 * m + r) = a1 at hx c1
              generalize T r = a2 at hx c2
              have hr4 : (r : Int) < 4 := by omega
              go_wp2
              go_region
              all_goals go_wp2
              go_roundw
              case rel => exact ⟨r + 1, by omega, by go_num, kept (HE4.out.set (by omega) _ _).drew, kept (HC4.out.putB ((m + 4) * 4 + r) Z fun j _ => by rw [show (m + 4) * 4 + r = 4 * (m + 4) + r by omega]; exact HS.out j).drew_, kept (HT4.out.far (by show g5 ≠ w.heap.size + 1 + 1 + 1; omega) _).drew_⟩
              case measure => simp [intOf]; omega
            · obtain rfl : r = 4 := by omega
              go_wp2
              go_roundw
              case rel => exact ⟨m + 5, by omega, by go_num, by first | (rw [show (m + 5 - 1) / 4 = (m + 4) / 4 by omega]; done) | rw [show (m + 5 - 1) / 4 = m / 4 + 1 by omega], HE4, HC4⟩
              case measure => simp [intOf]; omega
        · have hq : ((m : Int) % 4 == 0) = false := by
            rw [beq_eq_false_iff_ne]
            omega
          go_wp2
          go_name_world W3 hW3
          have HE3 := kept (show KEnv w key box W3 by rw [← hW3]; exact HE1.out.alloc _)
          have HC3 := kept (show Blk W3 (w.heap.size + 1 + 1 + 1) 106 (bA 176 (kW box key (m + 4))) by rw [← hW3]; exact HC1.out.alloc _)
          have HT3 := kept (show Blk W3 W1.heap.size 105 (bA 4 (q4 t0 t1 t2 t3)) by rw [← hW3]; exact Blk.new W1 _ _)
          have hg5 : w.heap.size + 3 < W1.heap.size := HC1.out.lt
          clear hW3 d0 d1 d2 d3
          generalize W1.heap.size = g5 at hg5 HT3
          have HTT := kept (show ∀ r, r < 4 → kNew box key (kW box key (m + 4)) (m + 4) r = gxr (kW box key (m + 4) (4 * m + r)) (q4 t0 t1 t2 t3 r) from fun r hr => by
            unfold kNew
            rw [if_neg (by omega), if_neg (by omega), show m + 4 - 4 = m by omega, show 4 * (m + 4 - 1) = (m + 3) * 4 by omega]
            congr 1
            match r, hr with
            | 0, _ => exact E0.out
            | 1, _ => exact E1.out
            | 2, _ => exact E2.out
            | 3, _ => exact E3.out)
          clear E0 E1 E2 E3
          generalize q4 t0 t1 t2 t3 = T at HT3 HTT
          rw [show (m + 3) / 4 = (m + 4) / 4 by omega]
          go_loopw [10] (fun r wr => ∃ x : Nat, x ≤ 4 ∧ r = .int .i64 x ∧ Kept (KEnv w key box wr) ∧ Kept (Blk wr (w.heap.size + 1 + 1 + 1) 106 (bA 176 (kPart box key (kW box key (m + 4)) (m + 4) x))) ∧ Kept (Blk wr g5 105 (bA 4 T))) (fun r _ => 4 - (intOf r).toNat)
          case atStart => exact ⟨0, Nat.zero_le _, rfl, HE3, kept (by rw [kPart_zero]; exact HC3.out), HT3⟩
          case round =>
            obtain ⟨r, hr, rfl, HE4, HC4, HT4⟩ := hrel
            rename World => W5
            clear HE3 HC3 HT3
            by_cases hl : r < 4
            · have hs := kPart_set box key (kW box key (m + 4)) (m + 4) r hl
              rw [HTT.out r hl] at hs
              have HS := kept hs
              clear hs
              have c1 : W5.cell? ⟨w.heap.size + 1 + 1 + 1, m * 4 + r, none⟩ = some (.int .u8 ((kW box key (m + 4) (4 * m + r)).toNat : Int)) := by rw [HC4.out.cell, show m * 4 + r = 4 * m + r by omega, bA_at _ _ (by omega), kPart_old _ _ _ _ _ _ (by omega)]
              have c2 : W5.cell? ⟨g5, r, none⟩ = some (.int .u8 ((T r).toNat : Int)) := by rw [HT4.out.cell]; exact bA_at _ _ hl
              obtain ⟨o, ho⟩ : ∃ o, kPart box key (kW box key (m + 4)) (m + 4) r (4 * (m + 4) + r) = o := ⟨_, rfl⟩
              have c3 : W5.cell? ⟨w.heap.size + 1 + 1 + 1, (m + 4) * 4 + r, none⟩ = some (.int .u8 (o.toNat : Int)) := by rw [HC4.out.cell, show (m + 4) * 4 + r = 4 * (m + 4) + r by omega, ← ho]; exact bA_at _ _ (by omega)
              have f3 := HC4.out.frozen ((m + 4) * 4 + r)
              clear ho
              have hx := gx8 (kW box key (m + 4) (4 * m + r)) (T r)
              generalize gxr (kW box key (m + 4) (4 * m + r)) (T r) = Z at hx HS
              generalize kW box key (m + 4) (4 * m + r) = a1 at hx c1
              generalize T r = a2 at hx c2
              have hr4 : (r : Int) < 4 := by omega
              go_wp2
              go_region
              all_goals go_wp2
              go_roundw
              case rel => exact ⟨r + 1, by omega, by go_num, kept (HE4.out.set (by omega) _ _).drew, kept (HC4.out.putB ((m + 4) * 4 + r) Z fun j _ => by rw [show (m + 4) * 4 + r = 4 * (m + 4) + r by omega]; exact HS.out j).drew_, kept (HT4.out.far (by show g5 ≠ w.heap.size + 1 + 1 + 1; omega) _).drew_⟩
              case measure => simp [intOf]; omega
            · obtain rfl : r = 4 := by omega
              go_wp2
              go_roundw
              case rel => exact ⟨m + 5, by omega, by go_num, by first | (rw [show (m + 5 - 1) / 4 = (m + 4) / 4 by omega]; done) | rw [show (m + 5 - 1) / 4 = m / 4 + 1 by omega], HE4, HC4⟩
              case measure => simp [intOf]; omega
    · obtain rfl : n = 44 := by omega
      have hg5 : w.heap.size + 3 < W1.heap.size := HC1.out.lt
      generalize kp ((44 - 1) / 4) = pz
      obtain ⟨R, hR⟩ : ∃ R, kW box key 44 = R := ⟨_, rfl⟩
      rw [hR] at HC1
      have HR := kept hR
      clear hR
      go_wp2
      go_name_world W2 hW2
      have HE2 := kept (show KEnv w key box W2 by rw [← hW2]; exact HE1.out.alloc _)
      have HC2 := kept (show Blk W2 (w.heap.size + 1 + 1 + 1) 106 (bA 176 R) by rw [← hW2]; exact HC1.out.alloc _)
      have HO2 := kept (show Blk W2 W1.heap.size 98 (bA 176 (fillF R 0)) by rw [← hW2]; exact Blk.new W1 _ _)
      clear hW2
      clear HE1 HC1
      generalize W1.heap.size = g5 at hg5 HO2
      go_loopw [12] (fun i wr => ∃ x : Nat, x ≤ 176 ∧ i = .int .i64 x ∧ Kept (KEnv w key box wr) ∧ Kept (Blk wr (w.heap.size + 1 + 1 + 1) 106 (bA 176 R)) ∧ Kept (Blk wr g5 98 (bA 176 (fillF R x)))) (fun i _ => 176 - (intOf i).toNat)
      case atStart => exact ⟨0, Nat.zero_le _, rfl, HE2, HC2, HO2⟩
      case round =>
        obtain ⟨x, hx, rfl, HE3, HC3, HO3⟩ := hrel
        rename World => W3
        clear HE2 HC2 HO2
        by_cases hl : x < 176
        · have hl176 : (x : Int) < 176 := by omega
          have c1 : W3.cell? ⟨w.heap.size + 1 + 1 + 1, x / 4 * 4 + x % 4, none⟩ = some (.int .u8 ((R x).toNat : Int)) := by rw [HC3.out.cell, show x / 4 * 4 + x % 4 = x by omega]; exact bA_at _ _ hl
          have c2 : W3.cell? ⟨g5, x / 16 * 16 + x % 16, none⟩ = some (.int .u8 0) := by
            rw [HO3.out.cell, show x / 16 * 16 + x % 16 = x by omega, bA_at _ _ hl, fillF_at]
            rfl
          have f2 := HO3.out.frozen (x / 16 * 16 + x % 16)
          have HS := kept (fillF_set R x (x + 1) rfl)
          generalize R x = a at c1 HS
          go_wp2
          go_region
          all_goals go_wp2
          go_roundw
          case rel => exact ⟨x + 1, by omega, by go_num, kept (HE3.out.set (by omega) _ _).drew, kept (HC3.out.far (by show w.heap.size + 1 + 1 + 1 ≠ g5; omega) _).drew_, kept (HO3.out.putB (x / 16 * 16 + x % 16) a fun j _ => by rw [show x / 16 * 16 + x % 16 = x by omega]; exact HS.out j).drew_⟩
          case measure => simp [intOf]; omega
        · obtain rfl : x = 176 := by omega
          have HO6 := kept (show Blk W3 g5 98 (bA 176 R) by
            rw [← fillF_all]
            exact HO3.out)
          clear HO3
          go_wp2_with (first | (refine wpList_load_row rfl 98 _ rfl g5 rfl 98 (bA 176 R) (0,0) _ HO6.out Tryd.underlying98 rfl (by rw [b176_size, bA_size]) ?_) | (refine wpList_store_row rfl 98 _ _ rfl (w.heap.size + 1 + 1) (bA 176 R) rfl rfl 98 (bA 176 (fun _ => 0)) HE3.out.br (by rw [b176_size, bA_size]) (by rw [bA_size, bA_size]) (bA_one _ _) ?_))
          exact bodyPost_ret (v := .agg (bA 176 R)) (results_cell_row Tryd.results62 _ _ (w.heap.size + 1 + 1) 98 (bA 176 R) (0, 0) _ rfl (setRow_heap _ _ _ _ _ _ HE3.out.br) Tryd.underlying98 rfl (by rw [b176_size, bA_size])) rfl ⟨by rw [HR.out], below_setRow HE3.out.bw (by omega) _⟩
end Go.Proofs.YtcjbplgjjhenkaaDoor
