/-
  The padding of a number of bytes: of the reference, of package sha.
-/
import Derived.Test.YtcjbplgjjhenkaaDoorSm4
import Derived.RegionTactic
import Derived.BigRegion
import Derived.Deep.QuietTactic
import Derived.BigQuiet
import Derived.StillTailTactics
import Derived.Lib.ItoaWalk
/-
  The reference's rot and Block, by contracts.
-/
namespace Go.Proofs.YtcjbplgjjhenkaaDoor
open Go.RowKit
set_option linter.unusedVariables false

theorem put_word {W : World} {g i : Nat} {t : TypeId} {f f' : Nat → Wd} {x : Wd} {z : Int} (h : Blk W g t (wA f)) (hz : z = wi x) (hf : (wA f).setIfInBounds i (wv x) = wA f') : Blk (W.setCell ⟨g, i, none⟩ (.int .u32 z)) g t (wA f') := by
  subst hz
  rw [← hf]
  exact h.put i _
theorem ret_i {k : IntKind} {a b : Int} (h : a = b) : Ending.returned (.int k a) = .returned (.int k b) := by rw [h]
theorem rrot_any (x : Wd) (n : Nat) (w : World) (hn : n < 32) : Calls Tryd.prog 57 #[.int .u32 (wi x), .int .u64 (n : Int)] w fun e w' => e = .returned (.int .u32 (wi (rotr n x))) ∧ w = w' := by
  have hx := wi_lo x
  have hx' := wi_hi x
  go_enter Tryd.func57, Tryd.ntmps57
  go_wp2
  go_ret
  refine ⟨ret_i ?_, rfl⟩
  rw [← b_rotr]
  rw [Int.natCast_pow, Int.natCast_pow]
  rfl
theorem rrot_z (x : Wd) (n : Nat) (z : Int) (w : World) (hn : n < 32) (hz : z = (n : Int)) : Calls Tryd.prog 57 #[.int .u32 (wi x), .int .u64 z] w fun e w' => e = .returned (.int .u32 (wi (rotr n x))) ∧ w = w' := by
  subst hz
  exact rrot_any x n w hn
theorem rrot_i (x : Wd) (z : Int) (w : World) (h0 : 0 ≤ z) (h1 : z < 32) : Calls Tryd.prog 57 #[.int .u32 (wi x), .int .u64 z] w fun e w' => e = .returned (.int .u32 (wi (rotr z.toNat x))) ∧ w = w' := by
  obtain ⟨n, rfl⟩ := Int.eq_ofNat_of_zero_le h0
  exact rrot_any x n w (by omega)
theorem rrot_still (x : Wd) (n : Nat) (z : Int) (w : World) (hn : n < 32) (hz : z = (n : Int)) : Calls Tryd.prog 57 #[.int .u32 (wi x), .int .u64 z] w fun e w' => e = .returned (.int .u32 (wi (rotr n x))) ∧ w' = w := by
  subst hz
  exact (rrot_any x n w hn).mono fun e w' h => ⟨h.1, h.2.symm⟩

set_option maxHeartbeats 16000000 in
set_option maxRecDepth 100000 in
theorem rblock_any (w : World) (s : St) (l : List UInt8) (ks : List Wd) (hl : l.length = 64) (hk : ks.length = 64) :
    Calls Tryd.prog 47 #[.agg (stA s), .agg (l.map bv).toArray, .agg (ks.map wv).toArray] w fun e w' => e = .returned (.agg (stA (blockS ks s l))) ∧ Below w.heap.size w w' := by
  have HL := kept hl
  have HK := kept hk
  clear hl hk
  have mixed : Tryd.prog.follows .mixedOrders = true := by kernel_rfl
  have hs := env_start w s l ks
  have HS := kept hs
  clear hs
  go_enter Tryd.func47, Tryd.ntmps47
  go_wp2
  go_name_world W0 hW0
  have he : Env w s l ks W0 ∧ Blk W0 (w.heap.size + 1 + 1 + 1 + 1) 79 (wA (F1 l 0)) := by rw [← hW0]; exact HS.out _ zeros64
  clear hW0 HS
  have HE := kept he.1
  have HB := kept he.2
  clear he
  go_loopw [8] (fun i wr => ∃ n : Nat, n ≤ 16 ∧ i = .int .i64 n ∧ Kept (Env w s l ks wr) ∧ Kept (Blk wr (w.heap.size + 1 + 1 + 1 + 1) 79 (wA (F1 l n)))) (fun i _ => 16 - (intOf i).toNat)
  case atStart => exact ⟨0, Nat.zero_le _, rfl, HE, HB⟩
  case round =>
    obtain ⟨n, hn, rfl, HE1, HB1⟩ := hrel
    rename World => W1
    clear HE HB
    by_cases hlt : n < 16
    · have HB2 := kept (show Blk W1 (w.heap.size + 1 + 1 + 1 + 1) 79 (wA (F2 l n 0)) by rw [F2_zero]; exact HB1.out)
      clear HB1
      go_wp2
      go_loopw [9] (fun k wr => ∃ m : Nat, m ≤ 4 ∧ k = .int .i64 m ∧ Kept (Env w s l ks wr) ∧ Kept (Blk wr (w.heap.size + 1 + 1 + 1 + 1) 79 (wA (F2 l n m)))) (fun k _ => 4 - (intOf k).toNat)
      case atStart => exact ⟨0, Nat.zero_le _, rfl, HE1, HB2⟩
      case round =>
        obtain ⟨m, hm, rfl, HE2, HB3⟩ := hrel
        rename World => W2
        by_cases hlm : m < 4
        · obtain ⟨x, hx⟩ : ∃ x, pw l n m = x := ⟨_, rfl⟩
          obtain ⟨b, hb⟩ : ∃ b, l.getD (4 * n + m) 0 = b := ⟨_, rfl⟩
          have c1 : W2.cell? ⟨w.heap.size + 1 + 1 + 1 + 1, n, none⟩ = some (.int .u32 (wi x)) := by
            rw [HB3.out.cell, wA_at _ (by omega), F2_self, hx]
          have c2 : W2.cell? ⟨w.heap.size + 1, 4 * n + m, none⟩ = some (.int .u8 (b.toNat : Int)) := by
            rw [HE2.out.b1.cell, ← hb]
            have h64 := HL.out
            simp [bv, List.getD, List.getElem?_eq_getElem (show 4 * n + m < l.length by omega)]
          have f1 := HB3.out.frozen n
          have HX := kept hx
          have HBB := kept hb
          have hx32 := wi_lo x
          have hb256 := byte_lt b
          clear hx hb
          go_wp2
          go_region
          go_wp2
          go_roundw
          case rel => exact ⟨m + 1, by omega, by go_num, kept (HE2.out.drew.set (by omega) _ _), kept (put_word HB3.out.drew_ (by rw [pw_num x b]; omega) (by have e := F2_set l n m; rw [HX.out, HBB.out] at e; exact e))⟩
          case measure => simp [intOf]; omega
        · obtain rfl : m = 4 := by omega
          have HB4 := kept (show Blk W2 (w.heap.size + 1 + 1 + 1 + 1) 79 (wA (F1 l (n + 1))) by rw [← F2_four]; exact HB3.out)
          clear HB3
          go_wp2
          go_roundw
          case rel => exact ⟨n + 1, by omega, by go_num, HE2, HB4⟩
          case measure => simp [intOf]; omega
    · obtain rfl : n = 16 := by omega
      have HB2 := kept (show Blk W1 (w.heap.size + 1 + 1 + 1 + 1) 79 (wA (F3 l 16)) by rw [← F3_start]; exact HB1.out)
      clear HB1
      go_wp2
      go_loopw [10] (fun i wr => ∃ k : Nat, k ≤ 48 ∧ i = .int .i64 ((k + 16 : Nat) : Int) ∧ Kept (Env w s l ks wr) ∧ Kept (Blk wr (w.heap.size + 1 + 1 + 1 + 1) 79 (wA (F3 l (k + 16))))) (fun i _ => 64 - (intOf i).toNat)
      case atStart => exact ⟨0, Nat.zero_le _, rfl, HE1, HB2⟩
      case round =>
        obtain ⟨k, hk, rfl, HE3, HB3⟩ := hrel
        rename World => W3
        clear HE1 HB2
        by_cases hlk : k < 48
        · obtain ⟨x0, hx0⟩ : ∃ x, SW l k = x := ⟨_, rfl⟩
          obtain ⟨x1, hx1⟩ : ∃ x, SW l (k + 1) = x := ⟨_, rfl⟩
          obtain ⟨x9, hx9⟩ : ∃ x, SW l (k + 9) = x := ⟨_, rfl⟩
          obtain ⟨x14, hx14⟩ : ∃ x, SW l (k + 14) = x := ⟨_, rfl⟩
          have hnew := kept (show SW l (k + 16) = x0 + sg0 x1 + x9 + sg1 x14 by rw [SW_high l k hlk, hx0, hx1, hx9, hx14])
          have c0 : W3.cell? ⟨w.heap.size + 1 + 1 + 1 + 1, k, none⟩ = some (.int .u32 (wi x0)) := by rw [HB3.out.cell, wA_at _ (by omega), F3_at l _ _ (by omega), hx0]
          have c1 : W3.cell? ⟨w.heap.size + 1 + 1 + 1 + 1, k + 1, none⟩ = some (.int .u32 (wi x1)) := by rw [HB3.out.cell, wA_at _ (by omega), F3_at l _ _ (by omega), hx1]
          have c9 : W3.cell? ⟨w.heap.size + 1 + 1 + 1 + 1, k + 9, none⟩ = some (.int .u32 (wi x9)) := by rw [HB3.out.cell, wA_at _ (by omega), F3_at l _ _ (by omega), hx9]
          have c14 : W3.cell? ⟨w.heap.size + 1 + 1 + 1 + 1, k + 14, none⟩ = some (.int .u32 (wi x14)) := by rw [HB3.out.cell, wA_at _ (by omega), F3_at l _ _ (by omega), hx14]
          have c16 : W3.cell? ⟨w.heap.size + 1 + 1 + 1 + 1, k + 16, none⟩ = some (.int .u32 (wi (F3 l (k + 16) (k + 16)))) := by rw [HB3.out.cell, wA_at _ (by omega)]
          have f16 := HB3.out.frozen (k + 16)
          have l0 := wi_lo x0
          have l1 := wi_lo x1
          have l9 := wi_lo x9
          have l14 := wi_lo x14
          clear hx0 hx1 hx9 hx14
          go_wp2
          have e0 : IntKind.i64.wrap (k : Int) = k := IntWalk.i64_in _ (by omega)
          have e9 : IntKind.i64.wrap ((k : Int) + 16 - 7) = (k : Int) + 9 := (IntWalk.i64_in _ (by omega)).trans (by omega)
          have t9 : ((k : Int) + 9).toNat = k + 9 := by omega
          have t16 : ((k : Int) + 16).toNat = k + 16 := by omega
          have p9 : (k : Int) + 9 < 64 := by omega
          have p0 : (k : Int) < 64 := by omega
          have o9 : 0 ≤ (k : Int) + 9 := by omega
          have o16 : 0 ≤ (k : Int) + 16 := by omega
          refine wp_region_still_tail 29 (by kernel_rfl) (by kernel_rfl) ?_
          simp only [List.take_succ_cons, List.take_zero, List.drop_succ_cons, List.drop_zero]
          iterate 6 still_step
          still_call (rrot_still x1 7 7 W3.drew (by omega) rfl)
          still_step
          still_call (rrot_still x1 18 18 W3.drew (by omega) rfl)
          iterate 11 still_step
          still_call (rrot_still x14 17 17 W3.drew (by omega) rfl)
          still_step
          still_call (rrot_still x14 19 19 W3.drew (by omega) rfl)
          iterate 6 still_step
          refine wpStill_nil ?_
          change wpList _ _ _ _ _ W3.drew
          have d16 : W3.drew.cell? ⟨w.heap.size + 1 + 1 + 1 + 1, k + 16, none⟩ = some (.int .u32 (wi (F3 l (k + 16) (k + 16)))) := c16
          have g16 : W3.drew.frozen? ⟨w.heap.size + 1 + 1 + 1 + 1, k + 16, none⟩ = false := f16
          clear e0 e9 t9 p9 p0 o9
          go_wp2
          go_roundw
          case rel =>
            iterate 44 apply Exists.intro
            refine And.intro ?_ rfl
            exact ⟨k + 1, by omega, by first | go_num | (congr 1; omega), kept (HE3.out.drew.set (by omega) _ _), kept (put_word (x := SW l (k + 16)) HB3.out.drew_ (by rw [hnew.out, b_shr3, b_shr10, b_xor, b_xor, b_xor, b_xor]; exact b_add4 x0 (sg0 x1) x9 (sg1 x14)) (by rw [F3_set, show k + 16 + 1 = k + 1 + 16 by omega]))⟩
          case measure => simp [intOf]; omega
        · obtain rfl : k = 48 := by omega
          have HB4 := kept (show Blk W3 (w.heap.size + 1 + 1 + 1 + 1) 79 (wA (SW l)) by rw [← F3_all]; exact HB3.out)
          clear HB3
          have b0 := HE3.out.b0
          have z0 := b0.cell 0
          have z1 := b0.cell 1
          have z2 := b0.cell 2
          have z3 := b0.cell 3
          have z4 := b0.cell 4
          have z5 := b0.cell 5
          have z6 := b0.cell 6
          have z7 := b0.cell 7
          simp only [stA, wv, List.getElem?_toArray, List.getElem?_cons_zero, List.getElem?_cons_succ] at z0 z1 z2 z3 z4 z5 z6 z7
          clear b0
          go_wp2
          have HE4 := kept (HE3.out.alloc (.cells (stA s) 77))
          have HW4 := kept (HB4.out.alloc (.cells (stA s) 77))
          have HV4 := kept (Blk.new W3 77 (stA s))
          have hg5 : w.heap.size + 4 < W3.heap.size := by have := HB4.out.lt; omega
          clear z0 z1 z2 z3 z4 z5 z6 z7 HE3 HB4
          generalize W3.heap.size = g5 at hg5 HV4
          go_loopw [14] (fun i wr => ∃ n : Nat, n ≤ 64 ∧ i = .int .i64 (n : Int) ∧ Kept (Env w s l ks wr) ∧ Kept (Blk wr (w.heap.size + 1 + 1 + 1 + 1) 79 (wA (SW l))) ∧ Kept (Blk wr g5 77 (stA (rounds ks (sched (words l) 48) s n)))) (fun i _ => 64 - (intOf i).toNat)
          case atStart => exact ⟨0, Nat.zero_le _, rfl, HE4, HW4, HV4⟩
          case round =>
            obtain ⟨n, hn, rfl, HE5, HW5, HV5⟩ := hrel
            rename World => W5
            clear HE4 HW4 HV4
            by_cases hln : n < 64
            · obtain ⟨q, hq⟩ : ∃ q, rounds ks (sched (words l) 48) s n = q := ⟨_, rfl⟩
              obtain ⟨kk, hkk⟩ : ∃ q, ks.getD n 0 = q := ⟨_, rfl⟩
              obtain ⟨ww, hww⟩ : ∃ q, SW l n = q := ⟨_, rfl⟩
              have HN := kept (show rounds ks (sched (words l) 48) s (n + 1) = step kk ww q by rw [rounds, hkk, hq]; exact congrArg (fun x => step kk x q) hww)
              rw [hq] at HV5
              have z0 := HV5.out.cell 0
              have z1 := HV5.out.cell 1
              have z2 := HV5.out.cell 2
              have z3 := HV5.out.cell 3
              have z4 := HV5.out.cell 4
              have z5 := HV5.out.cell 5
              have z6 := HV5.out.cell 6
              have z7 := HV5.out.cell 7
              simp only [stA, wv, List.getElem?_toArray, List.getElem?_cons_zero, List.getElem?_cons_succ] at z0 z1 z2 z3 z4 z5 z6 z7
              have zk : W5.cell? ⟨w.heap.size + 1 + 1, n, none⟩ = some (.int .u32 (wi kk)) := by
                rw [HE5.out.b2.cell, ← hkk]
                have h64 := HK.out
                simp [wv, List.getD, List.getElem?_eq_getElem (show n < ks.length by omega)]
              have zw : W5.cell? ⟨w.heap.size + 1 + 1 + 1 + 1, n, none⟩ = some (.int .u32 (wi ww)) := by rw [HW5.out.cell, wA_at _ (by omega), hww]
              clear hq hkk hww
              go_wp2
              go_quiet ((go_at_call 57; exact quiet_eq (rrot_i _ _ _ (by decide) (by decide))))
              go_wp2
              go_name_world W6 hW6
              have e6 := kept hW6.symm
              have y0 : W6.cell? ⟨g5, 0, none⟩ = some (.int .u32 (wi q.a)) := by rw [← hW6]; exact z0
              have y1 : W6.cell? ⟨g5, 1, none⟩ = some (.int .u32 (wi q.b)) := by rw [← hW6]; exact z1
              have y2 : W6.cell? ⟨g5, 2, none⟩ = some (.int .u32 (wi q.c)) := by rw [← hW6]; exact z2
              clear hW6 z0 z1 z2 z3 z4 z5 z6 z7 zk zw
              go_quiet ((go_at_call 57; exact quiet_eq (rrot_i _ _ _ (by decide) (by decide))))
              go_wp2
              go_name_slot 15 tv htv
              have hT : tv = wi (stepT kk ww q) := by
                rw [← htv]
                simp only [b_not, b_xor, b_and]
                exact b_add5 q.h (Sg1 q.e) (chW q.e q.f q.g) kk ww
              clear htv
              subst hT
              go_name_slot 16 uv huv
              have hU : uv = wi (stepU q) := by
                rw [← huv]
                simp only [b_xor, b_and]
                exact b_add (Sg0 q.a) (majW q.a q.b q.c)
              clear huv
              subst hU
              go_name_world W7 hW7
              have BV := kept (show Blk W7 g5 77 (stA q) by rw [← hW7, e6.out]; exact HV5.out)
              have BE := kept (show Env w s l ks W7 by rw [← hW7, e6.out]; exact (HE5.out.drewN _).drewN _)
              have BW := kept (show Blk W7 (w.heap.size + 1 + 1 + 1 + 1) 79 (wA (SW l)) by rw [← hW7, e6.out]; exact HW5.out)
              clear hW7 y0 y1 y2 e6 HV5 HE5 HW5
              have z0 := BV.out.cell 0
              have z1 := BV.out.cell 1
              have z2 := BV.out.cell 2
              have z3 := BV.out.cell 3
              have z4 := BV.out.cell 4
              have z5 := BV.out.cell 5
              have z6 := BV.out.cell 6
              have z7 := BV.out.cell 7
              simp only [stA, wv, List.getElem?_toArray, List.getElem?_cons_zero, List.getElem?_cons_succ] at z0 z1 z2 z3 z4 z5 z6 z7
              have fr := BV.out.frozen
              refine wp_loop_rounds 8 ?_
              iterate 8 (rw [rounds_succ]; go_wp2)
              go_roundw
              case rel =>
                repeat apply Exists.intro
                refine And.intro ?_ rfl
                have key : Blk (((((((((W7.setCell ⟨g5, 7, none⟩ (.int .u32 (wi q.g))).setCell ⟨g5, 6, none⟩ (.int .u32 (wi q.f))).setCell ⟨g5, 5, none⟩ (.int .u32 (wi q.e))).setCell ⟨g5, 4, none⟩ (.int .u32 (wi q.d))).setCell ⟨g5, 3, none⟩ (.int .u32 (wi q.c))).setCell ⟨g5, 2, none⟩ (.int .u32 (wi q.b))).setCell ⟨g5, 1, none⟩ (.int .u32 (wi q.a))).setCell ⟨g5, 4, none⟩ (.int .u32 ((wi q.d + wi (stepT kk ww q)) % 4294967296))).setCell ⟨g5, 0, none⟩ (.int .u32 ((wi (stepT kk ww q) + wi (stepU q)) % 4294967296))) g5 77 (stA (step kk ww q)) := by
                  rw [b_add, b_add]
                  exact BV.out.shifted (q.d + stepT kk ww q) (stepT kk ww q + stepU q)
                exact ⟨n + 1, by omega, by go_num, kept (((((((((BE.out.set (by omega) _ _).set (by omega) _ _).set (by omega) _ _).set (by omega) _ _).set (by omega) _ _).set (by omega) _ _).set (by omega) _ _).set (by omega) _ _).set (by omega) _ _),
                  kept (((((((((BW.out.far (by show _ ≠ g5; omega) _).far (by show _ ≠ g5; omega) _).far (by show _ ≠ g5; omega) _).far (by show _ ≠ g5; omega) _).far (by show _ ≠ g5; omega) _).far (by show _ ≠ g5; omega) _).far (by show _ ≠ g5; omega) _).far (by show _ ≠ g5; omega) _).far (by show _ ≠ g5; omega) _), kept (by rw [HN.out]; exact key)⟩
              case measure => simp [intOf]; omega
            · obtain rfl : n = 64 := by omega
              obtain ⟨q, hq⟩ : ∃ q, rounds ks (sched (words l) 48) s 64 = q := ⟨_, rfl⟩
              have HR := kept (show blockS ks s l = addS q s by unfold blockS; rw [hq])
              rw [hq] at HV5
              have HQ := kept (show Blk W5 g5 77 (v8 (sumF q s 0)) by rw [sumF_start]; exact HV5.out)
              clear hq HV5
              go_wp2
              go_loopw [18] (fun i wr => ∃ m : Nat, m ≤ 8 ∧ i = .int .i64 m ∧ Kept (Env w s l ks wr) ∧ Kept (Blk wr g5 77 (v8 (sumF q s m)))) (fun i _ => 8 - (intOf i).toNat)
              case atStart => exact ⟨0, Nat.zero_le _, rfl, HE5, HQ⟩
              case round =>
                obtain ⟨m, hm, rfl, HE6, HQ6⟩ := hrel
                rename World => W6
                clear HE5 HQ HW5
                by_cases hlm : m < 8
                · obtain ⟨x, hx⟩ : ∃ x, stF q m = x := ⟨_, rfl⟩
                  obtain ⟨y, hy⟩ : ∃ y, stF s m = y := ⟨_, rfl⟩
                  have z0 : W6.cell? ⟨g5, m, none⟩ = some (.int .u32 (wi x)) := by rw [HQ6.out.cell, v8_at _ hlm, sumF_at, hx]
                  have y0 : W6.cell? ⟨w.heap.size, m, none⟩ = some (.int .u32 (wi y)) := by rw [HE6.out.b0.cell, v8_st, v8_at _ hlm, hy]
                  have f0 := HQ6.out.frozen m
                  have HX := kept hx
                  have HY := kept hy
                  clear hx hy
                  go_wp2
                  go_region
                  go_wp2
                  go_roundw
                  case rel => exact ⟨m + 1, by omega, by go_num, kept (HE6.out.drew.set (by omega) _ _), kept (put_word8 HQ6.out.drew_ (b_add x y) (by have e := sumF_set q s m; rw [HX.out, HY.out] at e; exact e))⟩
                  case measure => simp [intOf]; omega
                · obtain rfl : m = 8 := by omega
                  have BQ : Blk W6 g5 77 (stA (addS q s)) := by rw [← sumF_end]; exact HQ6.out
                  obtain ⟨r, hr⟩ : ∃ r, addS q s = r := ⟨_, rfl⟩
                  have HRR := kept (HR.out.trans hr)
                  rw [hr] at BQ
                  have HQ7 := kept BQ
                  have z0 := BQ.cell 0
                  have z1 := BQ.cell 1
                  have z2 := BQ.cell 2
                  have z3 := BQ.cell 3
                  have z4 := BQ.cell 4
                  have z5 := BQ.cell 5
                  have z6 := BQ.cell 6
                  have z7 := BQ.cell 7
                  simp only [stA, wv, List.getElem?_toArray, List.getElem?_cons_zero, List.getElem?_cons_succ] at z0 z1 z2 z3 z4 z5 z6 z7
                  have y0 := HE6.out.b3.cell 0
                  have y1 := HE6.out.b3.cell 1
                  have y2 := HE6.out.b3.cell 2
                  have y3 := HE6.out.b3.cell 3
                  have y4 := HE6.out.b3.cell 4
                  have y5 := HE6.out.b3.cell 5
                  have y6 := HE6.out.b3.cell 6
                  have y7 := HE6.out.b3.cell 7
                  rw [show (Array.replicate 8 (Value.int .u32 0)) = #[.int .u32 0, .int .u32 0, .int .u32 0, .int .u32 0, .int .u32 0, .int .u32 0, .int .u32 0, .int .u32 0] from rfl] at y0 y1 y2 y3 y4 y5 y6 y7
                  simp only [List.getElem?_toArray, List.getElem?_cons_zero, List.getElem?_cons_succ] at y0 y1 y2 y3 y4 y5 y6 y7
                  have fr := HE6.out.b3.frozen
                  clear hr BQ
                  go_wp2
                  exact bodyPost_ret (v := .agg (stA r)) (by simp [results, Tryd.results47, go_sem, stA, wv, y0, y1, y2, y3, y4, y5, y6, y7]) rfl ⟨by rw [HRR.out], (((((((HE6.out.bel.setCell (by show _ ≤ w.heap.size + 1 + 1 + 1; omega) _).setCell (by show _ ≤ w.heap.size + 1 + 1 + 1; omega) _).setCell (by show _ ≤ w.heap.size + 1 + 1 + 1; omega) _).setCell (by show _ ≤ w.heap.size + 1 + 1 + 1; omega) _).setCell (by show _ ≤ w.heap.size + 1 + 1 + 1; omega) _).setCell (by show _ ≤ w.heap.size + 1 + 1 + 1; omega) _).setCell (by show _ ≤ w.heap.size + 1 + 1 + 1; omega) _).setCell (by show _ ≤ w.heap.size + 1 + 1 + 1; omega) _⟩
end Go.Proofs.YtcjbplgjjhenkaaDoor
/-
  The reference's Start, by a contract.
-/
namespace Go.Proofs.YtcjbplgjjhenkaaDoor
open Go.RowKit
set_option linter.unusedVariables false

set_option maxHeartbeats 1000000 in
set_option maxRecDepth 100000 in
theorem rstart_any (w : World) : Calls Tryd.prog 45 #[] w fun e w' => e = .returned (.agg (stA startS)) ∧ Below w.heap.size w w' := by
  go_enter Tryd.func45, Tryd.ntmps45
  go_wp2
  exact bodyPost_ret (v := .agg (stA startS)) (by simp [results, Tryd.results45, go_sem]; rfl) rfl ⟨rfl, (Below.refl _ _).alloc (Nat.le_refl _) _⟩
end Go.Proofs.YtcjbplgjjhenkaaDoor
/-
  Contracts of package sha: rot.
-/
namespace Go.Proofs.YtcjbplgjjhenkaaDoor
open Go.RowKit
set_option linter.unusedVariables false

theorem and31 (n m : Nat) (h0 : 0 < n) (h : n + m = 32) : bits .and .u64 (IntKind.u64.wrap (-(n : Int))) 31 = (m : Int) := by
  have : ∀ k : Nat, k < 32 → 0 < k → bits .and .u64 (IntKind.u64.wrap (-(k : Int))) 31 = ((32 - k : Nat) : Int) := by decide +kernel
  by_cases hm : n = 32
  · obtain rfl : m = 0 := by omega
    subst hm
    decide +kernel
  · rw [this n (by omega) h0]
    congr 1
    omega
theorem rotr_flip (n m : Nat) (x : Wd) (h : n + m = 32) : bits .or .u32 (wi x * (2 ^ m : Nat) % 4294967296) (wi x / (2 ^ n : Nat)) = wi (rotr n x) := by
  rw [b_shr, b_shl, b_or]
  unfold rotr
  rw [BitVec.or_comm, show 32 - n = m by omega]
theorem rotl_any (x : Wd) (n : Nat) (w : World) (h0 : 0 < n) (hn : n < 32) : Calls Tryd.prog 76 #[.int .u32 (wi x), .int .i64 (-(n : Int))] w fun e w' => e = .returned (.int .u32 (wi (rotr n x))) ∧ w = w' := by
  have hx := wi_lo x
  have hx' := wi_hi x
  obtain ⟨m, hm⟩ : ∃ m, n + m = 32 := ⟨32 - n, by omega⟩
  have ha := and31 n m h0 hm
  have HR := kept (rotr_flip n m x hm)
  have hm0 : ¬ (32 < m) := by omega
  have hm1 : m < 32 := by omega
  have hm2 : (32 : Int) - (m : Int) = (n : Int) := by omega
  clear hm
  go_enter Tryd.func76, Tryd.ntmps76
  go_wp2
  go_ret
  refine ⟨ret_i ?_, rfl⟩
  have e := HR.out
  rw [Int.natCast_pow, Int.natCast_pow] at e
  exact e
theorem srot_any (x : Wd) (n : Nat) (w : World) (h0 : 0 < n) (hn : n < 32) : Calls Tryd.prog 68 #[.int .u32 (wi x), .int .i64 (n : Int)] w fun e w' => e = .returned (.int .u32 (wi (rotr n x))) ∧ w = w' := by
  have hr := fun w => rotl_any x n w h0 hn
  have HR := kept hr
  clear hr
  go_enter Tryd.func68, Tryd.ntmps68
  go_wp2_with (go_at_call 76; refine (HR.out _).mono ?_; rintro e w' ⟨rfl, rfl⟩)
  go_ret
  exact ⟨rfl, rfl⟩
theorem srot_i (x : Wd) (z : Int) (w : World) (h0 : 0 < z) (h1 : z < 32) : Calls Tryd.prog 68 #[.int .u32 (wi x), .int .i64 z] w fun e w' => e = .returned (.int .u32 (wi (rotr z.toNat x))) ∧ w = w' := by
  obtain ⟨n, rfl⟩ := Int.eq_ofNat_of_zero_le (show 0 ≤ z by omega)
  exact srot_any x n w (by omega) (by omega)

set_option maxHeartbeats 1000000 in
set_option maxRecDepth 100000 in
theorem sstart_any (w : World) : Calls Tryd.prog 50 #[] w fun e w' => e = .returned (.agg (stA startS)) ∧ Below w.heap.size w w' := by
  go_enter Tryd.func50, Tryd.ntmps50
  go_wp2
  exact bodyPost_ret (v := .agg (stA startS)) (by simp [results, Tryd.results50, go_sem]; rfl) rfl ⟨rfl, (Below.refl _ _).alloc (Nat.le_refl _) _⟩

/-- The constants, in memory: the variable of package sha. -/
def kF (j : Nat) : Wd := kList.getD j 0
theorem kList_len : kList.length = 64 := rfl
theorem kF_map : (List.range 64).map kF = kList := by rfl
theorem kA_eq : (kList.map wv).toArray = wA kF := by
  unfold wA
  rw [← kF_map, List.map_map]
  rfl
def KAt (w : World) : Prop := ∃ t fr, w.heap[0]? = some (.cells (wA kF) t fr)
theorem KAt.lt {w : World} (h : KAt w) : 0 < w.heap.size := by
  obtain ⟨t, fr, h⟩ := h
  rcases Nat.lt_or_ge 0 w.heap.size with hlt | hge
  · exact hlt
  · rw [Array.getElem?_eq_none hge] at h; cases h
theorem KAt.keep {w w' : World} (h : KAt w) (hb : w'.heap[0]? = w.heap[0]?) : KAt w' := by
  obtain ⟨t, fr, h⟩ := h
  exact ⟨t, fr, hb.trans h⟩
theorem KAt.below {w w' : World} {B : Nat} (h : KAt w) (hb : Below B w w') (hB : w.heap.size ≤ B) : KAt w' := h.keep (hb.block _ (Nat.lt_of_lt_of_le h.lt hB))
theorem KAt.below0 {w w' : World} (h : KAt w) (hb : Below w.heap.size w w') : KAt w' := h.below hb (Nat.le_refl _)
theorem KAt.alloc {w : World} (h : KAt w) (o : Obj) : KAt (w.alloc o) := h.keep (Below.heap_alloc w o _ h.lt)
theorem KAt.drew {w : World} (h : KAt w) : KAt w.drew := h
theorem KAt.drewN {w : World} (h : KAt w) (n : Nat) : KAt (w.drewN n) := h
theorem KAt.cell {w : World} (h : KAt w) {k : Nat} (hk : k < 64) : w.cell? ⟨0, k, none⟩ = some (.int .u32 (wi (kF k))) := by
  obtain ⟨t, fr, h⟩ := h
  rw [cell_of_row w _ k (wA kF) t fr h]
  exact wA_at kF hk
end Go.Proofs.YtcjbplgjjhenkaaDoor
namespace Go.Proofs.YtcjbplgjjhenkaaDoor
open Go.RowKit
set_option linter.unusedVariables false

/-- How many zero bytes; the byte i; all of them. -/
def padZ (n : Nat) : Nat := (119 - n % 64) % 64
def padJ (n j i : Nat) : UInt8 := if i = 0 then 128 else if i < 9 + padZ n - j then 0 else UInt8.ofNat (8 * n / 256 ^ (8 + padZ n - i) % 256)
def padB (n i : Nat) : UInt8 := padJ n 8 i
def padL (n : Nat) : List UInt8 := (List.range (9 + padZ n)).map (padB n)
theorem padL_len (n : Nat) : (padL n).length = 9 + padZ n := by simp [padL]
theorem padZ_lt (n : Nat) : padZ n < 64 := by unfold padZ; omega
theorem padZ_u64 (n : Nat) (h : n < 18446744073709551616) : IntKind.i64.wrap ((IntKind.u64.wrap (55 - (n : Int))).tmod 64) = (padZ n : Int) := by
  rw [IntKind.wrap_u64, Int.tmod_eq_emod_of_nonneg (by omega)]
  have : (55 - (n : Int)) % 18446744073709551616 % 64 = (padZ n : Int) := by unfold padZ; omega
  rw [this]
  have := padZ_lt n
  exact IntWalk.i64_in _ (by omega)
theorem pow8i (x j : Nat) : ((x : Int) / 2 ^ (8 * j)) = ((x / 256 ^ j : Nat) : Int) := by
  rw [← pow8, Int.natCast_ediv, Int.natCast_pow]
  rfl
set_option maxHeartbeats 1000000 in
theorem spad_any (w : World) (n : Nat) (hn : n ≤ 1152921504606846975) : Calls Tryd.prog 52 #[.int .i64 n] w fun e w' => ∃ v, e = .returned v ∧ Own w' w.heap.size v (padL n) ∧ Below w.heap.size w w' := by
  obtain ⟨z, hz⟩ : ∃ z, padZ n = z := ⟨_, rfl⟩
  have hz64 := padZ_lt n
  have hu := padZ_u64 n (by omega)
  rw [hz] at hu hz64
  have hw : IntKind.u64.wrap (n : Int) = (n : Int) := by rw [IntKind.wrap_u64]; omega
  have hw8 : IntKind.u64.wrap (8 * (n : Int)) = 8 * (n : Int) := by rw [IntKind.wrap_u64]; omega
  have hmk := run_make_row' (P := Tryd.prog) 24 5 (.int .u8 0) 1 Tryd.underlying24 u8_info rfl .i64 .i64 (1 + z + 8) (by omega) (by omega)
  have ec : ((1 + z + 8 : Nat) : Int) = 1 + (z : Int) + 8 := by omega
  rw [ec, madeCells_gA] at hmk
  clear ec
  have HZ := kept hz
  clear hz
  have hc0 : ((w.alloc (.cells (gA (1 + z + 8) fun _ => .int .u8 0) 5)).cell? ⟨w.heap.size, 0, none⟩) = some (.int .u8 0) := by
    rw [(Blk.new w _ _).cell]
    exact gA_at _ _ (by omega)
  go_enter Tryd.func52, Tryd.ntmps52
  go_wp2
  go_name_world W0 hW0
  have hB : Blk W0 w.heap.size 5 (gA (1 + z + 8) fun i => bv (padJ n 0 i)) := by
    rw [← hW0, gA_set]
    have e : gA (1 + z + 8) (fun j => if j = 0 then Value.int .u8 128 else .int .u8 0) = gA (1 + z + 8) fun i => bv (padJ n 0 i) := gA_ext fun j hj => by
      unfold padJ bv
      rw [HZ.out]
      by_cases h0 : j = 0
      · rw [if_pos h0, if_pos h0]; rfl
      · rw [if_neg h0, if_neg h0, if_pos (by omega)]; rfl
    rw [e]
    exact Blk.new _ _ _
  have hbw : Below w.heap.size w W0 := by rw [← hW0]; exact (Below.refl _ _).alloc (Nat.le_refl _) _
  have HB := kept hB
  clear hB hW0 hmk hc0 hu
  obtain ⟨T, hT⟩ : ∃ T, 1 + z + 8 = T := ⟨_, rfl⟩
  rw [hT] at HB
  rw [hT]
  go_loopw [17] (fun i wr => ∃ j : Nat, j ≤ 8 ∧ i = .int .i64 j ∧ Kept (Blk wr w.heap.size 5 (gA T fun i => bv (padJ n j i))) ∧ Below w.heap.size w wr) (fun i _ => 8 - (intOf i).toNat)
  case atStart => exact ⟨0, Nat.zero_le _, rfl, HB, hbw⟩
  case round =>
    obtain ⟨j, hj, rfl, HB1, hbw1⟩ := hrel
    rename World => W1
    clear HB hbw
    by_cases hlt : j < 8
    · have hc : W1.cell? ⟨w.heap.size, T - 1 - j, none⟩ = some (bv (padJ n j (T - 1 - j))) := by rw [HB1.out.cell, gA_at _ _ (by omega)]
      rw [bv_def] at hc
      have hf := HB1.out.frozen (T - 1 - j)
      have hdig := digit j (8 * n)
      have HD := kept hdig
      clear hdig
      go_wp2
      go_roundw
      case rel =>
        refine ⟨j + 1, by omega, by go_num, kept (HB1.out.putG _ _ fun i hi => ?_), hbw1.setCell (p := ⟨w.heap.size, T - 1 - j, none⟩) (Nat.le_refl _) _⟩
        have e : Value.int .u8 (8 * (n : Int) / 2 ^ (8 * j) % 256) = bv (UInt8.ofNat (8 * n / 256 ^ j % 256)) := by
          have := HD.out
          rw [bv_def, ← this, Int.natCast_mul]
          rfl
        rw [e]
        unfold padJ
        rw [HZ.out]
        by_cases e1 : i = T - 1 - j
        · rw [if_pos e1, if_neg (by omega), if_neg (by omega), show 8 + z - i = j by omega]
        · rw [if_neg e1]
          by_cases e0 : i = 0
          · rw [if_pos e0, if_pos e0]
          · rw [if_neg e0, if_neg e0]
            by_cases e2 : i < 9 + z - j
            · rw [if_pos e2, if_pos (by omega)]
            · rw [if_neg e2, if_neg (by omega)]
      case measure => simp [intOf]; omega
    · obtain rfl : j = 8 := by omega
      go_wp2
      go_ret
      have hl : (padL n).length = T := by rw [padL_len, HZ.out]; omega
      have hb : Blk W1 w.heap.size 5 ((padL n).map bv).toArray := by
        unfold padL
        rw [gA_map, HZ.out, show 9 + z = T by omega]
        exact HB1.out
      have := own_of_blk (B := w.heap.size) hb (Nat.le_refl _) (by omega)
      rw [hl] at this
      exact ⟨_, rfl, this, hbw1⟩

def lenV : Value → Nat
  | .slice _ n _ => n
  | _ => 0
theorem range_succ_map {α : Type} (f : Nat → α) (j : Nat) : (List.range (j + 1)).map f = (List.range j).map f ++ [f j] := by
  rw [List.range_succ, List.map_append, List.map_singleton]
set_option maxHeartbeats 1000000 in
theorem rpad_any (w : World) (n : Nat) (hn : n ≤ 1152921504606846975) : Calls Tryd.prog 44 #[.int .i64 n] w fun e w' => ∃ v, e = .returned v ∧ Own w' w.heap.size v (padL n) ∧ Below w.heap.size w w' := by
  obtain ⟨i0, hi0, hz0, hs0, hbb0⟩ := info_parts u8_info
  obtain ⟨z, hz⟩ : ∃ z, padZ n = z := ⟨_, rfl⟩
  have hz64 := padZ_lt n
  have hmod : (n + 9 + z) % 64 = 0 := by rw [← hz]; unfold padZ; omega
  rw [hz] at hz64
  have HZ := kept hz
  have HM := kept hmod
  clear hz hmod
  have hw : IntKind.u64.wrap (n : Int) = (n : Int) := by rw [IntKind.wrap_u64]; omega
  have hw8 : IntKind.u64.wrap ((n : Int) * 8) = (n : Int) * 8 := by rw [IntKind.wrap_u64]; omega
  go_enter Tryd.func44, Tryd.ntmps44
  go_wp2_with fail
  have hst : Own (w.alloc (.cells #[.int .u8 128] 5)) w.heap.size (.slice (some ⟨w.heap.size, 0, none⟩) 1 1) ((List.range (1 + 0)).map (padB n)) :=
    own_of_blk (l := [128]) (show Blk _ _ _ _ from Blk.new _ _ _) (Nat.le_refl _) (by simp)
  have hbw : Below w.heap.size w (w.alloc (.cells #[.int .u8 128] 5)) := (Below.refl _ _).alloc (Nat.le_refl _) _
  have HS := kept hst
  clear hst
  go_loopw [3] (fun v wr => ∃ j : Nat, j ≤ z ∧ Kept (Own wr w.heap.size v ((List.range (1 + j)).map (padB n))) ∧ Below w.heap.size w wr) (fun v _ => 1 + z - lenV v)
  case atStart => exact ⟨0, Nat.zero_le _, HS, hbw⟩
  case round =>
    obtain ⟨j, hj, HO, hbw1⟩ := hrel
    rename World => W1
    clear HS hbw
    obtain ⟨A, q, c, rfl, hc, hcm, hm, _⟩ := HO.out.form
    have hlen : ((List.range (1 + j)).map (padB n)).length = 1 + j := by simp
    have hsnoc : (List.range (1 + j + 1)).map (padB n) = (List.range (1 + j)).map (padB n) ++ [padB n (1 + j)] := range_succ_map _ _
    generalize hgen : (List.range (1 + j)).map (padB n) = bs at *
    have HG := kept hgen
    clear hgen
    rw [hlen] at HO hc
    rw [hlen]
    have HSN := kept hsnoc
    have HL := kept hlen
    clear hsnoc hlen hm
    have hbl : Blk (W1.alloc (.cells #[.int .u8 0] 5)) W1.heap.size 5 ([(0 : UInt8)].map bv).toArray := Blk.new _ _ _
    have hm2 : Mem (W1.alloc (.cells #[.int .u8 0] 5)) W1.heap.size (some ⟨W1.heap.size, 0, none⟩) [0] := mem_lit rfl
    by_cases hlt : j < z
    · have ht : (((n : Int) + (1 + (j : Int)) + 8) % 64 != 0) = true := by
        have := HM.out
        rw [bne_iff_ne]
        omega
      have hpad : padB n (1 + j) = 0 := by unfold padB padJ; rw [HZ.out, if_neg (by omega), if_pos (by omega)]
      have HP := kept hpad
      have hown := HO.out.alloc (.cells #[.int .u8 0] 5)
      have hbx := hbw1.alloc hbw1.size (.cells #[.int .u8 0] 5)
      clear hpad hbl
      go_wp2_with (first | (at_builtin; refine wpList_append_bytes rfl _ _ 24 rfl w.heap.size i0 Tryd.underlying24 hi0 hz0 hs0 hbb0 (.slice A (1 + j) c) bs rfl hown W1.heap.size _ 1 1 [0] rfl rfl hm2 (by rw [HL.out]; simp; omega) (by have := hbx.size; exact this) ?_; intro v1 w2 hown1 hg1))
      have hbw2 : Below w.heap.size w w2 := hbx.grown hg1 hbx.size (fun k hk => (World.ownsRow.lt hown k hk).1)
      obtain ⟨A1, q1, c1, rfl, hc1, hcm1, hm1, _⟩ := hown1.form
      have hl1 : (bs ++ [0]).length = 1 + j + 1 := by rw [List.length_append, HL.out]; rfl
      have HO1 := kept hown1
      clear hown hown1 hm1 hc1
      rw [hl1] at HO1
      rw [hl1]
      clear hl1
      go_wp2
      go_roundw
      case rel => exact ⟨j + 1, by omega, kept (by rw [show 1 + (j + 1) = 1 + j + 1 by omega, HSN.out, HP.out]; exact HO1.out), hbw2⟩
      case measure => simp [lenV]; omega
    · obtain rfl : j = z := by omega
      have ht : (((n : Int) + (1 + (j : Int)) + 8) % 64 != 0) = false := by
        have := HM.out
        rw [bne_eq_false_iff_eq]
        omega
      clear hbl hm2
      go_wp2_with fail
      have HO0 := kept (show Own W1 w.heap.size (.slice A (1 + j) c) ((List.range (1 + j + (8 - 8))).map (padB n)) by rw [show 1 + j + (8 - 8) = 1 + j by omega, HG.out]; exact HO.out)
      go_loopw [3, 5] (fun v i wr => ∃ k : Nat, k ≤ 8 ∧ i = .int .i64 ((k : Int) - 1) ∧ Kept (Own wr w.heap.size v ((List.range (1 + j + (8 - k))).map (padB n))) ∧ Below w.heap.size w wr) (fun _ i _ => (intOf i + 1).toNat)
      case atStart => exact ⟨8, by omega, by go_num, HO0, hbw1⟩
      case round =>
        obtain ⟨k, hk, rfl, HO2, hbw2⟩ := hrel
        rename World => W2
        clear HO0 HO hbw1
        rcases k with _ | k
        · have e : (List.range (1 + j + (8 - 0))).map (padB n) = padL n := by unfold padL; rw [HZ.out, show 1 + j + (8 - 0) = 9 + j by omega]
          go_wp2
          go_ret
          exact ⟨_, rfl, by rw [← e]; exact HO2.out, hbw2⟩
        · obtain ⟨A2, q2, c2, rfl, hc2, hcm2, hm2', _⟩ := HO2.out.form
          have ek : (((k + 1 : Nat) : Int) - 1) = (k : Int) := by omega
          obtain ⟨m, hm⟩ : ∃ m, 1 + j + (8 - (k + 1)) = m := ⟨_, rfl⟩
          have hm72 : m < 80 := by omega
          have hmk : 1 + j + (8 - k) = m + 1 := by omega
          have hlen : ((List.range (1 + j + (8 - (k + 1)))).map (padB n)).length = 1 + j + (8 - (k + 1)) := by simp
          have hsnoc : (List.range (1 + j + (8 - k))).map (padB n) = (List.range (1 + j + (8 - (k + 1)))).map (padB n) ++ [UInt8.ofNat (n * 8 / 256 ^ k % 256)] := by
            rw [show 1 + j + (8 - k) = 1 + j + (8 - (k + 1)) + 1 by omega, range_succ_map]
            refine congrArg (fun x => (List.range (1 + j + (8 - (k + 1)))).map (padB n) ++ [x]) ?_
            unfold padB padJ
            rw [HZ.out, if_neg (by omega), if_neg (by omega), show 8 + j - (1 + j + (8 - (k + 1))) = k by omega, Nat.mul_comm 8 n]
          generalize (List.range (1 + j + (8 - (k + 1)))).map (padB n) = bs2 at *
          rw [hlen, hm] at HO2 hc2
          rw [hlen, hm, ek]
          rw [hm] at hlen
          have HMK := kept hmk
          clear hm hmk
          have HSN2 := kept hsnoc
          have HL2 := kept hlen
          have hdig := digit k (n * 8)
          rw [Int.natCast_mul] at hdig
          change ((n : Int) * 8) / 2 ^ (8 * k) % 256 = _ at hdig
          clear hsnoc hlen hm2' ek
          obtain ⟨D, hD⟩ : ∃ D, UInt8.ofNat (n * 8 / 256 ^ k % 256) = D := ⟨_, rfl⟩
          rw [hD] at hdig HSN2
          have hbl : Blk (W2.alloc (.cells #[.int .u8 (D.toNat : Int)] 5)) W2.heap.size 5 ([D].map bv).toArray := Blk.new _ _ _
          have hm2 : Mem (W2.alloc (.cells #[.int .u8 (D.toNat : Int)] 5)) W2.heap.size (some ⟨W2.heap.size, 0, none⟩) [D] := mem_lit rfl
          have hown := HO2.out.alloc (.cells #[.int .u8 (D.toNat : Int)] 5)
          have hbx := hbw2.alloc hbw2.size (.cells #[.int .u8 (D.toNat : Int)] 5)
          clear hbl hD
          go_wp2_with (first | (at_builtin; refine wpList_append_bytes rfl _ _ 24 rfl w.heap.size i0 Tryd.underlying24 hi0 hz0 hs0 hbb0 (.slice A2 m c2) bs2 rfl hown W2.heap.size _ 1 1 [D] rfl rfl hm2 (by rw [HL2.out]; simp; omega) (by have := hbx.size; exact this) ?_; intro v1 w2 hown1 hg1))
          have hbw3 : Below w.heap.size w w2 := hbx.grown hg1 hbx.size (fun k hk => (World.ownsRow.lt hown k hk).1)
          go_wp2
          go_roundw
          case rel => exact ⟨k, by omega, by go_num, kept (by rw [HSN2.out]; exact hown1), hbw3⟩
          case measure => simp [intOf]
end Go.Proofs.YtcjbplgjjhenkaaDoor
