/-
  The reference's rot and Block, by contracts.
-/
import Derived.Test.YtgplkdnffbappaaDoorShaMem
import Derived.RegionTactic
import Derived.BigRegion
import Derived.Deep.QuietTactic
import Derived.BigQuiet
import Derived.StillTailTactics
import Derived.Lib.ItoaWalk
namespace Go.Proofs.YtgplkdnffbappaaDoor
open Go.RowKit
set_option linter.unusedVariables false

theorem put_word {W : World} {g i : Nat} {t : TypeId} {f f' : Nat → Wd} {x : Wd} {z : Int} (h : Blk W g t (wA f)) (hz : z = wi x) (hf : (wA f).setIfInBounds i (wv x) = wA f') : Blk (W.setCell ⟨g, i, none⟩ (.int .u32 z)) g t (wA f') := by
  subst hz
  rw [← hf]
  exact h.put i _
theorem quiet_eq {P : Program} {f : FuncId} {args : Array Value} {w : World} {n : Nat} {v : Value}
    (h : Calls P f args (w.drewN n) fun e w' => e = .returned v ∧ w.drewN n = w') : Calls P f args (w.drewN n) fun e w'' => e = .returned v ∧ ∃ m, w'' = w.drewN m :=
  h.mono fun _ _ ⟨he, hm⟩ => ⟨he, n, hm.symm⟩
theorem ret_i {k : IntKind} {a b : Int} (h : a = b) : Ending.returned (.int k a) = .returned (.int k b) := by rw [h]
theorem rrot_any (x : Wd) (n : Nat) (w : World) (hn : n < 32) : Calls Tryd.prog 35 #[.int .u32 (wi x), .int .u64 (n : Int)] w fun e w' => e = .returned (.int .u32 (wi (rotr n x))) ∧ w = w' := by
  have hx := wi_lo x
  have hx' := wi_hi x
  go_enter Tryd.func35, Tryd.ntmps35
  go_wp2
  go_ret
  refine ⟨ret_i ?_, rfl⟩
  rw [← b_rotr]
  rw [Int.natCast_pow, Int.natCast_pow]
  rfl
theorem rrot_z (x : Wd) (n : Nat) (z : Int) (w : World) (hn : n < 32) (hz : z = (n : Int)) : Calls Tryd.prog 35 #[.int .u32 (wi x), .int .u64 z] w fun e w' => e = .returned (.int .u32 (wi (rotr n x))) ∧ w = w' := by
  subst hz
  exact rrot_any x n w hn
theorem rrot_i (x : Wd) (z : Int) (w : World) (h0 : 0 ≤ z) (h1 : z < 32) : Calls Tryd.prog 35 #[.int .u32 (wi x), .int .u64 z] w fun e w' => e = .returned (.int .u32 (wi (rotr z.toNat x))) ∧ w = w' := by
  obtain ⟨n, rfl⟩ := Int.eq_ofNat_of_zero_le h0
  exact rrot_any x n w (by omega)
theorem rrot_still (x : Wd) (n : Nat) (z : Int) (w : World) (hn : n < 32) (hz : z = (n : Int)) : Calls Tryd.prog 35 #[.int .u32 (wi x), .int .u64 z] w fun e w' => e = .returned (.int .u32 (wi (rotr n x))) ∧ w' = w := by
  subst hz
  exact (rrot_any x n w hn).mono fun e w' h => ⟨h.1, h.2.symm⟩

set_option maxHeartbeats 16000000 in
set_option maxRecDepth 100000 in
theorem rblock_any (w : World) (s : St) (l : List UInt8) (ks : List Wd) (hl : l.length = 64) (hk : ks.length = 64) :
    Calls Tryd.prog 29 #[.agg (stA s), .agg (l.map bv).toArray, .agg (ks.map wv).toArray] w fun e w' => e = .returned (.agg (stA (blockS ks s l))) ∧ Below w.heap.size w w' := by
  have HL := kept hl
  have HK := kept hk
  clear hl hk
  have mixed : Tryd.prog.follows .mixedOrders = true := by kernel_rfl
  have hs := env_start w s l ks
  have HS := kept hs
  clear hs
  go_enter Tryd.func29, Tryd.ntmps29
  go_wp2
  go_name_world W0 hW0
  have he : Env w s l ks W0 ∧ Blk W0 (w.heap.size + 1 + 1 + 1 + 1) 52 (wA (F1 l 0)) := by rw [← hW0]; exact HS.out _ zeros64
  clear hW0 HS
  have HE := kept he.1
  have HB := kept he.2
  clear he
  go_loopw [8] (fun i wr => ∃ n : Nat, n ≤ 16 ∧ i = .int .i64 n ∧ Kept (Env w s l ks wr) ∧ Kept (Blk wr (w.heap.size + 1 + 1 + 1 + 1) 52 (wA (F1 l n)))) (fun i _ => 16 - (intOf i).toNat)
  case atStart => exact ⟨0, Nat.zero_le _, rfl, HE, HB⟩
  case round =>
    obtain ⟨n, hn, rfl, HE1, HB1⟩ := hrel
    rename World => W1
    clear HE HB
    by_cases hlt : n < 16
    · have HB2 := kept (show Blk W1 (w.heap.size + 1 + 1 + 1 + 1) 52 (wA (F2 l n 0)) by rw [F2_zero]; exact HB1.out)
      clear HB1
      go_wp2
      go_loopw [9] (fun k wr => ∃ m : Nat, m ≤ 4 ∧ k = .int .i64 m ∧ Kept (Env w s l ks wr) ∧ Kept (Blk wr (w.heap.size + 1 + 1 + 1 + 1) 52 (wA (F2 l n m)))) (fun k _ => 4 - (intOf k).toNat)
      case atStart => exact ⟨0, Nat.zero_le _, rfl, HE1, HB2⟩
      case round =>
        obtain ⟨m, hm, rfl, HE2, HB3⟩ := hrel
        rename World => W2
        by_cases hlm : m < 4
        · obtain ⟨x, hx⟩ : ∃ x, pw l n m = x := ⟨_, rfl⟩
          obtain ⟨b, hb⟩ : ∃ b, l.getD (4 * n + m) 0 = b := ⟨_, rfl⟩
          have c1 : W2.cell? ⟨w.heap.size + 1 + 1 + 1 + 1, n, none⟩ = some (.int .u32 (wi x)) := by
            rw [HB3.out.cell, wA_at _ (by omega), F2_self, hx]
          have c2 : W2.cell? ⟨w.heap.size + 1, 4 * n + m, none⟩ = some (.int .u8 (b.toNat : Int)) := by
            rw [HE2.out.b1.cell, ← hb]
            have h64 := HL.out
            simp [bv, List.getD, List.getElem?_eq_getElem (show 4 * n + m < l.length by omega)]
          have f1 := HB3.out.frozen n
          have HX := kept hx
          have HBB := kept hb
          have hx32 := wi_lo x
          have hb256 := byte_lt b
          clear hx hb
          go_wp2
          go_region
          go_wp2
          go_roundw
          case rel => exact ⟨m + 1, by omega, by go_num, kept (HE2.out.drew.set (by omega) _ _), kept (put_word HB3.out.drew_ (by rw [pw_num x b]; omega) (by have e := F2_set l n m; rw [HX.out, HBB.out] at e; exact e))⟩
          case measure => simp [intOf]; omega
        · obtain rfl : m = 4 := by omega
          have HB4 := kept (show Blk W2 (w.heap.size + 1 + 1 + 1 + 1) 52 (wA (F1 l (n + 1))) by rw [← F2_four]; exact HB3.out)
          clear HB3
          go_wp2
          go_roundw
          case rel => exact ⟨n + 1, by omega, by go_num, HE2, HB4⟩
          case measure => simp [intOf]; omega
    · obtain rfl : n = 16 := by omega
      have HB2 := kept (show Blk W1 (w.heap.size + 1 + 1 + 1 + 1) 52 (wA (F3 l 16)) by rw [← F3_start]; exact HB1.out)
      clear HB1
      go_wp2
      go_loopw [10] (fun i wr => ∃ k : Nat, k ≤ 48 ∧ i = .int .i64 ((k + 16 : Nat) : Int) ∧ Kept (Env w s l ks wr) ∧ Kept (Blk wr (w.heap.size + 1 + 1 + 1 + 1) 52 (wA (F3 l (k + 16))))) (fun i _ => 64 - (intOf i).toNat)
      case atStart => exact ⟨0, Nat.zero_le _, rfl, HE1, HB2⟩
      case round =>
        obtain ⟨k, hk, rfl, HE3, HB3⟩ := hrel
        rename World => W3
        clear HE1 HB2
        by_cases hlk : k < 48
        · obtain ⟨x0, hx0⟩ : ∃ x, SW l k = x := ⟨_, rfl⟩
          obtain ⟨x1, hx1⟩ : ∃ x, SW l (k + 1) = x := ⟨_, rfl⟩
          obtain ⟨x9, hx9⟩ : ∃ x, SW l (k + 9) = x := ⟨_, rfl⟩
          obtain ⟨x14, hx14⟩ : ∃ x, SW l (k + 14) = x := ⟨_, rfl⟩
          have hnew := kept (show SW l (k + 16) = x0 + sg0 x1 + x9 + sg1 x14 by rw [SW_high l k hlk, hx0, hx1, hx9, hx14])
          have c0 : W3.cell? ⟨w.heap.size + 1 + 1 + 1 + 1, k, none⟩ = some (.int .u32 (wi x0)) := by rw [HB3.out.cell, wA_at _ (by omega), F3_at l _ _ (by omega), hx0]
          have c1 : W3.cell? ⟨w.heap.size + 1 + 1 + 1 + 1, k + 1, none⟩ = some (.int .u32 (wi x1)) := by rw [HB3.out.cell, wA_at _ (by omega), F3_at l _ _ (by omega), hx1]
          have c9 : W3.cell? ⟨w.heap.size + 1 + 1 + 1 + 1, k + 9, none⟩ = some (.int .u32 (wi x9)) := by rw [HB3.out.cell, wA_at _ (by omega), F3_at l _ _ (by omega), hx9]
          have c14 : W3.cell? ⟨w.heap.size + 1 + 1 + 1 + 1, k + 14, none⟩ = some (.int .u32 (wi x14)) := by rw [HB3.out.cell, wA_at _ (by omega), F3_at l _ _ (by omega), hx14]
          have c16 : W3.cell? ⟨w.heap.size + 1 + 1 + 1 + 1, k + 16, none⟩ = some (.int .u32 (wi (F3 l (k + 16) (k + 16)))) := by rw [HB3.out.cell, wA_at _ (by omega)]
          have f16 := HB3.out.frozen (k + 16)
          have l0 := wi_lo x0
          have l1 := wi_lo x1
          have l9 := wi_lo x9
          have l14 := wi_lo x14
          clear hx0 hx1 hx9 hx14
          go_wp2
          have e0 : IntKind.i64.wrap (k : Int) = k := IntWalk.i64_in _ (by omega)
          have e9 : IntKind.i64.wrap ((k : Int) + 16 - 7) = (k : Int) + 9 := (IntWalk.i64_in _ (by omega)).trans (by omega)
          have t9 : ((k : Int) + 9).toNat = k + 9 := by omega
          have t16 : ((k : Int) + 16).toNat = k + 16 := by omega
          have p9 : (k : Int) + 9 < 64 := by omega
          have p0 : (k : Int) < 64 := by omega
          have o9 : 0 ≤ (k : Int) + 9 := by omega
          have o16 : 0 ≤ (k : Int) + 16 := by omega
          refine wp_region_still_tail 29 (by kernel_rfl) (by kernel_rfl) ?_
          simp only [List.take_succ_cons, List.take_zero, List.drop_succ_cons, List.drop_zero]
          iterate 6 still_step
          still_call (rrot_still x1 7 7 W3.drew (by omega) rfl)
          still_step
          still_call (rrot_still x1 18 18 W3.drew (by omega) rfl)
          iterate 11 still_step
          still_call (rrot_still x14 17 17 W3.drew (by omega) rfl)
          still_step
          still_call (rrot_still x14 19 19 W3.drew (by omega) rfl)
          iterate 6 still_step
          refine wpStill_nil ?_
          change wpList _ _ _ _ _ W3.drew
          have d16 : W3.drew.cell? ⟨w.heap.size + 1 + 1 + 1 + 1, k + 16, none⟩ = some (.int .u32 (wi (F3 l (k + 16) (k + 16)))) := c16
          have g16 : W3.drew.frozen? ⟨w.heap.size + 1 + 1 + 1 + 1, k + 16, none⟩ = false := f16
          clear e0 e9 t9 p9 p0 o9
          go_wp2
          go_roundw
          case rel =>
            iterate 44 apply Exists.intro
            refine And.intro ?_ rfl
            exact ⟨k + 1, by omega, by first | go_num | (congr 1; omega), kept (HE3.out.drew.set (by omega) _ _), kept (put_word (x := SW l (k + 16)) HB3.out.drew_ (by rw [hnew.out, b_shr3, b_shr10, b_xor, b_xor, b_xor, b_xor]; exact b_add4 x0 (sg0 x1) x9 (sg1 x14)) (by rw [F3_set, show k + 16 + 1 = k + 1 + 16 by omega]))⟩
          case measure => simp [intOf]; omega
        · obtain rfl : k = 48 := by omega
          have HB4 := kept (show Blk W3 (w.heap.size + 1 + 1 + 1 + 1) 52 (wA (SW l)) by rw [← F3_all]; exact HB3.out)
          clear HB3
          have b0 := HE3.out.b0
          have z0 := b0.cell 0
          have z1 := b0.cell 1
          have z2 := b0.cell 2
          have z3 := b0.cell 3
          have z4 := b0.cell 4
          have z5 := b0.cell 5
          have z6 := b0.cell 6
          have z7 := b0.cell 7
          simp only [stA, wv, List.getElem?_toArray, List.getElem?_cons_zero, List.getElem?_cons_succ] at z0 z1 z2 z3 z4 z5 z6 z7
          clear b0
          go_wp2
          have HE4 := kept (HE3.out.alloc (.cells (stA s) 50))
          have HW4 := kept (HB4.out.alloc (.cells (stA s) 50))
          have HV4 := kept (Blk.new W3 50 (stA s))
          have hg5 : w.heap.size + 4 < W3.heap.size := by have := HB4.out.lt; omega
          clear z0 z1 z2 z3 z4 z5 z6 z7 HE3 HB4
          generalize W3.heap.size = g5 at hg5 HV4
          go_loopw [14] (fun i wr => ∃ n : Nat, n ≤ 64 ∧ i = .int .i64 (n : Int) ∧ Kept (Env w s l ks wr) ∧ Kept (Blk wr (w.heap.size + 1 + 1 + 1 + 1) 52 (wA (SW l))) ∧ Kept (Blk wr g5 50 (stA (rounds ks (sched (words l) 48) s n)))) (fun i _ => 64 - (intOf i).toNat)
          case atStart => exact ⟨0, Nat.zero_le _, rfl, HE4, HW4, HV4⟩
          case round =>
            obtain ⟨n, hn, rfl, HE5, HW5, HV5⟩ := hrel
            rename World => W5
            clear HE4 HW4 HV4
            by_cases hln : n < 64
            · obtain ⟨q, hq⟩ : ∃ q, rounds ks (sched (words l) 48) s n = q := ⟨_, rfl⟩
              obtain ⟨kk, hkk⟩ : ∃ q, ks.getD n 0 = q := ⟨_, rfl⟩
              obtain ⟨ww, hww⟩ : ∃ q, SW l n = q := ⟨_, rfl⟩
              have HN := kept (show rounds ks (sched (words l) 48) s (n + 1) = step kk ww q by rw [rounds, hkk, hq]; exact congrArg (fun x => step kk x q) hww)
              rw [hq] at HV5
              have z0 := HV5.out.cell 0
              have z1 := HV5.out.cell 1
              have z2 := HV5.out.cell 2
              have z3 := HV5.out.cell 3
              have z4 := HV5.out.cell 4
              have z5 := HV5.out.cell 5
              have z6 := HV5.out.cell 6
              have z7 := HV5.out.cell 7
              simp only [stA, wv, List.getElem?_toArray, List.getElem?_cons_zero, List.getElem?_cons_succ] at z0 z1 z2 z3 z4 z5 z6 z7
              have zk : W5.cell? ⟨w.heap.size + 1 + 1, n, none⟩ = some (.int .u32 (wi kk)) := by
                rw [HE5.out.b2.cell, ← hkk]
                have h64 := HK.out
                simp [wv, List.getD, List.getElem?_eq_getElem (show n < ks.length by omega)]
              have zw : W5.cell? ⟨w.heap.size + 1 + 1 + 1 + 1, n, none⟩ = some (.int .u32 (wi ww)) := by rw [HW5.out.cell, wA_at _ (by omega), hww]
              clear hq hkk hww
              go_wp2
              go_quiet ((go_at_call 35; exact quiet_eq (rrot_i _ _ _ (by decide) (by decide))))
              go_wp2
              go_name_world W6 hW6
              have e6 := kept hW6.symm
              have y0 : W6.cell? ⟨g5, 0, none⟩ = some (.int .u32 (wi q.a)) := by rw [← hW6]; exact z0
              have y1 : W6.cell? ⟨g5, 1, none⟩ = some (.int .u32 (wi q.b)) := by rw [← hW6]; exact z1
              have y2 : W6.cell? ⟨g5, 2, none⟩ = some (.int .u32 (wi q.c)) := by rw [← hW6]; exact z2
              clear hW6 z0 z1 z2 z3 z4 z5 z6 z7 zk zw
              go_quiet ((go_at_call 35; exact quiet_eq (rrot_i _ _ _ (by decide) (by decide))))
              go_wp2
              go_name_slot 15 tv htv
              have hT : tv = wi (stepT kk ww q) := by
                rw [← htv]
                simp only [b_not, b_xor, b_and]
                exact b_add5 q.h (Sg1 q.e) (chW q.e q.f q.g) kk ww
              clear htv
              subst hT
              go_name_slot 16 uv huv
              have hU : uv = wi (stepU q) := by
                rw [← huv]
                simp only [b_xor, b_and]
                exact b_add (Sg0 q.a) (majW q.a q.b q.c)
              clear huv
              subst hU
              go_name_world W7 hW7
              have BV := kept (show Blk W7 g5 50 (stA q) by rw [← hW7, e6.out]; exact HV5.out)
              have BE := kept (show Env w s l ks W7 by rw [← hW7, e6.out]; exact (HE5.out.drewN _).drewN _)
              have BW := kept (show Blk W7 (w.heap.size + 1 + 1 + 1 + 1) 52 (wA (SW l)) by rw [← hW7, e6.out]; exact HW5.out)
              clear hW7 y0 y1 y2 e6 HV5 HE5 HW5
              have z0 := BV.out.cell 0
              have z1 := BV.out.cell 1
              have z2 := BV.out.cell 2
              have z3 := BV.out.cell 3
              have z4 := BV.out.cell 4
              have z5 := BV.out.cell 5
              have z6 := BV.out.cell 6
              have z7 := BV.out.cell 7
              simp only [stA, wv, List.getElem?_toArray, List.getElem?_cons_zero, List.getElem?_cons_succ] at z0 z1 z2 z3 z4 z5 z6 z7
              have fr := BV.out.frozen
              refine wp_loop_rounds 8 ?_
              iterate 8 (rw [rounds_succ]; go_wp2)
              go_roundw
              case rel =>
                repeat apply Exists.intro
                refine And.intro ?_ rfl
                have key : Blk (((((((((W7.setCell ⟨g5, 7, none⟩ (.int .u32 (wi q.g))).setCell ⟨g5, 6, none⟩ (.int .u32 (wi q.f))).setCell ⟨g5, 5, none⟩ (.int .u32 (wi q.e))).setCell ⟨g5, 4, none⟩ (.int .u32 (wi q.d))).setCell ⟨g5, 3, none⟩ (.int .u32 (wi q.c))).setCell ⟨g5, 2, none⟩ (.int .u32 (wi q.b))).setCell ⟨g5, 1, none⟩ (.int .u32 (wi q.a))).setCell ⟨g5, 4, none⟩ (.int .u32 ((wi q.d + wi (stepT kk ww q)) % 4294967296))).setCell ⟨g5, 0, none⟩ (.int .u32 ((wi (stepT kk ww q) + wi (stepU q)) % 4294967296))) g5 50 (stA (step kk ww q)) := by
                  rw [b_add, b_add]
                  exact BV.out.shifted (q.d + stepT kk ww q) (stepT kk ww q + stepU q)
                exact ⟨n + 1, by omega, by go_num, kept (((((((((BE.out.set (by omega) _ _).set (by omega) _ _).set (by omega) _ _).set (by omega) _ _).set (by omega) _ _).set (by omega) _ _).set (by omega) _ _).set (by omega) _ _).set (by omega) _ _),
                  kept (((((((((BW.out.far (by show _ ≠ g5; omega) _).far (by show _ ≠ g5; omega) _).far (by show _ ≠ g5; omega) _).far (by show _ ≠ g5; omega) _).far (by show _ ≠ g5; omega) _).far (by show _ ≠ g5; omega) _).far (by show _ ≠ g5; omega) _).far (by show _ ≠ g5; omega) _).far (by show _ ≠ g5; omega) _), kept (by rw [HN.out]; exact key)⟩
              case measure => simp [intOf]; omega
            · obtain rfl : n = 64 := by omega
              obtain ⟨q, hq⟩ : ∃ q, rounds ks (sched (words l) 48) s 64 = q := ⟨_, rfl⟩
              have HR := kept (show blockS ks s l = addS q s by unfold blockS; rw [hq])
              rw [hq] at HV5
              have HQ := kept (show Blk W5 g5 50 (v8 (sumF q s 0)) by rw [sumF_start]; exact HV5.out)
              clear hq HV5
              go_wp2
              go_loopw [18] (fun i wr => ∃ m : Nat, m ≤ 8 ∧ i = .int .i64 m ∧ Kept (Env w s l ks wr) ∧ Kept (Blk wr g5 50 (v8 (sumF q s m)))) (fun i _ => 8 - (intOf i).toNat)
              case atStart => exact ⟨0, Nat.zero_le _, rfl, HE5, HQ⟩
              case round =>
                obtain ⟨m, hm, rfl, HE6, HQ6⟩ := hrel
                rename World => W6
                clear HE5 HQ HW5
                by_cases hlm : m < 8
                · obtain ⟨x, hx⟩ : ∃ x, stF q m = x := ⟨_, rfl⟩
                  obtain ⟨y, hy⟩ : ∃ y, stF s m = y := ⟨_, rfl⟩
                  have z0 : W6.cell? ⟨g5, m, none⟩ = some (.int .u32 (wi x)) := by rw [HQ6.out.cell, v8_at _ hlm, sumF_at, hx]
                  have y0 : W6.cell? ⟨w.heap.size, m, none⟩ = some (.int .u32 (wi y)) := by rw [HE6.out.b0.cell, v8_st, v8_at _ hlm, hy]
                  have f0 := HQ6.out.frozen m
                  have HX := kept hx
                  have HY := kept hy
                  clear hx hy
                  go_wp2
                  go_region
                  go_wp2
                  go_roundw
                  case rel => exact ⟨m + 1, by omega, by go_num, kept (HE6.out.drew.set (by omega) _ _), kept (put_word8 HQ6.out.drew_ (b_add x y) (by have e := sumF_set q s m; rw [HX.out, HY.out] at e; exact e))⟩
                  case measure => simp [intOf]; omega
                · obtain rfl : m = 8 := by omega
                  have BQ : Blk W6 g5 50 (stA (addS q s)) := by rw [← sumF_end]; exact HQ6.out
                  obtain ⟨r, hr⟩ : ∃ r, addS q s = r := ⟨_, rfl⟩
                  have HRR := kept (HR.out.trans hr)
                  rw [hr] at BQ
                  have HQ7 := kept BQ
                  have z0 := BQ.cell 0
                  have z1 := BQ.cell 1
                  have z2 := BQ.cell 2
                  have z3 := BQ.cell 3
                  have z4 := BQ.cell 4
                  have z5 := BQ.cell 5
                  have z6 := BQ.cell 6
                  have z7 := BQ.cell 7
                  simp only [stA, wv, List.getElem?_toArray, List.getElem?_cons_zero, List.getElem?_cons_succ] at z0 z1 z2 z3 z4 z5 z6 z7
                  have y0 := HE6.out.b3.cell 0
                  have y1 := HE6.out.b3.cell 1
                  have y2 := HE6.out.b3.cell 2
                  have y3 := HE6.out.b3.cell 3
                  have y4 := HE6.out.b3.cell 4
                  have y5 := HE6.out.b3.cell 5
                  have y6 := HE6.out.b3.cell 6
                  have y7 := HE6.out.b3.cell 7
                  rw [show (Array.replicate 8 (Value.int .u32 0)) = #[.int .u32 0, .int .u32 0, .int .u32 0, .int .u32 0, .int .u32 0, .int .u32 0, .int .u32 0, .int .u32 0] from rfl] at y0 y1 y2 y3 y4 y5 y6 y7
                  simp only [List.getElem?_toArray, List.getElem?_cons_zero, List.getElem?_cons_succ] at y0 y1 y2 y3 y4 y5 y6 y7
                  have fr := HE6.out.b3.frozen
                  clear hr BQ
                  go_wp2
                  exact bodyPost_ret (v := .agg (stA r)) (by simp [results, Tryd.results29, go_sem, stA, wv, y0, y1, y2, y3, y4, y5, y6, y7]) rfl ⟨by rw [HRR.out], (((((((HE6.out.bel.setCell (by show _ ≤ w.heap.size + 1 + 1 + 1; omega) _).setCell (by show _ ≤ w.heap.size + 1 + 1 + 1; omega) _).setCell (by show _ ≤ w.heap.size + 1 + 1 + 1; omega) _).setCell (by show _ ≤ w.heap.size + 1 + 1 + 1; omega) _).setCell (by show _ ≤ w.heap.size + 1 + 1 + 1; omega) _).setCell (by show _ ≤ w.heap.size + 1 + 1 + 1; omega) _).setCell (by show _ ≤ w.heap.size + 1 + 1 + 1; omega) _).setCell (by show _ ≤ w.heap.size + 1 + 1 + 1; omega) _⟩
end Go.Proofs.YtgplkdnffbappaaDoor
