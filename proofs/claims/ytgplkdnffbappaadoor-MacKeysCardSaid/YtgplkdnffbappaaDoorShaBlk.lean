/-
  Block of package sha.
-/
import Derived.Test.YtgplkdnffbappaaDoorShaSch
namespace Go.Proofs.YtgplkdnffbappaaDoor
open Go.RowKit
set_option linter.unusedVariables false

theorem s8_size : (Tryd.prog.info? 50).map (·.size) = some 8 := by kernel_rfl
theorem u32_size : (Tryd.prog.info? 49).map (·.size) = some 1 := by kernel_rfl
theorem ix_w64 (f : Nat → Wd) (k : Nat) (hk : k < 64) (w : World) : (Instr.index 52 (.agg (wA f)) (.int .i64 (k : Int))).run Tryd.prog w = .ok (.int .u32 (wi (f k))) w :=
  run_index_agg _ _ 64 Tryd.underlying52 u32_size _ Tryd.underlying49 rfl _ k _ (wA_at f hk) hk w
theorem ix_s8 (s : St) (k : Nat) (hk : k < 8) (w : World) : (Instr.index 50 (.agg (stA s)) (.int .i64 (k : Int))).run Tryd.prog w = .ok (.int .u32 (wi (stF s k))) w :=
  run_index_agg _ _ 8 Tryd.underlying50 u32_size _ Tryd.underlying49 rfl _ k _ (by rw [v8_st]; exact v8_at (stF s) hk) hk w
theorem stA_one (s : St) : (stA s).all (·.oneCell') = true := by simp [stA, wv, Value.oneCell']
theorem addS_comm (s q : St) : addS s q = addS q s := by
  unfold addS
  rw [BitVec.add_comm s.a, BitVec.add_comm s.b, BitVec.add_comm s.c, BitVec.add_comm s.d, BitVec.add_comm s.e, BitVec.add_comm s.f, BitVec.add_comm s.g, BitVec.add_comm s.h]
/-- The blocks of a call of Block: the state, the block, the result's variable. -/
structure Env2 (w : World) (s : St) (wr : World) : Prop where
  bel : Below w.heap.size w wr
  b0 : Blk wr w.heap.size 50 (stA s)
  b2 : Blk wr (w.heap.size + 1 + 1) 50 (Array.replicate 8 (.int .u32 0))
theorem Env2.drewN {w wr : World} {s : St} (h : Env2 w s wr) (n : Nat) : Env2 w s (wr.drewN n) := ⟨below_drewN h.bel n, h.b0, h.b2⟩
theorem Env2.later {w wr wx : World} {s : St} (h : Env2 w s wr) (hb : Below wr.heap.size wr wx) : Env2 w s wx :=
  ⟨h.bel.trans (hb.mono h.bel.size), h.b0.below hb h.b0.lt, h.b2.below hb h.b2.lt⟩
theorem t_form (q : St) (kk ww : Wd) : (wi q.h + bits BinOp.xor IntKind.u32 (bits BinOp.xor IntKind.u32 (wi (rotr 6 q.e)) (wi (rotr 11 q.e))) (wi (rotr 25 q.e)) +
      bits BinOp.xor IntKind.u32 (bits BinOp.and IntKind.u32 (wi q.e) (wi q.f)) (bits BinOp.and IntKind.u32 (bits BinOp.xor IntKind.u32 (if IntKind.u32.signed = true then -1 else IntKind.u32.max) (wi q.e)) (wi q.g)) + wi kk + wi ww) % 4294967296 = wi (stepT kk ww q) := by
  have e : (if IntKind.u32.signed = true then (-1 : Int) else IntKind.u32.max) = IntKind.u32.max := rfl
  rw [e]
  simp only [b_not, b_xor, b_and]
  exact b_add5 q.h (Sg1 q.e) (chW q.e q.f q.g) kk ww
theorem u_form (q : St) : (bits BinOp.xor IntKind.u32 (bits BinOp.xor IntKind.u32 (wi (rotr 2 q.a)) (wi (rotr 13 q.a))) (wi (rotr 22 q.a)) +
      bits BinOp.xor IntKind.u32 (bits BinOp.xor IntKind.u32 (bits BinOp.and IntKind.u32 (wi q.a) (wi q.b)) (bits BinOp.and IntKind.u32 (wi q.a) (wi q.c))) (bits BinOp.and IntKind.u32 (wi q.b) (wi q.c))) % 4294967296 = wi (stepU q) := by
  simp only [b_xor, b_and]
  exact b_add (Sg0 q.a) (majW q.a q.b q.c)
theorem val_i {k : IntKind} {a b : Int} (h : a = b) : Value.int k a = .int k b := by rw [h]
set_option maxHeartbeats 8000000 in
set_option maxRecDepth 100000 in
theorem sblock_any (w : World) (s : St) (l : List UInt8) (hl : l.length = 64) (hk : KAt w) :
    Calls Tryd.prog 36 #[.agg (stA s), .agg (l.map bv).toArray] w fun e w' => e = .returned (.agg (stA (blockS kList s l))) ∧ Below w.heap.size w w' := by
  have HSC := kept (fun w => sched_any w l hl)
  have HL := kept hl
  have HK := kept hk
  clear hl hk
  go_enter Tryd.func36, Tryd.ntmps36
  go_wp2
  go_name_world W0 hW0
  have HE : Env2 w s W0 := by
    rw [← hW0]
    refine ⟨(((Below.refl _ _).alloc (Nat.le_refl _) _).alloc (by simp) _).alloc (by simp; omega) _, ((Blk.new w _ _).alloc _).alloc _, ?_⟩
    have n2 := Blk.new ((w.alloc (.cells (stA s) 50)).alloc (.cells (l.map bv).toArray 44)) 50 (Array.replicate 8 (.int .u32 0))
    simp only [World.size_alloc] at n2
    exact n2
  have HB : Blk W0 (w.heap.size + 1) 44 (l.map bv).toArray := by
    rw [← hW0]
    have n2 := (Blk.new (w.alloc (.cells (stA s) 50)) 44 (l.map bv).toArray).alloc (.cells (Array.replicate 8 (.int .u32 0)) 50)
    simp only [World.size_alloc] at n2
    exact n2
  have HE0 := kept HE
  have HB0 := kept HB
  have b0 := HE.b0
  clear HE HB hW0
  have z0 := b0.cell 0
  have z1 := b0.cell 1
  have z2 := b0.cell 2
  have z3 := b0.cell 3
  have z4 := b0.cell 4
  have z5 := b0.cell 5
  have z6 := b0.cell 6
  have z7 := b0.cell 7
  simp only [stA, wv, List.getElem?_toArray, List.getElem?_cons_zero, List.getElem?_cons_succ] at z0 z1 z2 z3 z4 z5 z6 z7
  clear b0
  go_quiet (fail)
  go_wp2
  go_quiet (fail)
  clear z0 z1 z2 z3 z4 z5 z6 z7
  go_wp2_with (first | (refine wpList_load_row rfl 44 _ rfl (w.heap.size + 1) rfl 44 (l.map bv).toArray (0,0) _ ?hg Tryd.underlying44 rfl ?hi ?_) | (go_at_call 37; refine (HSC.out _).mono ?_; rintro e W2 ⟨rfl, hb2⟩))
  case hg => exact HB0.out
  case hi =>
    rw [b64_size]
    simp [HL.out]
  have HE2 := kept ((HE0.out.drewN _).later hb2)
  have HK2 := kept (HK.out.below0 HE2.out.bel)
  clear HE0 HB0 hb2
  go_loopw [5, 6, 7, 8, 9, 10, 11, 12, 37] (fun va vb vc vd ve vf vg vh i wr => ∃ (n : Nat) (q : St), n ≤ 64 ∧ i = .int .i64 n ∧ Kept (rounds kList (sched (words l) 48) s n = q) ∧ va = .int .u32 (wi q.a) ∧ vb = .int .u32 (wi q.b) ∧ vc = .int .u32 (wi q.c) ∧ vd = .int .u32 (wi q.d) ∧ ve = .int .u32 (wi q.e) ∧ vf = .int .u32 (wi q.f) ∧ vg = .int .u32 (wi q.g) ∧ vh = .int .u32 (wi q.h) ∧ Kept (Env2 w s wr) ∧ Kept (KAt wr)) (fun _ _ _ _ _ _ _ _ i _ => 64 - (intOf i).toNat)
  case atStart => exact ⟨0, s, Nat.zero_le _, rfl, kept rfl, rfl, rfl, rfl, rfl, rfl, rfl, rfl, rfl, HE2, HK2⟩
  case round =>
    obtain ⟨n, q, hn, rfl, HQ, rfl, rfl, rfl, rfl, rfl, rfl, rfl, rfl, HE3, HK3⟩ := hrel
    rename World => W3
    clear HE2 HK2
    by_cases hln : n < 64
    · obtain ⟨kk, hkk⟩ : ∃ q, kF n = q := ⟨_, rfl⟩
      obtain ⟨ww, hww⟩ : ∃ q, SW l n = q := ⟨_, rfl⟩
      have HN := kept (show rounds kList (sched (words l) 48) s (n + 1) = step kk ww q by
        have hk1 : kList.getD n 0 = kk := hkk
        rw [rounds, hk1, HQ.out]
        exact congrArg (fun x => step kk x q) hww)
      have hix := ix_w64 (SW l) n hln
      rw [hww] at hix
      have hc := HK3.out.cell hln
      rw [hkk] at hc
      have p0 : (0 : Int) ≤ (n : Int) := by omega
      have p1 : (n : Int) < 64 := by omega
      clear hkk hww
      go_wp2
      go_quiet ((go_at_call 38; exact quiet_eq (srot_i _ _ _ (by decide) (by decide))))
      go_wp2_with (go_at_call 38; refine (srot_i _ _ _ (by decide) (by decide)).mono ?_; rintro e w' ⟨rfl, rfl⟩)
      go_roundw
      case rel =>
        refine ⟨n + 1, step kk ww q, by omega, by go_num, HN, val_i ?_, rfl, rfl, rfl, val_i ?_, rfl, rfl, rfl, kept (HE3.out.drewN _), kept (HK3.out.drewN _)⟩
        · rw [t_form, u_form, b_add]
          rfl
        · rw [t_form, b_add]
          rfl
      case measure => simp [intOf]; omega
    · obtain rfl : n = 64 := by omega
      have HR := kept (show blockS kList s l = addS q s by unfold blockS; rw [HQ.out])
      clear HQ
      go_wp2
      go_loopw [108] (fun i wr => ∃ m : Nat, m ≤ 8 ∧ i = .int .i64 m ∧ Kept (Below w.heap.size w wr) ∧ Kept (Blk wr w.heap.size 50 (v8 (sumF s q m))) ∧ Kept (Blk wr (w.heap.size + 1 + 1) 50 (Array.replicate 8 (.int .u32 0)))) (fun i _ => 8 - (intOf i).toNat)
      case atStart => exact ⟨0, Nat.zero_le _, rfl, kept HE3.out.bel, kept (by rw [sumF_start]; exact HE3.out.b0), kept HE3.out.b2⟩
      case round =>
        obtain ⟨m, hm, rfl, HE4, HS4, HR4⟩ := hrel
        rename World => W4
        clear HE3 HK3
        by_cases hlm : m < 8
        · obtain ⟨x, hx⟩ : ∃ x, stF s m = x := ⟨_, rfl⟩
          obtain ⟨y, hy⟩ : ∃ y, stF q m = y := ⟨_, rfl⟩
          have z0 : W4.cell? ⟨w.heap.size, m, none⟩ = some (.int .u32 (wi x)) := by rw [HS4.out.cell, v8_at _ hlm, sumF_at, hx]
          have f0 := HS4.out.frozen m
          have hix := ix_s8 q m hlm
          rw [hy] at hix
          simp only [stA, wv] at hix
          have hset := sumF_set s q m
          rw [hx, hy] at hset
          have HSET := kept hset
          clear hx hy hset
          go_wp2
          go_roundw
          case rel => exact ⟨m + 1, by omega, by go_num, kept (HE4.out.setCell (p := ⟨w.heap.size, m, none⟩) (Nat.le_refl _) _), kept (put_word8 HS4.out (b_add x y) HSET.out), kept (HR4.out.far (by show w.heap.size + 1 + 1 ≠ w.heap.size; omega) _)⟩
          case measure => simp [intOf]; omega
        · obtain rfl : m = 8 := by omega
          have HB4 := kept (show Blk W4 w.heap.size 50 (stA (addS q s)) by rw [addS_comm, ← sumF_end]; exact HS4.out)
          clear HS4
          go_wp2_with (first | (refine wpList_load_row rfl 50 _ rfl w.heap.size rfl 50 (stA (addS q s)) (0,0) _ ?hg Tryd.underlying50 rfl ?hi ?_) | (refine wpList_store_row rfl 50 _ _ rfl (w.heap.size + 1 + 1) (stA (addS q s)) rfl rfl 50 (Array.replicate 8 (.int .u32 0)) ?hg2 ?hi2 ?ho ?h1 ?_))
          case hg => exact HB4.out
          case hi => rw [s8_size, stA_size]
          case hg2 => exact HR4.out
          case hi2 => rw [s8_size, stA_size]
          case ho => rfl
          case h1 => exact stA_one _
          exact bodyPost_ret (v := .agg (stA (addS q s))) (results_cell_row Tryd.results36 _ _ (w.heap.size + 1 + 1) 50 (stA (addS q s)) (0, 0) _ rfl (setRow_heap _ _ _ _ _ _ HR4.out) Tryd.underlying50 rfl (by rw [s8_size, stA_size])) rfl ⟨by rw [HR.out], below_setRow HE4.out (by omega) _⟩
end Go.Proofs.YtgplkdnffbappaaDoor
