/-
  After a read of more bytes than there are, nothing is left and every read fails; a nil reader is bad: the law WireFails returns true for every input, and leaves its arguments as they were. No condition.
-/
import Derived.Test.YtocllhenifgkhaaLists
namespace Go.Proofs.Ytocllhenifgkhaa.wireFails
open Go.ChangeShapes Go.WideShapes Go.ChangeAt Go.RowKit
set_option linter.unusedVariables false

theorem bad_take (k : Int) : rTake (true, []) k = ((true, []), []) := by simp [rTake]
theorem bad_num (k : Int) : rNum (true, []) k = ((true, []), 0) := by
  unfold rNum
  rw [bad_take]
  split <;> rfl
theorem bad_str (k : Int) : rStr (true, []) k = ((true, []), []) := by
  unfold rStr
  rw [bad_num]
  simp
theorem far_take (l : List UInt8) (k : Int) (h : (l.length : Int) < k) : rTake (false, l) k = ((true, []), []) := by
  unfold rTake
  rw [if_neg]
  rintro ⟨_, _, h3⟩
  simp only at h3
  omega

set_option maxHeartbeats 1000000 in
theorem walk (w : World) (q : Nat) (A : Option Addr) (c : Nat) (l : List UInt8) (n : Int) (qo : Nat) (Ao : Option Addr) (co : Nat) (L : List (Int × Int)) (hn0 : 0 ≤ n) (hn1 : n ≤ 255) (hm : Mem w q A l) (ho : MemOp w qo Ao L) (hl : l.length ≤ 300) (hL : L.length ≤ 50) :
    Calls Try.prog 6 #[.slice A l.length c, .int .u8 n, .slice Ao L.length co] w fun e w' => e = .returned (.bool true) ∧ Below w.heap.size w w' := by
  have HO := Lib.hid ho
  have d1 : decide ((300 : Int) < (l.length : Int)) = false := by simp; omega
  have d2 : decide ((50 : Int) < (L.length : Int)) = false := by simp; omega
  have hp := ptr_not_nil
  clear ho
  go_enter Try.func6, Try.ntmps6
  go_wp2_with fail
  refine (awake_any _).mono ?_
  rintro e w1 ⟨rfl, b1⟩
  replace hm := hm.below0 b1
  go_wp2_with fail
  refine (new_any _ q A _ c l rfl hm (by omega)).mono ?_
  rintro e w2 ⟨g, qr, rfl, r2, hg, _, _, b2⟩
  have hwg : w.heap.size ≤ g := Nat.le_trans b1.size hg
  replace b2 := b1.trans (b2.mono b1.size)
  clear b1 hm hg
  go_wp2_with fail
  refine (take_any _ ((l.length : Int) + 1 + n) r2).mono ?_
  rw [far_take l _ (by omega)]
  rintro e w3 ⟨v3, rfl, o3, r3, g3⟩
  obtain ⟨A3, q3, c3, rfl, _⟩ := o3.form
  have b3 := b2.grown g3 b2.size (fun k hk => by injection hk; omega)
  clear b2 r2 g3 o3
  go_wp2_with fail
  refine (bad_nil _).mono ?_
  rintro e w4 ⟨rfl, rfl⟩
  go_wp2_with fail
  refine (done_nil _).mono ?_
  rintro e w4 ⟨rfl, rfl⟩
  go_wp2_with fail
  refine (left_nil _).mono ?_
  rintro e w4 ⟨rfl, rfl⟩
  go_wp2_with fail
  refine (num_nil _ 1 (by omega) (by omega)).mono ?_
  rintro e w4 ⟨rfl, rfl⟩
  go_wp2_with fail
  refine (take_nil _ 0).mono ?_
  rintro e w4 ⟨v4, rfl, o4, b4⟩
  obtain ⟨A4, q4, c4, rfl, _⟩ := o4.form
  replace r3 := r3.below b4
  replace b4 := b3.trans (b4.mono b3.size)
  clear b3 o4
  go_wp2_with fail
  refine (str_nil _ 1 (by omega) (by omega)).mono ?_
  rintro e w5 ⟨v5, rfl, o5, b5⟩
  obtain ⟨A5, q5, c5, rfl, _⟩ := o5.form
  replace r3 := r3.below b5
  replace b5 := b4.trans (b5.mono b4.size)
  clear b4 o5
  go_wp2_with fail
  go_loopw [9] (fun i wr => ∃ j : Nat, j ≤ L.length ∧ i = .int .i64 j ∧ Rd wr g qr true [] ∧ Below w.heap.size w wr) (fun i _ => L.length - (intOf i).toNat)
  case atStart => exact ⟨0, Nat.zero_le _, rfl, r3, b5⟩
  case round =>
    obtain ⟨j, hj, rfl, hr, hbw⟩ := hrel
    by_cases hlt : j < L.length
    · obtain ⟨o, rfl, h1, h2⟩ := HO.out.at_ hlt
      have hqlt : qo < w.heap.size := World.block_lt_of_cell? w _ h2
      generalize hlj : (L[j]'hlt) = lj at *
      obtain ⟨kd, nn⟩ := lj
      simp only at h1 h2
      have hcell : ∀ W, Below w.heap.size w W → W.cell? ⟨qo, o + j * 2 + 1, none⟩ = some (.int .i64 nn) := fun W hb => (hb.cell (p := ⟨qo, o + j * 2 + 1, none⟩) hqlt).trans h2
      have HC := Lib.hid hcell
      have HLJ := Lib.hid hlj
      have hc := hcell wr hbw
      have hi0 : (0 : Int) ≤ (j : Int) := by omega
      have hi1 : (j : Int) < (L.length : Int) := by omega
      clear hcell hlj h1 h2
      go_wp2_with fail
      refine (left_any _ hr).mono ?_
      rintro e w6 ⟨rfl, rfl⟩
      go_wp2_with fail
      refine (bad_any _ hr).mono ?_
      rintro e w6 ⟨rfl, rfl⟩
      go_wp2_with fail
      refine (done_any _ hr).mono ?_
      rintro e w6 ⟨rfl, rfl⟩
      go_wp2_with fail
      refine (num_any _ nn hr).mono ?_
      rw [bad_num]
      rintro e w6 ⟨rfl, r6, g6⟩
      have b6 := hbw.grown g6 hbw.size (fun k hk => by injection hk; omega)
      clear hr hbw g6 hc
      have hc := HC.out w6 b6
      go_wp2_with fail
      refine (take_any _ nn r6).mono ?_
      rw [bad_take]
      rintro e w7 ⟨v7, rfl, o7, r7, g7⟩
      obtain ⟨A7, q7, c7, rfl, _⟩ := o7.form
      have b7 := b6.grown g7 b6.size (fun k hk => by injection hk; omega)
      clear r6 b6 g7 o7 hc
      have hc := HC.out w7 b7
      go_wp2_with fail
      refine (str_any _ nn r7).mono ?_
      rw [bad_str]
      rintro e w8 ⟨v8, rfl, o8, r8, g8⟩
      obtain ⟨A8, q8, c8, rfl, _⟩ := o8.form
      have b8 := b7.grown g8 b7.size (fun k hk => by injection hk; omega)
      clear r7 b7 g8 o8 hc
      go_wp2
      go_roundw
      case rel => exact ⟨j + 1, by omega, by go_num, r8, b8⟩
      case measure => simp [intOf]; omega
    · go_wp2_with fail
      refine (bad_any _ hr).mono ?_
      rintro e w6 ⟨rfl, rfl⟩
      go_wp2_with fail
      go_ret
      exact ⟨rfl, hbw⟩

theorem walk_out (w : World) (A Ao : Option Addr) (len c lo co : Nat) (n : Int) (h : 300 < len ∨ 50 < lo) :
    Calls Try.prog 6 #[.slice A len c, .int .u8 n, .slice Ao lo co] w fun e w' => e = .returned (.bool true) ∧ Below w.heap.size w w' := by
  by_cases c1 : (300 : Int) < (len : Int)
  · go_enter Try.func6, Try.ntmps6
    go_wp2_with fail
    refine (awake_any _).mono ?_
    rintro e w1 ⟨rfl, b1⟩
    go_wp2_with fail
    refine (awake_any _).mono ?_
    rintro e w2 ⟨rfl, b2⟩
    go_wp2_with fail
    go_ret
    exact ⟨rfl, b1.trans (b2.mono b1.size)⟩
  have d1 : decide ((300 : Int) < (len : Int)) = false := by simpa using c1
  have c2 : (50 : Int) < (lo : Int) := by omega
  clear c1 h
  go_enter Try.func6, Try.ntmps6
  go_wp2_with fail
  refine (awake_any _).mono ?_
  rintro e w1 ⟨rfl, b1⟩
  go_wp2_with fail
  refine (awake_any _).mono ?_
  rintro e w2 ⟨rfl, b2⟩
  go_wp2_with fail
  go_ret
  exact ⟨rfl, b1.trans (b2.mono b1.size)⟩

theorem walk_all (w : World) (q : Nat) (A : Option Addr) (c : Nat) (l : List UInt8) (n : Int) (qo : Nat) (Ao : Option Addr) (co : Nat) (L : List (Int × Int)) (hn : (Lit.int .u8 n).wf = true) (hm : Mem w q A l) (ho : MemOp w qo Ao L) :
    Calls Try.prog 6 #[.slice A l.length c, .int .u8 n, .slice Ao L.length co] w fun e w' => e = .returned (.bool true) ∧ Below w.heap.size w w' := by
  have hb := bounds_u8 hn
  by_cases h : 300 < l.length ∨ 50 < L.length
  · exact walk_out w A Ao _ c _ co n h
  · exact walk w q A c l n qo Ao co L hb.1 hb.2 hm ho (by omega) (by omega)

set_option maxRecDepth 100000 in
theorem lifted (os : Os) (started : os.Started) (H : Type) (enc : TypeId × Value → H) :
    ReturnsInHanded {} Try.checked os 6 .any (Rows.wireFailsSpec.pre6 enc Try.prog Try.f6 Rows.wireFailsRow.domain false) (Rows.wireFailsSpec.post enc Try.prog Try.f6 false true false false) := by
  refine returnsInHanded_of_change (C := Try.checked) own_knob started (by kernel_rfl) Try.func6
    (ChangeSpec.witness6 (enc := enc) (C := Try.checked) false ⟨#[], #[.slice none 0 0, .int .u8 0, .slice none 0 0], []⟩ 8 (by kernel_rfl) (by kernel_rfl) (by kernel_rfl) (by kernel_rfl)) ?_
  intro W base args ds gs before hval0 hW hcnd _
  have hval : ∀ (j : Nat) t v, Try.f6.params[j]? = some t → args[j]? = some v → Value.okWide Try.prog W .any base t v := hval0
  have hW' := hW
  obtain ⟨p, q, hA0, hV, rfl, hfz, hnd⟩ := hW
  have hA : DataW.TrodAll enc Try.prog W 0 (fun _ => true) true Try.f6.params.toList args.toList ds p := hA0
  rw [Try.params6] at hA hval
  obtain ⟨v0, v1, v2, d0, d1, d2, p0, p1, p2, rfl, rfl, rfl, h0, h1, h2⟩ := trodAll_three hA
  obtain ⟨rfl, rfl⟩ := trodVars_none hV
  obtain ⟨A, qq, c, l, rfl, hc, hcm, hm⟩ := open_bytes (hval 0 22 v0 rfl rfl) h0
  obtain ⟨n, rfl, rfl, rfl, w1⟩ := open_int Try.underlying5 (hval 1 5 v1 rfl rfl) h1
  obtain ⟨Ao, qo, co, L, rfl, ho⟩ := open_ops (hval 2 23 v2 rfl rfl) h2
  clear hA0 hval0
  refine (walk_all W qq A c l n qo Ao co L w1 hm ho).mono fun e W' ⟨he, bel⟩ => ?_
  subst he
  exact ⟨_, rfl, _, _, _, [], _, [], hW', trodAll_mk1 (shut_bool Try.underlying4 _), trodAll_mk3 (keep_arg (by kernel_rfl) (of_decide_eq_true (by kernel_rfl)) h0 bel) (shut_int Try.underlying5 w1) (keep_arg (by kernel_rfl) (of_decide_eq_true (by kernel_rfl)) h2 bel), rfl, bel.frame _, fun h => by cases h⟩

theorem over : Rows.wireFailsRow.holds Try.pinned (OpenSpec.ofChange Rows.wireFailsSpec) :=
  OpenClaim.holds_of_wide 6 Try.f6 rfl rfl rfl rfl rfl rfl rfl ⟨rfl, rfl, rfl, rfl, rfl⟩ rfl rfl rfl rfl rfl (by kernel_rfl) Try.func6 (by kernel_rfl)
    (of_decide_eq_true (by kernel_rfl)) (by unfold Func.isWrapper; first | (rw [if_pos (by decide +kernel)]; kernel_rfl) | (rw [if_neg (by decide +kernel)]; exact ⟨rfl, rfl⟩))
    (fun os started H enc _ => lifted os started H enc)

/-- The statement. -/
theorem proved : Rows.WireFailsSaid := over
#print axioms proved
end Go.Proofs.Ytocllhenifgkhaa.wireFails
