/-
  Numbers and strings are written as the reference writes them, and read again: the law WirePuts returns true for every input, and leaves its arguments as they were. No condition.
-/
import Derived.Test.YtocllhenifgkhaaLawKit
namespace Go.Proofs.Ytocllhenifgkhaa.wirePuts
open Go.ChangeShapes Go.WideShapes Go.ChangeAt Go.RowKit
set_option linter.unusedVariables false

theorem rPut_true {k : Int} {x : Nat} (h : (rPut k x).2 = true) : 1 ≤ k ∧ k ≤ 8 ∧ x < 256 ^ k.toNat ∧ (rPut k x).1 = beBytes k.toNat x := by
  unfold rPut at *
  split at h
  · rename_i hc
    rw [if_pos hc]
    exact ⟨hc.1, hc.2.1, hc.2.2, rfl⟩
  · cases h
theorem read_num {k : Int} {x : Nat} (h : (rPut k x).2 = true) (t : List UInt8) : rNum (false, (rPut k x).1 ++ t) k = ((false, t), x) := by
  obtain ⟨h1, h2, h3, h4⟩ := rPut_true h
  rw [h4]
  have hl := beBytes_len k.toNat x
  unfold rNum
  rw [if_pos ⟨h1, h2⟩]
  have e : rTake (false, beBytes k.toNat x ++ t) k = ((false, t), beBytes k.toNat x) := by
    unfold rTake
    rw [if_pos ⟨rfl, by omega, by simp only [List.length_append]; omega⟩]
    simp only [Prod.mk.injEq]
    exact ⟨⟨trivial, by rw [List.drop_append_of_le_length (by omega), List.drop_of_length_le (by omega), List.nil_append]⟩, by rw [List.take_append_of_le_length (by omega), List.take_of_length_le (by omega)]⟩
  rw [e, beNum_beBytes, Nat.mod_eq_of_lt h3]
theorem read_str {k : Int} {b : List UInt8} (h : (rPutS k b).2 = true) : (rPut k b.length).2 = true ∧ rStr (false, (rPutS k b).1) k = ((false, []), b) := by
  unfold rPutS at *
  split at h
  · rename_i hc
    refine ⟨hc, ?_⟩
    rw [if_pos hc]
    have e := read_num hc b
    unfold rStr
    rw [e]
    simp only
    rw [if_pos ⟨trivial, Nat.le_refl _⟩]
    unfold rTake
    rw [if_pos ⟨rfl, by omega, by simp only; omega⟩]
    simp
  · cases h
theorem rPut_len (k : Int) (x : Nat) : (rPut k x).1.length ≤ 8 := by
  unfold rPut
  split
  · rename_i h
    rw [beBytes_len]
    omega
  · simp
theorem rPutS_len (k : Int) (b : List UInt8) : (rPutS k b).1.length ≤ b.length + 8 := by
  unfold rPutS
  have := rPut_len k b.length
  split
  · simp only [List.length_append]; omega
  · simp

set_option maxHeartbeats 1000000 in
theorem walk (w : World) (q : Nat) (A : Option Addr) (c : Nat) (b : List UInt8) (k : Int) (x : Nat) (hx : x < 18446744073709551616) (hc : b.length ≤ c) (hcm : c ≤ maxLen) (hm : Mem w q A b) (hl : b.length ≤ 1000) :
    Calls Try.prog 4 #[.int .i64 k, .int .u64 x, .slice A b.length c] w fun e w' => e = .returned (.bool true) ∧ Below w.heap.size w w' := by
  have HM := Lib.hid hm
  have d1 : decide ((1000 : Int) < (b.length : Int)) = false := by simp; omega
  have hp := ptr_not_nil
  have hb47 : b.length ≤ 140737488355320 := by omega
  have hln := rPut_len k x
  have hls := rPutS_len k b
  have hrn := read_num (k := k) (x := x)
  have hrs := read_str (k := k) (b := b)
  have c1 := fun W => putnum_any W k x hx
  have c2 := fun W (h : Mem W q A b) => putstr_any W k q A _ c b rfl h hb47
  have c3 := fun W => reput_any W k x hx
  have c4 := fun W (h : Mem W q A b) => reputs_any W k q A _ c b rfl h hb47
  generalize rPutS k b = rs at *
  generalize rPut k x = rn at *
  obtain ⟨ln, pn⟩ := rn
  obtain ⟨ls, ps⟩ := rs
  simp only at hln hls hrn hrs c1 c2 c3 c4
  have C1 := Lib.hid c1
  have C2 := Lib.hid c2
  have C3 := Lib.hid c3
  have C4 := Lib.hid c4
  have RN := Lib.hid hrn
  have RS := Lib.hid hrs
  clear c1 c2 c3 c4 hrn hrs
  go_enter Try.func4, Try.ntmps4
  go_wp2_with fail
  refine (awake_any _).mono ?_
  rintro e w1 ⟨rfl, b1⟩
  replace hm := hm.below0 b1
  go_wp2_with fail
  refine (C1.out _).mono ?_
  rintro e w2 ⟨vm, rfl, om, b2⟩
  obtain ⟨Am, qm, cm, rfl, _, _, _, _⟩ := om.form
  replace hm := hm.below0 b2
  replace b2 := b1.trans (b2.mono b1.size)
  clear b1
  go_wp2_with fail
  refine (C2.out _ hm).mono ?_
  rintro e w3 ⟨vs, rfl, os, b3⟩
  obtain ⟨As, qs, cs, rfl, _, _, _, _⟩ := os.form
  replace hm := hm.below0 b3
  replace om := om.below b3
  replace b3 := b2.trans (b3.mono b2.size)
  clear b2
  go_wp2_with fail
  refine (C3.out _).mono ?_
  rintro e w4 ⟨vv, rfl, ov, b4⟩
  obtain ⟨Av, qv, cv, rfl, _, _, _, _⟩ := ov.form
  replace hm := hm.below0 b4
  replace om := om.below b4
  replace os := os.below b4
  replace b4 := b3.trans (b4.mono b3.size)
  clear b3
  go_wp2_with fail
  refine (C4.out _ hm).mono ?_
  rintro e w5 ⟨vw, rfl, ow, b5⟩
  obtain ⟨Aw, qw, cw, rfl, _, _, _, _⟩ := ow.form
  replace hm := hm.below0 b5
  replace om := om.below b5
  replace os := os.below b5
  replace ov := ov.below b5
  replace b5 := b4.trans (b5.mono b4.size)
  clear b4
  obtain ⟨_, im, mm⟩ := om.mem
  obtain ⟨_, is, ms⟩ := os.mem
  obtain ⟨_, iv, mv⟩ := ov.mem
  obtain ⟨_, iw, mw⟩ := ow.mem
  clear om os ov ow
  go_wp2_with fail
  refine (same_b _ im iv Am Av _ _ cm cv ln rfl rfl (by omega) mm mv).mono ?_
  rintro e w6 ⟨rfl, b6⟩
  replace hm := hm.below0 b6
  replace mm := mm.below0 b6
  replace ms := ms.below0 b6
  replace mw := mw.below0 b6
  replace b6 := b5.trans (b6.mono b5.size)
  clear b5 mv
  go_wp2_with fail
  refine (same_b _ is iw As Aw _ _ cs cw ls rfl rfl (by omega) ms mw).mono ?_
  rintro e w7 ⟨rfl, b7⟩
  replace hm := hm.below0 b7
  replace mm := mm.below0 b7
  replace ms := ms.below0 b7
  replace b7 := b6.trans (b7.mono b6.size)
  clear b6 mw
  go_wp2_with fail
  have b7' := b7.alloc b7.size (.cells #[.slice Am ln.length cm, .slice As ls.length cs] 22)
  have hm' := hm.alloc (.cells #[.slice Am ln.length cm, .slice As ls.length cs] 22)
  refine (join_any _ w7.heap.size _ 2 2 [ln, ls] rfl (memM_two mm ms) (by simp) (by simp; omega)).mono ?_
  rintro e w8 ⟨vj, rfl, oj, b8⟩
  replace hm := hm'.below0 b8
  replace b8 := b7'.trans (b8.mono b7'.size)
  clear b7 b7' hm' mm ms
  have ej : [ln, ls].flatten = ln ++ ls := by simp
  rw [ej] at oj
  obtain ⟨Aj, qj, cj, rfl, _, _, mj, _⟩ := oj.form
  go_wp2_with fail
  refine (new_any _ qj Aj _ cj (ln ++ ls) (by simp) mj (by simp; omega)).mono ?_
  rintro e w9 ⟨g, qr, rfl, r9, hg, hg', hq, b9⟩
  replace hm := hm.below0 b9
  have hz8 := b8.size
  replace b9 := b8.trans (b9.mono b8.size)
  clear b8 oj mj hq
  cases pn with
  | false =>
    go_wp2_with fail
    go_ret
    exact ⟨rfl, b9⟩
  | true =>
    cases ps with
    | false =>
      go_wp2_with fail
      go_ret
      exact ⟨rfl, b9⟩
    | true =>
      have e1 := RN.out rfl ls
      have e2 := (RS.out rfl).2
      have E1 := Lib.hid e1
      have E2 := Lib.hid e2
      clear e1 e2 RN RS
      go_wp2_with fail
      refine (num_any _ k r9).mono ?_
      rw [E1.out]
      rintro e w10 ⟨rfl, r10, g10⟩
      have b10 := b9.grown g10 b9.size (fun k hk => by injection hk; omega)
      clear b9 r9 hm
      go_wp2_with fail
      refine (str_any _ k r10).mono ?_
      rw [E2.out]
      rintro e w11 ⟨vb, rfl, ob, r11, g11⟩
      have b11 := b10.grown g11 b10.size (fun k hk => by injection hk; omega)
      clear b10 g11 r10
      obtain ⟨Ab, qb, cb, rfl, _, _, mb, _⟩ := ob.form
      clear ob
      go_wp2_with fail
      refine (same_b _ qb q Ab A _ _ cb c b rfl rfl (by omega) mb (HM.out.below0 b11)).mono ?_
      rintro e w12 ⟨rfl, b12⟩
      replace r11 := r11.below b12
      replace b12 := b11.trans (b12.mono b11.size)
      clear b11
      go_wp2_with fail
      refine (done_any _ r11).mono ?_
      rintro e w13 ⟨rfl, rfl⟩
      go_wp2_with fail
      go_ret
      exact ⟨rfl, b12⟩

theorem walk_out (w : World) (A : Option Addr) (len c : Nat) (k x : Int) (h : 1000 < len) :
    Calls Try.prog 4 #[.int .i64 k, .int .u64 x, .slice A len c] w fun e w' => e = .returned (.bool true) ∧ Below w.heap.size w w' := by
  have c1 : (1000 : Int) < (len : Int) := by omega
  go_enter Try.func4, Try.ntmps4
  go_wp2_with fail
  refine (awake_any _).mono ?_
  rintro e w1 ⟨rfl, b1⟩
  go_wp2_with fail
  refine (awake_any _).mono ?_
  rintro e w2 ⟨rfl, b2⟩
  go_wp2_with fail
  go_ret
  exact ⟨rfl, b1.trans (b2.mono b1.size)⟩

theorem walk_all (w : World) (q : Nat) (A : Option Addr) (c : Nat) (b : List UInt8) (k x : Int) (hx : (Lit.int .u64 x).wf = true) (hc : b.length ≤ c) (hcm : c ≤ maxLen) (hm : Mem w q A b) :
    Calls Try.prog 4 #[.int .i64 k, .int .u64 x, .slice A b.length c] w fun e w' => e = .returned (.bool true) ∧ Below w.heap.size w w' := by
  have hx2 := bounds_u64 hx
  by_cases h : 1000 < b.length
  · exact walk_out w A _ c k x h
  · obtain ⟨n, rfl⟩ := Int.eq_ofNat_of_zero_le (show 0 ≤ x by omega)
    exact walk w q A c b k n (by omega) hc hcm hm (by omega)

set_option maxRecDepth 100000 in
theorem lifted (os : Os) (started : os.Started) (H : Type) (enc : TypeId × Value → H) :
    ReturnsInHanded {} Try.checked os 4 .any (Rows.wirePutsSpec.pre6 enc Try.prog Try.f4 Rows.wirePutsRow.domain false) (Rows.wirePutsSpec.post enc Try.prog Try.f4 false true false false) := by
  refine returnsInHanded_of_change (C := Try.checked) own_knob started (by kernel_rfl) Try.func4
    (ChangeSpec.witness6 (enc := enc) (C := Try.checked) false ⟨#[], #[.int .i64 0, .int .u64 0, .slice none 0 0], []⟩ 8 (by kernel_rfl) (by kernel_rfl) (by kernel_rfl) (by kernel_rfl)) ?_
  intro W base args ds gs before hval0 hW hcnd _
  have hval : ∀ (j : Nat) t v, Try.f4.params[j]? = some t → args[j]? = some v → Value.okWide Try.prog W .any base t v := hval0
  have hW' := hW
  obtain ⟨p, q, hA0, hV, rfl, hfz, hnd⟩ := hW
  have hA : DataW.TrodAll enc Try.prog W 0 (fun _ => true) true Try.f4.params.toList args.toList ds p := hA0
  rw [Try.params4] at hA hval
  obtain ⟨v0, v1, v2, d0, d1, d2, p0, p1, p2, rfl, rfl, rfl, h0, h1, h2⟩ := trodAll_three hA
  obtain ⟨rfl, rfl⟩ := trodVars_none hV
  obtain ⟨k, rfl, rfl, rfl, w0⟩ := open_int Try.underlying3 (hval 0 3 v0 rfl rfl) h0
  obtain ⟨x, rfl, rfl, rfl, w1⟩ := open_int Try.underlying29 (hval 1 29 v1 rfl rfl) h1
  obtain ⟨A, qq, c, l, rfl, hc, hcm, hm⟩ := open_bytes (hval 2 22 v2 rfl rfl) h2
  clear hA0 hval0
  refine (walk_all W qq A c l k x w1 hc hcm hm).mono fun e W' ⟨he, bel⟩ => ?_
  subst he
  exact ⟨_, rfl, _, _, _, [], _, [], hW', trodAll_mk1 (shut_bool Try.underlying4 _), trodAll_mk3 (shut_int Try.underlying3 w0) (shut_int Try.underlying29 w1) (keep_arg (by kernel_rfl) (of_decide_eq_true (by kernel_rfl)) h2 bel), rfl, bel.frame _, fun h => by cases h⟩

theorem over : Rows.wirePutsRow.holds Try.pinned (OpenSpec.ofChange Rows.wirePutsSpec) :=
  OpenClaim.holds_of_wide 4 Try.f4 rfl rfl rfl rfl rfl rfl rfl ⟨rfl, rfl, rfl, rfl, rfl⟩ rfl rfl rfl rfl rfl (by kernel_rfl) Try.func4 (by kernel_rfl)
    (of_decide_eq_true (by kernel_rfl)) (by unfold Func.isWrapper; first | (rw [if_pos (by decide +kernel)]; kernel_rfl) | (rw [if_neg (by decide +kernel)]; exact ⟨rfl, rfl⟩))
    (fun os started H enc _ => lifted os started H enc)

/-- The statement. -/
theorem proved : Rows.WirePutsSaid := over
#print axioms proved
end Go.Proofs.Ytocllhenifgkhaa.wirePuts
