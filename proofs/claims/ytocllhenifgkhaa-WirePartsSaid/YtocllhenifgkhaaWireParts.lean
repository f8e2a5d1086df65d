/-
  Taking bytes of a reader in two parts is taking them at once: the law WireParts returns true for every input, and leaves its arguments as they were. No condition.
-/
import Derived.Test.YtocllhenifgkhaaLawKit
namespace Go.Proofs.Ytocllhenifgkhaa.wireParts
open Go.ChangeShapes Go.WideShapes Go.ChangeAt Go.RowKit
set_option linter.unusedVariables false

theorem two_fit (l : List UInt8) (a b : Nat) (h : a + b ≤ l.length) : ∃ t o1 o2, rTake (false, l) a = ((false, l.drop a), o1) ∧ rTake (false, l.drop a) b = ((false, t), o2) ∧ rTake (false, l) ((a : Int) + b) = ((false, t), o1 ++ o2) ∧ o1.length ≤ l.length ∧ o2.length ≤ l.length ∧ t.length ≤ l.length := by
  refine ⟨l.drop (a + b), l.take a, (l.drop a).take b, ?_, ?_, ?_, ?_, ?_, ?_⟩
  · unfold rTake; rw [if_pos ⟨rfl, by omega, by simp; omega⟩]; simp
  · unfold rTake; rw [if_pos ⟨rfl, by omega, by simp only [List.length_drop]; omega⟩]; simp [List.drop_drop]
  · unfold rTake; rw [if_pos ⟨rfl, by omega, by simp only; omega⟩]
    have e : ((a : Int) + (b : Int)).toNat = a + b := by omega
    simp only [e, List.take_add]
  · simp only [List.length_take]; omega
  · simp only [List.length_take, List.length_drop]; omega
  · simp only [List.length_drop]; omega
theorem two_short (l : List UInt8) (a b : Nat) (h : l.length < a + b) : ∃ st1 o1, rTake (false, l) a = (st1, o1) ∧ rTake st1 b = ((true, []), []) ∧ rTake (false, l) ((a : Int) + b) = ((true, []), []) := by
  refine ⟨(rTake (false, l) a).1, (rTake (false, l) a).2, rfl, ?_, ?_⟩
  · by_cases ha : a ≤ l.length
    · have e : rTake (false, l) a = ((false, l.drop a), l.take a) := by unfold rTake; rw [if_pos ⟨rfl, by omega, by simp only; omega⟩]; simp
      rw [e]
      unfold rTake
      rw [if_neg]
      rintro ⟨_, _, h3⟩
      simp only [List.length_drop] at h3
      omega
    · have e : rTake (false, l) a = ((true, []), []) := by
        unfold rTake
        rw [if_neg]
        rintro ⟨_, _, h3⟩
        simp only at h3
        omega
      rw [e]
      simp [rTake]
  · unfold rTake
    rw [if_neg]
    rintro ⟨_, _, h3⟩
    simp only at h3
    omega

set_option maxHeartbeats 1000000 in
theorem walk (w : World) (q : Nat) (A : Option Addr) (c : Nat) (l : List UInt8) (a b : Nat) (hc : l.length ≤ c) (hcm : c ≤ maxLen) (hm : Mem w q A l) (hl : l.length ≤ 300) (hn1 : a ≤ 1000) (hm1 : b ≤ 1000) :
    Calls Try.prog 7 #[.slice A l.length c, .int .i64 a, .int .i64 b] w fun e w' => e = .returned (.bool true) ∧ Below w.heap.size w w' := by
  have d1 : decide ((300 : Int) < (l.length : Int)) = false := by simp; omega
  have d2 : decide ((a : Int) < 0) = false := by simp
  have d3 : decide ((b : Int) < 0) = false := by simp
  have d4 : decide (1000 < (a : Int)) = false := by simp; omega
  have d5 : decide (1000 < (b : Int)) = false := by simp; omega
  have hp := ptr_not_nil
  have hl47 : l.length ≤ 140737488355328 := by omega
  go_enter Try.func7, Try.ntmps7
  go_wp2_with (first | (go_at_call 8; refine (awake_any _).mono ?_; rintro e w1 ⟨rfl, b1⟩))
  have z1 := b1.size
  replace hm := hm.below0 b1
  refine (new_any _ q A _ c l rfl hm hl47).mono ?_
  rintro e w2 ⟨g1, q1, rfl, r1, hg1, hg1', hq1, b2⟩
  replace hm := hm.below0 b2
  replace b2 := b1.trans (b2.mono b1.size)
  clear b1
  go_wp2_with fail
  refine (new_any _ q A _ c l rfl hm hl47).mono ?_
  rintro e w3 ⟨g2, q2, rfl, r2, hg2, hg2', hq2, b3⟩
  replace r1 := r1.below b3
  replace b3 := b2.trans (b3.mono b2.size)
  have hgg : w.heap.size ≤ g1 ∧ g1 < g2 := by omega
  clear b2 hm
  have k1 : some g2 ≠ some g1 := by simp; omega
  have k2 : l = [] ∨ some q2 ≠ some g1 := by
    rcases hq2 with h | h
    · exact .inl h
    · right; simp; omega
  have K1 := Lib.hid k1
  have K2 := Lib.hid k2
  have HQ := Lib.hid hq1
  clear k1 k2 hq1 hq2
  go_wp2_with fail
  by_cases hfit : a + b ≤ l.length
  · obtain ⟨t, o1, o2, e1, e2, e3, hlo1, hlo2, hlt⟩ := two_fit l a b hfit
    have E1 := Lib.hid e1
    have E2 := Lib.hid e2
    have E3 := Lib.hid e3
    clear e1 e2 e3
    have dfit : decide ((l.length : Int) < (a : Int) + (b : Int)) = false := by simp; omega
    refine (take_any _ a r1).mono ?_
    rw [E1.out]
    rintro e w4 ⟨x, rfl, ox, s1, gr4⟩
    have b4 := b3.grown gr4 b3.size (fun k hk => by injection hk; omega)
    replace r2 := r2.grown2 gr4 K1.out K2.out
    have gr4s := gr4.size
    clear b3 r1 gr4
    obtain ⟨Ax, qx, cx, rfl, _, _, _, _⟩ := ox.form
    have hz4 := b4.size
    have hz34 := gr4s
    go_wp2_with fail
    refine (take_any _ b s1).mono ?_
    rw [E2.out]
    rintro e w5 ⟨y, rfl, oy, s2, gr5⟩
    have b5 := b4.grown gr5 hz4 (fun k hk => by injection hk; omega)
    replace r2 := r2.grown2 gr5 K1.out K2.out
    replace ox := ox.grown gr5 (fun k hk => .inl (by injection hk; omega))
    clear b4 s1
    have hz5 := gr5.size
    clear gr5
    obtain ⟨Ay, qy, cy, rfl, _, _, _, _⟩ := oy.form
    go_wp2_with fail
    refine (take_any _ ((a : Int) + b) r2).mono ?_
    rw [E3.out]
    rintro e w6 ⟨z, rfl, oz, r3, gr6⟩
    have b6 := b5.grown gr6 b5.size (fun k hk => by injection hk; omega)
    have hz6 := gr6.size
    replace s2 := s2.grown2 gr6 (fun h => K1.out h.symm) (by
      rcases HQ.out with h | h
      · left; rw [h] at hlt; exact List.length_eq_zero_iff.1 (by simpa using hlt)
      · right; simp; omega)
    replace ox := ox.grown gr6 (fun k hk => .inl (by injection hk; omega))
    replace oy := oy.grown gr6 (fun k hk => .inl (by injection hk; omega))
    clear b5 r2 gr6
    obtain ⟨Az, qz, cz, rfl, _, _, _, _⟩ := oz.form
    go_wp2_with fail
    obtain ⟨_, ix, mx⟩ := ox.mem
    obtain ⟨_, iy, my⟩ := oy.mem
    obtain ⟨_, iz, mz⟩ := oz.mem
    have b6' := b6.alloc b6.size (.cells #[.slice Ax o1.length cx, .slice Ay o2.length cy] 22)
    have mz' := mz.alloc (.cells #[.slice Ax o1.length cx, .slice Ay o2.length cy] 22)
    have s2' := s2.alloc (.cells #[.slice Ax o1.length cx, .slice Ay o2.length cy] 22)
    have r3' := r3.alloc (.cells #[.slice Ax o1.length cx, .slice Ay o2.length cy] 22)
    refine (rejoin_any _ w6.heap.size _ 2 2 [o1, o2] rfl (memM_two mx my) (by simp) (by simp; omega)).mono ?_
    rintro e w7 ⟨j, rfl, oj, b7⟩
    replace mz := mz'.below0 b7
    replace s2 := s2'.below b7
    replace r3 := r3'.below b7
    replace b7 := b6'.trans (b7.mono b6'.size)
    clear b6 b6' mz' s2' r3' ox oy oz mx my
    have ej : [o1, o2].flatten = o1 ++ o2 := by simp
    rw [ej] at oj
    obtain ⟨Aj, qj, cj, rfl, _, _, mj, _⟩ := oj.form
    go_wp2_with fail
    refine (same_b _ qj iz Aj _ _ _ cj _ (o1 ++ o2) (by simp) (by simp) (by simp; omega) mj mz).mono ?_
    rintro e w8 ⟨rfl, b8⟩
    replace s2 := s2.below b8
    replace r3 := r3.below b8
    replace b8 := b7.trans (b8.mono b7.size)
    clear b7
    go_wp2_with fail
    refine (left_any _ s2).mono ?_
    rintro e w9 ⟨rfl, rfl⟩
    go_wp2_with fail
    refine (left_any _ r3).mono ?_
    rintro e w9 ⟨rfl, rfl⟩
    go_wp2_with fail
    refine (bad_any _ s2).mono ?_
    rintro e w9 ⟨rfl, rfl⟩
    go_wp2_with fail
    go_ret
    exact ⟨rfl, b8⟩
  · obtain ⟨st1, o1, e1, e2, e3⟩ := two_short l a b (by omega)
    have E1 := Lib.hid e1
    have E2 := Lib.hid e2
    have E3 := Lib.hid e3
    clear e1 e2 e3
    have dfit : (l.length : Int) < (a : Int) + (b : Int) := by omega
    refine (take_any _ a r1).mono ?_
    rw [E1.out]
    rintro e w4 ⟨x, rfl, ox, s1, gr4⟩
    have b4 := b3.grown gr4 b3.size (fun k hk => by injection hk; omega)
    replace r2 := r2.grown2 gr4 K1.out K2.out
    clear b3 r1 gr4
    obtain ⟨Ax, qx, cx, rfl, _, _, _, _⟩ := ox.form
    clear ox
    obtain ⟨bd1, l1⟩ := st1
    go_wp2_with fail
    refine (take_any _ b s1).mono ?_
    rw [E2.out]
    rintro e w5 ⟨y, rfl, oy, s2, gr5⟩
    have b5 := b4.grown gr5 b4.size (fun k hk => by injection hk; omega)
    replace r2 := r2.grown2 gr5 K1.out K2.out
    clear b4 s1 gr5
    obtain ⟨Ay, qy, cy, rfl, _, _, _, _⟩ := oy.form
    clear oy
    go_wp2_with fail
    refine (take_any _ ((a : Int) + b) r2).mono ?_
    rw [E3.out]
    rintro e w6 ⟨z, rfl, oz, r3, gr6⟩
    have b6 := b5.grown gr6 b5.size (fun k hk => by injection hk; omega)
    replace s2 := s2.grown2 gr6 (fun h => K1.out h.symm) (.inl rfl)
    clear b5 r2 gr6
    obtain ⟨Az, qz, cz, rfl, _, _, _, _⟩ := oz.form
    clear oz
    go_wp2_with fail
    refine (bad_any _ s2).mono ?_
    rintro e w9 ⟨rfl, rfl⟩
    go_wp2_with fail
    refine (bad_any _ r3).mono ?_
    rintro e w9 ⟨rfl, rfl⟩
    go_wp2_with fail
    go_ret
    exact ⟨rfl, b6⟩

theorem walk_out (w : World) (A : Option Addr) (len c : Nat) (n m : Int) (h : 300 < len ∨ n < 0 ∨ m < 0 ∨ 1000 < n ∨ 1000 < m) :
    Calls Try.prog 7 #[.slice A len c, .int .i64 n, .int .i64 m] w fun e w' => e = .returned (.bool true) ∧ Below w.heap.size w w' := by
  have two : ∀ w1 w2 : World, Below w.heap.size w w1 → Below w1.heap.size w1 w2 → Below w.heap.size w w2 := fun w1 w2 h1 h2 => h1.trans (h2.mono h1.size)
  by_cases c1 : (300 : Int) < (len : Int)
  · go_enter Try.func7, Try.ntmps7
    go_wp2_with fail
    refine (awake_any _).mono ?_
    rintro e w1 ⟨rfl, b1⟩
    go_wp2_with fail
    refine (awake_any _).mono ?_
    rintro e w2 ⟨rfl, b2⟩
    go_wp2_with fail
    go_ret
    exact ⟨rfl, two _ _ b1 b2⟩
  have d1 : decide ((300 : Int) < (len : Int)) = false := by simpa using c1
  by_cases c2 : n < 0
  · clear c1
    go_enter Try.func7, Try.ntmps7
    go_wp2_with fail
    refine (awake_any _).mono ?_
    rintro e w1 ⟨rfl, b1⟩
    go_wp2_with fail
    refine (awake_any _).mono ?_
    rintro e w2 ⟨rfl, b2⟩
    go_wp2_with fail
    go_ret
    exact ⟨rfl, two _ _ b1 b2⟩
  have d2 : decide (n < 0) = false := by simpa using c2
  by_cases c3 : m < 0
  · clear c1 c2
    go_enter Try.func7, Try.ntmps7
    go_wp2_with fail
    refine (awake_any _).mono ?_
    rintro e w1 ⟨rfl, b1⟩
    go_wp2_with fail
    refine (awake_any _).mono ?_
    rintro e w2 ⟨rfl, b2⟩
    go_wp2_with fail
    go_ret
    exact ⟨rfl, two _ _ b1 b2⟩
  have d3 : decide (m < 0) = false := by simpa using c3
  by_cases c4 : 1000 < n
  · clear c1 c2 c3
    go_enter Try.func7, Try.ntmps7
    go_wp2_with fail
    refine (awake_any _).mono ?_
    rintro e w1 ⟨rfl, b1⟩
    go_wp2_with fail
    refine (awake_any _).mono ?_
    rintro e w2 ⟨rfl, b2⟩
    go_wp2_with fail
    go_ret
    exact ⟨rfl, two _ _ b1 b2⟩
  have d4 : decide (1000 < n) = false := by simpa using c4
  have c5 : 1000 < m := by omega
  clear c1 c2 c3 c4 h
  go_enter Try.func7, Try.ntmps7
  go_wp2_with fail
  refine (awake_any _).mono ?_
  rintro e w1 ⟨rfl, b1⟩
  go_wp2_with fail
  refine (awake_any _).mono ?_
  rintro e w2 ⟨rfl, b2⟩
  go_wp2_with fail
  go_ret
  exact ⟨rfl, two _ _ b1 b2⟩

theorem walk_all (w : World) (q : Nat) (A : Option Addr) (c : Nat) (l : List UInt8) (n m : Int) (hc : l.length ≤ c) (hcm : c ≤ maxLen) (hm : Mem w q A l) :
    Calls Try.prog 7 #[.slice A l.length c, .int .i64 n, .int .i64 m] w fun e w' => e = .returned (.bool true) ∧ Below w.heap.size w w' := by
  by_cases h : 300 < l.length ∨ n < 0 ∨ m < 0 ∨ 1000 < n ∨ 1000 < m
  · exact walk_out w A _ c n m h
  · obtain ⟨a, rfl⟩ := Int.eq_ofNat_of_zero_le (show 0 ≤ n by omega)
    obtain ⟨b, rfl⟩ := Int.eq_ofNat_of_zero_le (show 0 ≤ m by omega)
    exact walk w q A c l a b hc hcm hm (by omega) (by omega) (by omega)

set_option maxRecDepth 100000 in
theorem lifted (os : Os) (started : os.Started) (H : Type) (enc : TypeId × Value → H) :
    ReturnsInHanded {} Try.checked os 7 .any (Rows.wirePartsSpec.pre6 enc Try.prog Try.f7 Rows.wirePartsRow.domain false) (Rows.wirePartsSpec.post enc Try.prog Try.f7 false true false false) := by
  refine returnsInHanded_of_change (C := Try.checked) own_knob started (by kernel_rfl) Try.func7
    (ChangeSpec.witness6 (enc := enc) (C := Try.checked) false ⟨#[], #[.slice none 0 0, .int .i64 0, .int .i64 0], []⟩ 8 (by kernel_rfl) (by kernel_rfl) (by kernel_rfl) (by kernel_rfl)) ?_
  intro W base args ds gs before hval0 hW hcnd _
  have hval : ∀ (j : Nat) t v, Try.f7.params[j]? = some t → args[j]? = some v → Value.okWide Try.prog W .any base t v := hval0
  have hW' := hW
  obtain ⟨p, q, hA0, hV, rfl, hfz, hnd⟩ := hW
  have hA : DataW.TrodAll enc Try.prog W 0 (fun _ => true) true Try.f7.params.toList args.toList ds p := hA0
  rw [Try.params7] at hA hval
  obtain ⟨v0, v1, v2, d0, d1, d2, p0, p1, p2, rfl, rfl, rfl, h0, h1, h2⟩ := trodAll_three hA
  obtain ⟨rfl, rfl⟩ := trodVars_none hV
  obtain ⟨A, qq, c, l, rfl, hc, hcm, hm⟩ := open_bytes (hval 0 22 v0 rfl rfl) h0
  obtain ⟨n, rfl, rfl, rfl, w1⟩ := open_int Try.underlying3 (hval 1 3 v1 rfl rfl) h1
  obtain ⟨m, rfl, rfl, rfl, w2⟩ := open_int Try.underlying3 (hval 2 3 v2 rfl rfl) h2
  clear hA0 hval0
  refine (walk_all W qq A c l n m hc hcm hm).mono fun e W' ⟨he, bel⟩ => ?_
  subst he
  exact ⟨_, rfl, _, _, _, [], _, [], hW', trodAll_mk1 (shut_bool Try.underlying4 _), trodAll_mk3 (keep_arg (by kernel_rfl) (of_decide_eq_true (by kernel_rfl)) h0 bel) (shut_int Try.underlying3 w1) (shut_int Try.underlying3 w2), rfl, bel.frame _, fun h => by cases h⟩

theorem over : Rows.wirePartsRow.holds Try.pinned (OpenSpec.ofChange Rows.wirePartsSpec) :=
  OpenClaim.holds_of_wide 7 Try.f7 rfl rfl rfl rfl rfl rfl rfl ⟨rfl, rfl, rfl, rfl, rfl⟩ rfl rfl rfl rfl rfl (by kernel_rfl) Try.func7 (by kernel_rfl)
    (of_decide_eq_true (by kernel_rfl)) (by unfold Func.isWrapper; first | (rw [if_pos (by decide +kernel)]; kernel_rfl) | (rw [if_neg (by decide +kernel)]; exact ⟨rfl, rfl⟩))
    (fun os started H enc _ => lifted os started H enc)

/-- The statement. -/
theorem proved : Rows.WirePartsSaid := over
#print axioms proved
end Go.Proofs.Ytocllhenifgkhaa.wireParts
