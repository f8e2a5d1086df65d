/-
  The least answer of any codes is that of the reference implementation, and that of the least ones of two parts: the law FaultFirst returns true for every input, and leaves its arguments as they were. The two package-level variables that it lists (errors.errorType, toll/fault.names) hold what the program's text lays.
-/
import Derived.Test.YtdbkpmllhdbfbaaDoorFOpen
import Derived.Test.YtdbkpmllhdbfbaaDoorCards
import Derived.Test.YtdbkpmllhdbfbaaDoorTie
namespace Go.Proofs.YtdbkpmllhdbfbaaDoor.faultFirst
open Go.ChangeShapes Go.WideShapes Go.ChangeAt Go.RowKit
set_option linter.unusedVariables false

def fs (o c : Int) : Int := if 1 ≤ c ∧ c < o then c else o
theorem fold_min (l : List Int) : ∀ o, 1 ≤ o → o ≤ 10 → l.foldl fs o = min o (l.foldl fs 10) := by
  have hb : ∀ (l : List Int) (o : Int), o ≤ 10 → l.foldl fs o ≤ 10 := by
    intro l
    induction l with
    | nil => intro o h; exact h
    | cons c r ih => intro o h; exact ih _ (by unfold fs; split <;> omega)
  induction l with
  | nil => intro o h1 h2; show o = min o 10; omega
  | cons c r ih =>
    intro o h1 h2
    simp only [List.foldl_cons]
    have k1 : 1 ≤ fs o c ∧ fs o c ≤ 10 := by unfold fs; split <;> omega
    have k2 : 1 ≤ fs 10 c ∧ fs 10 c ≤ 10 := by unfold fs; split <;> omega
    rw [ih _ k1.1 k1.2, ih _ k2.1 k2.2]
    have := hb r 10 (by omega)
    generalize r.foldl fs 10 = x at *
    unfold fs
    split <;> split <;> omega
theorem first_fs (l : List Int) : firstL l = l.foldl fs 10 := rfl
theorem first_append (a b : List Int) : firstL (a ++ b) = firstL [firstL a, firstL b] := by
  have h1 := firstL_le a
  have h2 := firstL_le b
  have e1 : firstL (a ++ b) = min (firstL a) (firstL b) := by
    rw [first_fs, List.foldl_append, ← first_fs a, fold_min b _ h1.2 h1.1]
    rfl
  rw [e1]
  generalize firstL a = x at *
  generalize firstL b = y at *
  show min x y = fs (fs 10 x) y
  unfold fs
  split <;> split <;> omega

theorem walk_out (w : World) (A Ao : Option Addr) (len c lo co : Nat) (hg : EtAt w) (hn : NmAt w) (h : 50 < len ∨ 50 < lo) :
    Calls Tryd.prog 6 #[.slice A len c, .slice Ao lo co] w fun e w' => e = .returned (.bool true) ∧ Below w.heap.size w w' := by
  have HG := Lib.hid hg
  have HN := Lib.hid hn
  clear hg hn
  by_cases c1 : (50 : Int) < (len : Int)
  · go_enter Tryd.func6, Tryd.ntmps6
    go_wp2_with fail
    refine (awake_any _ HG.out HN.out).mono ?_
    rintro e w1 ⟨rfl, b1⟩
    go_wp2_with fail
    refine (awake_any _ (HG.out.below b1) (HN.out.below b1)).mono ?_
    rintro e w2 ⟨rfl, b2⟩
    go_wp2_with fail
    go_ret
    exact ⟨rfl, b1.trans (b2.mono b1.size)⟩
  have d1 : decide ((50 : Int) < (len : Int)) = false := by simpa using c1
  have c2 : (50 : Int) < (lo : Int) := by omega
  clear c1 h
  go_enter Tryd.func6, Tryd.ntmps6
  go_wp2_with fail
  refine (awake_any _ HG.out HN.out).mono ?_
  rintro e w1 ⟨rfl, b1⟩
  go_wp2_with fail
  refine (awake_any _ (HG.out.below b1) (HN.out.below b1)).mono ?_
  rintro e w2 ⟨rfl, b2⟩
  go_wp2_with fail
  go_ret
  exact ⟨rfl, b1.trans (b2.mono b1.size)⟩

theorem code_info : (Tryd.prog.info? 32).map (fun i => (i.zero, i.size, i.bytes)) = some (some (.int .i64 0), 1, 8) := by kernel_rfl
theorem int_info : (Tryd.prog.info? 3).map (fun i => (i.zero, i.size, i.bytes)) = some (some (.int .i64 0), 1, 8) := by kernel_rfl

set_option maxRecDepth 100000 in
set_option maxHeartbeats 2000000 in
theorem walk (w : World) (qa qb : Nat) (A Ao : Option Addr) (ca cb : Nat) (a b : List Int) (hg : EtAt w) (hn : NmAt w) (ha : MemI w qa A a) (hb : MemI w qb Ao b) (h1 : a.length ≤ 50) (h2 : b.length ≤ 50) :
    Calls Tryd.prog 6 #[.slice A a.length ca, .slice Ao b.length cb] w fun e w' => e = .returned (.bool true) ∧ Below w.heap.size w w' := by
  obtain ⟨i0, hi0, hz0, hs0, hb0⟩ := info_parts code_info
  obtain ⟨i1, hi1, hz1, hs1, hb1⟩ := info_parts int_info
  have I0 := Lib.hid hi0
  have I1 := Lib.hid hi1
  have Z0 := Lib.hid (And.intro hz0 (And.intro hs0 hb0))
  have Z1 := Lib.hid (And.intro hz1 (And.intro hs1 hb1))
  clear hi0 hz0 hs0 hb0 hi1 hz1 hs1 hb1
  have d1 : decide ((50 : Int) < (a.length : Int)) = false := by simp; omega
  have d2 : decide ((50 : Int) < (b.length : Int)) = false := by simp; omega
  have HG := Lib.hid hg
  have HN := Lib.hid hn
  have HA := Lib.hid ha
  have HB := Lib.hid hb
  clear hg hn ha hb
  go_enter Tryd.func6, Tryd.ntmps6
  go_wp2_with fail
  refine (awake_any _ HG.out HN.out).mono ?_
  rintro e w1 ⟨rfl, b1⟩
  replace HA := Lib.hid (HA.out.below0 b1)
  replace HB := Lib.hid (HB.out.below0 b1)
  clear HG HN
  go_wp2_with fail
  have B1 := Lib.hid b1
  have z1 := b1.size
  clear b1
  go_loopw [5, 6] (fun v i wr => ∃ k : Nat, k ≤ a.length ∧ i = .int .i64 k ∧ OwnI 32 wr w1.heap.size v (a.take k) ∧ Below w1.heap.size w1 wr) (fun _ i _ => a.length - (intOf i).toNat)
  case atStart => exact ⟨0, Nat.zero_le _, rfl, OwnI.nil_ _ _ _, Below.refl _ _⟩
  case round =>
    obtain ⟨k, hk, rfl, ho, hbw⟩ := hrel
    by_cases hlt : k < a.length
    · obtain ⟨o, rfl, hc0⟩ := (HA.out.below0 hbw).at_ hlt
      have hi0 : (0 : Int) ≤ (k : Int) := by omega
      have hi1 : (k : Int) < (a.length : Int) := by omega
      have ht : a.take (k + 1) = a.take k ++ [a[k]] := take_snocI a k hlt
      have HT := Lib.hid ht
      clear ht
      generalize a[k] = x at *
      have hsz := hbw.size
      have hlk : (a.take k).length ≤ 50 := by rw [List.length_take]; omega
      have ho' := ho.alloc (.cells #[.int .i64 x] 32)
      have hbw' := hbw.alloc hsz (.cells #[.int .i64 x] 32)
      clear ho hbw
      go_wp2_with (refine wpList_append_ints (T := 32) rfl _ _ 47 rfl w1.heap.size i0 Tryd.underlying47 I0.out Z0.out.1 Z0.out.2.1 Z0.out.2.2 _ (a.take k) rfl ho' wr.heap.size (some ⟨wr.heap.size, 0, none⟩) 1 1 [x] rfl rfl (memI_lit rfl) (by simp; omega) (by simp; omega) ?_; intro v' w' hown' hg')
      go_roundw
      case rel => exact ⟨k + 1, by omega, by go_num, by rw [HT.out]; exact hown', (hbw'.grown hg' hbw'.size fun j hj => (ho'.lt j hj).1)⟩
      case measure => simp [intOf]; omega
    · obtain rfl : k = a.length := by omega
      rw [List.take_length] at ho
      obtain ⟨wo, hwo⟩ : ∃ wo : World, wo = wr := ⟨_, rfl⟩
      subst hwo
      have z2 := hbw.size
      have B2 := Lib.hid hbw
      have HO := Lib.hid ho
      clear ho hbw hlt hk
      obtain ⟨Al, ql, cl, rfl, _, _, ml⟩ := HO.out.form
      go_wp2_with fail
      go_loopw [7, 8] (fun v i wx => ∃ k : Nat, k ≤ b.length ∧ i = .int .i64 k ∧ OwnI 32 wx wo.heap.size v (b.take k) ∧ Below wo.heap.size wo wx) (fun _ i _ => b.length - (intOf i).toNat)
      case atStart => exact ⟨0, Nat.zero_le _, rfl, OwnI.nil_ _ _ _, Below.refl _ _⟩
      case round =>
        obtain ⟨k, hk, rfl, ho, hbw⟩ := hrel
        by_cases hlt : k < b.length
        · obtain ⟨o, rfl, hc0⟩ := (HB.out.below0 (B2.out.trans (hbw.mono z2))).at_ hlt
          have hi0 : (0 : Int) ≤ (k : Int) := by omega
          have hi1 : (k : Int) < (b.length : Int) := by omega
          have ht : b.take (k + 1) = b.take k ++ [b[k]] := take_snocI b k hlt
          have HT := Lib.hid ht
          clear ht
          generalize b[k] = x at *
          have hsz := hbw.size
          have hlk : (b.take k).length ≤ 50 := by rw [List.length_take]; omega
          have ho' := ho.alloc (.cells #[.int .i64 x] 32)
          have hbw' := hbw.alloc hsz (.cells #[.int .i64 x] 32)
          clear ho hbw
          go_wp2_with (refine wpList_append_ints (T := 32) rfl _ _ 47 rfl wo.heap.size i0 Tryd.underlying47 I0.out Z0.out.1 Z0.out.2.1 Z0.out.2.2 _ (b.take k) rfl ho' wr.heap.size (some ⟨wr.heap.size, 0, none⟩) 1 1 [x] rfl rfl (memI_lit rfl) (by simp; omega) (by simp; omega) ?_; intro v' w' hown' hg')
          go_roundw
          case rel => exact ⟨k + 1, by omega, by go_num, by rw [HT.out]; exact hown', (hbw'.grown hg' hbw'.size fun j hj => (ho'.lt j hj).1)⟩
          case measure => simp [intOf]; omega
        · obtain rfl : k = b.length := by omega
          rw [List.take_length] at ho
          have z3 := hbw.size
          have B3 := Lib.hid (B2.out.trans (hbw.mono z2))
          replace HO := Lib.hid (HO.out.below hbw)
          replace ml := Lib.hid (ml.below0 hbw)
          have HM := Lib.hid ho
          have z4 : w1.heap.size ≤ wr.heap.size := Nat.le_trans z2 z3
          clear ho hbw B2 hlt hk z2 z3
          obtain ⟨Am, qm, cm, rfl, _, _, mm⟩ := HM.out.form
          go_wp2_with fail
          refine (first_any _ ql Al _ cl a rfl ml.out (by omega)).mono ?_
          rintro e w9 ⟨rfl, rfl⟩
          go_wp2_with fail
          refine (first_any _ qm Am _ cm b rfl mm (by omega)).mono ?_
          rintro e w9 ⟨rfl, rfl⟩
          go_wp2_with fail
          refine (rfirst_any _ qa A _ ca a rfl (HA.out.below0 B3.out) (by omega)).mono ?_
          rintro e w9 ⟨rfl, rfl⟩
          go_wp2_with (refine wpList_append_ints_w (T := 32) (by simp [Region.wanted, yielded]) _ _ 47 rfl w1.heap.size i0 Tryd.underlying47 I0.out Z0.out.1 Z0.out.2.1 Z0.out.2.2 (.slice Al a.length cl) a rfl HO.out qm Am b.length cm b rfl rfl mm (by omega) z4 ?_; intro v' w' hown' hg')
          have B4 := Lib.hid (B3.out.grown hg' z4 fun j hj => (HO.out.lt j hj).1)
          have z5 := B4.out.size
          clear hg' mm HM HO ml B3 z4
          obtain ⟨A5, q5, c5, rfl, _, _, m5⟩ := hown'.form
          refine (first_any _ q5 A5 _ c5 (a ++ b) rfl m5 (by simp; omega)).mono ?_
          rw [first_append]
          rintro e w9 ⟨rfl, rfl⟩
          clear hown' m5
          generalize hX : firstL [firstL a, firstL b] = X
          have HX := Lib.hid hX
          clear hX
          have mS := memI_lit (w := w') (t := 32) (l := [firstL a, firstL b]) (cs := #[.int .i64 (firstL a), .int .i64 (firstL b)]) rfl
          have mT : MemI ((w'.alloc (.cells #[.int .i64 (firstL a), .int .i64 (firstL b)] 32)).alloc (.cells #[.int .i64 (firstL a), .int .i64 (firstL b)] 32)) (w'.heap.size + 1) (some ⟨w'.heap.size + 1, 0, none⟩) [firstL a, firstL b] := by
            have := memI_lit (w := w'.alloc (.cells #[.int .i64 (firstL a), .int .i64 (firstL b)] 32)) (t := 32) (l := [firstL a, firstL b]) (cs := #[.int .i64 (firstL a), .int .i64 (firstL b)]) rfl
            rwa [show (w'.alloc (.cells #[.int .i64 (firstL a), .int .i64 (firstL b)] 32)).heap.size = w'.heap.size + 1 by simp] at this
          have B5 := Lib.hid (((B4.out.alloc z5 (.cells #[.int .i64 (firstL a), .int .i64 (firstL b)] 32)).alloc (by simp; omega) (.cells #[.int .i64 (firstL a), .int .i64 (firstL b)] 32)).alloc (by simp; omega) (.cells #[] 3))
          have MS := Lib.hid mS
          have MT := Lib.hid mT
          clear mS mT B4
          go_wp2_with fail
          refine (first_any _ w'.heap.size _ 2 2 [firstL a, firstL b] rfl MS.out (by simp)).mono ?_
          rw [HX.out]
          rintro e w9 ⟨rfl, rfl⟩
          go_wp2_with fail
          refine (first_any _ (w'.heap.size + 1) _ 2 2 [firstL a, firstL b] rfl MT.out (by simp)).mono ?_
          rw [HX.out]
          rintro e w9 ⟨rfl, rfl⟩
          have hQ : ((w'.alloc (.cells #[.int .i64 (firstL a), .int .i64 (firstL b)] 32)).alloc (.cells #[.int .i64 (firstL a), .int .i64 (firstL b)] 32)).heap.size = w'.heap.size + 1 + 1 := by simp
          have o6 : OwnI 3 (((w'.alloc (.cells #[.int .i64 (firstL a), .int .i64 (firstL b)] 32)).alloc (.cells #[.int .i64 (firstL a), .int .i64 (firstL b)] 32)).alloc (.cells #[] 3)) (w'.heap.size + 1 + 1) (.slice (some ⟨w'.heap.size + 1 + 1, 0, none⟩) 0 0) [] := by
            rw [← hQ]
            exact World.ownsRow_made _ #[] 0 (Nat.le_refl _) (by unfold maxLen; omega) (by simp)
          have O6 := Lib.hid o6
          clear o6 hQ
          go_wp2_with (first
            | (refine wpList_append_ints_w (T := 3) (by simp [Region.wanted, yielded]) (.tmp 74) (.tmp 75) 46 rfl (w'.heap.size + 1 + 1) i1 Tryd.underlying46 I1.out Z1.out.1 Z1.out.2.1 Z1.out.2.2 (.slice (some ⟨w'.heap.size + 1 + 1, 0, none⟩) 0 0) [] rfl O6.out qa A a.length ca a rfl rfl (HA.out.below0 B5.out) (by simp; omega) (by simp) ?_; intro v7 w7 o7 g7; have B7 := Lib.hid (B5.out.grown g7 (by simp; omega) fun j hj => by have := (O6.out.lt j hj).1; omega); have z7 := g7.size; clear g7)
            | (refine wpList_append_ints_w (T := 3) (by simp [Region.wanted, yielded]) (.tmp 76) (.tmp 77) 46 rfl (w'.heap.size + 1 + 1) i1 Tryd.underlying46 I1.out Z1.out.1 Z1.out.2.1 Z1.out.2.2 v7 ([] ++ a) rfl o7 qb Ao b.length cb b rfl rfl (HB.out.below0 B7.out) (by simp; omega) (by simp at z7; omega) ?_; intro v8 w8 o8 g8; have B8 := Lib.hid (B7.out.grown g8 (by simp at z7; omega) fun j hj => by have := (o7.lt j hj).1; omega); clear g8))
          obtain ⟨A8, q8, c8, rfl, _, _, m8⟩ := o8.form
          refine (rfirst_any _ q8 A8 _ c8 ([] ++ a ++ b) rfl m8 (by simp; omega)).mono ?_
          rw [List.nil_append, first_append, HX.out]
          rintro e w9 ⟨rfl, rfl⟩
          clear o8 m8
          go_wp2_with fail
          go_ret
          exact ⟨rfl, B1.out.trans (B8.out.mono z1)⟩

theorem walk_all (w : World) (qa qb : Nat) (A Ao : Option Addr) (ca cb : Nat) (a b : List Int) (hg : EtAt w) (hn : NmAt w) (ha : MemI w qa A a) (hb : MemI w qb Ao b) :
    Calls Tryd.prog 6 #[.slice A a.length ca, .slice Ao b.length cb] w fun e w' => e = .returned (.bool true) ∧ Below w.heap.size w w' := by
  by_cases h : 50 < a.length ∨ 50 < b.length
  · exact walk_out w A Ao _ ca _ cb hg hn h
  · exact walk w qa qb A Ao ca cb a b hg hn ha hb (by omega) (by omega)

set_option maxRecDepth 100000 in
theorem lifted (os : Os) (started : os.Started) (H : Type) (enc : TypeId × Value → H) :
    ReturnsInHanded {} Tryd.checked os 6 .any (fun w args => (Rows.faultFirstSpec.pre enc Tryd.prog Tryd.f6 [] false w args ∧ laidMetH Tryd.prog laidL w) ∧ sizedMet enc Tryd.prog Tryd.f6 (OpenSpec.ofChange Rows.faultFirstSpec) false w args)
      (Rows.faultFirstSpec.post enc Tryd.prog Tryd.f6 false true false false) := by
  refine returnsInHanded_of_change_and (C := Tryd.checked) (X := fun w _ => laidMetH Tryd.prog laidL w) (fun _ _ _ hh h => h.of_heap hh) own_knob started (by kernel_rfl) Tryd.func6
    (ChangeSpec.witness_at (enc := enc) (C := Tryd.checked) (os := os) (X := fun w _ => laidMetH Tryd.prog laidL w) false (laidWorld os) #[.slice none 0 0, .slice none 0 0] 8 rfl (by kernel_rfl) (by kernel_rfl) (by kernel_rfl) (by kernel_rfl) (by kernel_rfl) (laidWorld_met os _)) ?_
  intro W base args ds gs before hval0 hW _ _ hL _
  have hval : ∀ (j : Nat) t v, Tryd.f6.params[j]? = some t → args[j]? = some v → Value.okWide Tryd.prog W .any base t v := hval0
  have hW' := hW
  obtain ⟨p, q, hA0, hV, rfl, hfz, hnd⟩ := hW
  have hA : DataW.TrodAll enc Tryd.prog W 0 (fun _ => true) true Tryd.f6.params.toList args.toList ds p := hA0
  rw [Tryd.params6] at hA hval
  obtain ⟨v0, v1, d0, d1, p0, p1, rfl, rfl, rfl, h0, h1⟩ := trodAll_two hA
  obtain ⟨rfl, rfl⟩ := trodVars_none hV
  have hvl0 := hval 0 46 v0 rfl rfl
  have hvl1 := hval 1 46 v1 rfl rfl
  obtain ⟨A, qa, ca, a, rfl, _, _, ha⟩ := open_rowI hvl0 h0
  obtain ⟨Ao, qb, cb, b, rfl, _, _, hb⟩ := open_rowI hvl1 h1
  clear hA0 hval0
  refine (walk_all W qa qb A Ao ca cb a b (et_of_laid hL) (nm_of_laid hL) ha hb).mono fun e W' ⟨he, bel⟩ => ?_
  subst he
  exact ⟨_, rfl, _, _, _, [], _, [], hW', trodAll_mk1 (shut_bool Tryd.underlying4 _), trodAll_mk2 (keep_arg (by kernel_rfl) (of_decide_eq_true (by kernel_rfl)) h0 bel) (keep_arg (by kernel_rfl) (of_decide_eq_true (by kernel_rfl)) h1 bel), rfl, bel.frame _, fun h => by cases h⟩

theorem over : Rows.faultFirstRow.holds Tryd.pinned (OpenSpec.ofChange Rows.faultFirstSpec) :=
  OpenClaim.holds_of_wide 6 Tryd.f6 rfl rfl rfl rfl rfl rfl rfl ⟨rfl, rfl, rfl, rfl, rfl⟩ rfl rfl rfl rfl rfl (by kernel_rfl) Tryd.func6 (by kernel_rfl)
    (of_decide_eq_true (by kernel_rfl)) (by unfold Func.isWrapper; first | (rw [if_pos (by decide +kernel)]; kernel_rfl) | (rw [if_neg (by decide +kernel)]; exact ⟨rfl, rfl⟩))
    (fun os started H enc _ => lifted os started H enc)

/-- The statement: the tied card. -/
theorem proved : Rows.FaultFirstCardSaid :=
  Claim7.holds_tied_plain_at .later [] _ true _ true over (fun _ h => by cases h) (by kernel_rfl) (fun _ h => by cases h) faultFirst_row_tie rfl ⟨rfl, rfl⟩ (by kernel_rfl) rfl
    (fun f fn hf hfn => by
      obtain rfl : f = 6 := Option.some.inj ((show Tryd.prog.funcNamed "toll/tolllaw02.FaultFirst" = some 6 by kernel_rfl).symm.trans hf) |>.symm
      obtain rfl : fn = Tryd.f6 := (Option.some.inj (Tryd.func6.symm.trans hfn)).symm
      exact ⟨by kernel_rfl, fun j t ht => by
        rw [Tryd.params6] at ht
        have hm : t ∈ [46, 46] := by simpa using Array.mem_of_getElem? ht
        have hall : ([46, 46].all fun u => !Tryd.prog.wantsStandIn u) = true := by kernel_rfl
        exact (show Tryd.prog.wantsStandIn t = false by simpa using List.all_eq_true.1 hall t hm)⟩)
    (by kernel_rfl)
#print axioms proved
end Go.Proofs.YtdbkpmllhdbfbaaDoor.faultFirst
