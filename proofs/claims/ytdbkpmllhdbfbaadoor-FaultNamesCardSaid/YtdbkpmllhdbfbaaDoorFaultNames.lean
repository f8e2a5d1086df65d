/-
  Every code has the name of the table, which leads back to it, or none; other names lead to no code: the law FaultNames returns true for every input, and leaves its arguments as they were. The two package-level variables that it lists (errors.errorType, toll/fault.names) hold what the program's text lays.
-/
import Derived.Test.YtdbkpmllhdbfbaaDoorFOpen
import Derived.Test.YtdbkpmllhdbfbaaDoorCards
import Derived.Test.YtdbkpmllhdbfbaaDoorTie
namespace Go.Proofs.YtdbkpmllhdbfbaaDoor.faultNames
open Go.ChangeShapes Go.WideShapes Go.ChangeAt Go.RowKit
set_option linter.unusedVariables false

theorem parse_no (s : ByteArray) (w : World) (hn : NmAt w) (hs : ∀ k, k < 17 → nmB k ≠ s) : Calls Tryd.prog 18 #[.string s] w fun e w' => e = .returned (.tuple #[.int .i64 0, .bool false]) ∧ w = w' := by
  refine (parse_any _ w hn).mono ?_
  rintro e w' ⟨⟨k, hk, h, rfl⟩ | ⟨hno, rfl⟩, rfl⟩
  · exact absurd h (hs k hk)
  · exact ⟨rfl, rfl⟩
theorem parse_yes (k : Nat) (hk : k < 17) (w : World) (hn : NmAt w) : Calls Tryd.prog 18 #[.string (nmB k)] w fun e w' => e = .returned (.tuple #[.int .i64 k, .bool true]) ∧ w = w' := by
  refine (parse_any _ w hn).mono ?_
  rintro e w' ⟨⟨j, hj, h, rfl⟩ | ⟨hno, rfl⟩, rfl⟩
  · obtain rfl := nm_inj hj hk h
    exact ⟨rfl, rfl⟩
  · exact absurd rfl (hno k hk)

theorem walk_out (w : World) (c : Int) (s : ByteArray) (hg : EtAt w) (hn : NmAt w) (h : 100 < s.size) :
    Calls Tryd.prog 5 #[.int .i64 c, .string s] w fun e w' => e = .returned (.bool true) ∧ Below w.heap.size w w' := by
  have h1 : (100 : Int) < (s.size : Int) := by omega
  have HG := Lib.hid hg
  have HN := Lib.hid hn
  clear hg hn
  go_enter Tryd.func5, Tryd.ntmps5
  go_wp2_with fail
  refine (awake_any _ HG.out HN.out).mono ?_
  rintro e w1 ⟨rfl, b1⟩
  go_wp2_with fail
  refine (awake_any _ (HG.out.below b1) (HN.out.below b1)).mono ?_
  rintro e w2 ⟨rfl, b2⟩
  go_wp2_with fail
  go_ret
  exact ⟨rfl, b1.trans (b2.mono b1.size)⟩

theorem str_ne {s : ByteArray} (h : s ≠ ⟨#[]⟩) : ¬ s.toList = [] ∧ s.toList.isEmpty = false := by
  have h1 : ¬ s.toList = [] := by
    rw [ByteArray.toList_eq]
    intro e
    exact h (Go.WideShapes.bytes_inj e)
  exact ⟨h1, by cases hq : s.toList with
    | nil => exact absurd hq h1
    | cons a r => rfl⟩

theorem walk_in (w : World) (c : Int) (s : ByteArray) (hg : EtAt w) (hn : NmAt w) (h : s.size ≤ 100) :
    Calls Tryd.prog 5 #[.int .i64 c, .string s] w fun e w' => e = .returned (.bool true) ∧ Below w.heap.size w w' := by
  have d1 : decide ((100 : Int) < (s.size : Int)) = false := by simp; omega
  have HG := Lib.hid hg
  have HN := Lib.hid hn
  clear hg hn
  by_cases hc : 0 ≤ c ∧ c ≤ 16
  · obtain ⟨k, rfl⟩ : ∃ k : Nat, c = (k : Int) := ⟨c.toNat, by omega⟩
    have hk : k < 17 := by omega
    obtain ⟨e1, e2⟩ := str_ne (nm_ne hk)
    clear hc
    by_cases hs : ∃ j, j < 17 ∧ nmB j = s
    · obtain ⟨j, hj, rfl⟩ := hs
      obtain ⟨e3, e4⟩ := str_ne (nm_ne hj)
      go_enter Tryd.func5, Tryd.ntmps5
      go_wp2_with fail
      refine (awake_any _ HG.out HN.out).mono ?_
      rintro e w1 ⟨rfl, b1⟩
      have n1 := Lib.hid (HN.out.below b1)
      go_wp2_with fail
      refine (name_yes k _ n1.out hk).mono ?_
      rintro e w9 ⟨rfl, rfl⟩
      go_wp2_with fail
      refine (parse_yes k hk _ n1.out).mono ?_
      rintro e w9 ⟨rfl, rfl⟩
      go_wp2_with fail
      refine (rname_yes k _ hk).mono ?_
      rintro e w2 ⟨rfl, b2⟩
      have n2 := Lib.hid (n1.out.below b2)
      replace b2 := b1.trans (b2.mono b1.size)
      clear b1 n1
      go_wp2_with fail
      refine (parse_yes j hj _ n2.out).mono ?_
      rintro e w9 ⟨rfl, rfl⟩
      go_wp2_with fail
      refine (rname_yes j _ hj).mono ?_
      rintro e w3 ⟨rfl, b3⟩
      replace b3 := b2.trans (b3.mono b2.size)
      clear b2 n2
      go_wp2_with fail
      go_ret
      exact ⟨rfl, b3⟩
    have hno : ∀ k, k < 17 → nmB k ≠ s := fun k hk he => hs ⟨k, hk, he⟩
    have HS := Lib.hid hno
    have e5 := ne_toList (hno 0 (by omega))
    clear hno hs
    by_cases he : s = ⟨#[]⟩
    · subst he
      go_enter Tryd.func5, Tryd.ntmps5
      go_wp2_with fail
      refine (awake_any _ HG.out HN.out).mono ?_
      rintro e w1 ⟨rfl, b1⟩
      have n1 := Lib.hid (HN.out.below b1)
      go_wp2_with fail
      refine (name_yes k _ n1.out hk).mono ?_
      rintro e w9 ⟨rfl, rfl⟩
      go_wp2_with fail
      refine (parse_yes k hk _ n1.out).mono ?_
      rintro e w9 ⟨rfl, rfl⟩
      go_wp2_with fail
      refine (rname_yes k _ hk).mono ?_
      rintro e w2 ⟨rfl, b2⟩
      have n2 := Lib.hid (n1.out.below b2)
      replace b2 := b1.trans (b2.mono b1.size)
      clear b1 n1
      go_wp2_with fail
      refine (parse_no _ _ n2.out HS.out).mono ?_
      rintro e w9 ⟨rfl, rfl⟩
      go_wp2_with fail
      refine (has_any _ _ HS.out).mono ?_
      rintro e w3 ⟨rfl, b3⟩
      replace b3 := b2.trans (b3.mono b2.size)
      clear b2 n2
      go_wp2_with fail
      go_ret
      exact ⟨rfl, b3⟩
    · obtain ⟨e3, e4⟩ := str_ne he
      clear he
      go_enter Tryd.func5, Tryd.ntmps5
      go_wp2_with fail
      refine (awake_any _ HG.out HN.out).mono ?_
      rintro e w1 ⟨rfl, b1⟩
      have n1 := Lib.hid (HN.out.below b1)
      go_wp2_with fail
      refine (name_yes k _ n1.out hk).mono ?_
      rintro e w9 ⟨rfl, rfl⟩
      go_wp2_with fail
      refine (parse_yes k hk _ n1.out).mono ?_
      rintro e w9 ⟨rfl, rfl⟩
      go_wp2_with fail
      refine (rname_yes k _ hk).mono ?_
      rintro e w2 ⟨rfl, b2⟩
      have n2 := Lib.hid (n1.out.below b2)
      replace b2 := b1.trans (b2.mono b1.size)
      clear b1 n1
      go_wp2_with fail
      refine (parse_no _ _ n2.out HS.out).mono ?_
      rintro e w9 ⟨rfl, rfl⟩
      go_wp2_with fail
      refine (rname_yes 0 _ (by omega)).mono ?_
      rintro e w3 ⟨rfl, b3⟩
      replace b3 := b2.trans (b3.mono b2.size)
      clear b2 n2
      go_wp2_with fail
      refine (has_any _ _ HS.out).mono ?_
      rintro e w4 ⟨rfl, b4⟩
      replace b4 := b3.trans (b4.mono b3.size)
      clear b3
      go_wp2_with fail
      go_ret
      exact ⟨rfl, b4⟩
  · have hc' : c < 0 ∨ 16 < c := by omega
    clear hc
    by_cases hs : ∃ j, j < 17 ∧ nmB j = s
    · obtain ⟨j, hj, rfl⟩ := hs
      obtain ⟨e3, e4⟩ := str_ne (nm_ne hj)
      go_enter Tryd.func5, Tryd.ntmps5
      go_wp2_with fail
      refine (awake_any _ HG.out HN.out).mono ?_
      rintro e w1 ⟨rfl, b1⟩
      have n1 := Lib.hid (HN.out.below b1)
      go_wp2_with fail
      refine (name_no c _ (by omega)).mono ?_
      rintro e w9 ⟨rfl, rfl⟩
      go_wp2_with fail
      refine (parse_no _ _ n1.out fun k hk => nm_ne hk).mono ?_
      rintro e w9 ⟨rfl, rfl⟩
      go_wp2_with fail
      refine (rname_no c _ (by omega)).mono ?_
      rintro e w2 ⟨rfl, b2⟩
      have n2 := Lib.hid (n1.out.below b2)
      replace b2 := b1.trans (b2.mono b1.size)
      clear b1 n1
      go_wp2_with fail
      refine (parse_yes j hj _ n2.out).mono ?_
      rintro e w9 ⟨rfl, rfl⟩
      go_wp2_with fail
      refine (rname_yes j _ hj).mono ?_
      rintro e w3 ⟨rfl, b3⟩
      replace b3 := b2.trans (b3.mono b2.size)
      clear b2 n2
      go_wp2_with fail
      go_ret
      exact ⟨rfl, b3⟩
    have hno : ∀ k, k < 17 → nmB k ≠ s := fun k hk he => hs ⟨k, hk, he⟩
    have HS := Lib.hid hno
    have e5 := ne_toList (hno 0 (by omega))
    clear hno hs
    by_cases he : s = ⟨#[]⟩
    · subst he
      go_enter Tryd.func5, Tryd.ntmps5
      go_wp2_with fail
      refine (awake_any _ HG.out HN.out).mono ?_
      rintro e w1 ⟨rfl, b1⟩
      have n1 := Lib.hid (HN.out.below b1)
      go_wp2_with fail
      refine (name_no c _ (by omega)).mono ?_
      rintro e w9 ⟨rfl, rfl⟩
      go_wp2_with fail
      refine (parse_no _ _ n1.out fun k hk => nm_ne hk).mono ?_
      rintro e w9 ⟨rfl, rfl⟩
      go_wp2_with fail
      refine (rname_no c _ (by omega)).mono ?_
      rintro e w2 ⟨rfl, b2⟩
      have n2 := Lib.hid (n1.out.below b2)
      replace b2 := b1.trans (b2.mono b1.size)
      clear b1 n1
      go_wp2_with fail
      refine (parse_no _ _ n2.out HS.out).mono ?_
      rintro e w9 ⟨rfl, rfl⟩
      go_wp2_with fail
      refine (has_any _ _ HS.out).mono ?_
      rintro e w3 ⟨rfl, b3⟩
      replace b3 := b2.trans (b3.mono b2.size)
      clear b2 n2
      go_wp2_with fail
      go_ret
      exact ⟨rfl, b3⟩
    · obtain ⟨e3, e4⟩ := str_ne he
      clear he
      go_enter Tryd.func5, Tryd.ntmps5
      go_wp2_with fail
      refine (awake_any _ HG.out HN.out).mono ?_
      rintro e w1 ⟨rfl, b1⟩
      have n1 := Lib.hid (HN.out.below b1)
      go_wp2_with fail
      refine (name_no c _ (by omega)).mono ?_
      rintro e w9 ⟨rfl, rfl⟩
      go_wp2_with fail
      refine (parse_no _ _ n1.out fun k hk => nm_ne hk).mono ?_
      rintro e w9 ⟨rfl, rfl⟩
      go_wp2_with fail
      refine (rname_no c _ (by omega)).mono ?_
      rintro e w2 ⟨rfl, b2⟩
      have n2 := Lib.hid (n1.out.below b2)
      replace b2 := b1.trans (b2.mono b1.size)
      clear b1 n1
      go_wp2_with fail
      refine (parse_no _ _ n2.out HS.out).mono ?_
      rintro e w9 ⟨rfl, rfl⟩
      go_wp2_with fail
      refine (rname_yes 0 _ (by omega)).mono ?_
      rintro e w3 ⟨rfl, b3⟩
      replace b3 := b2.trans (b3.mono b2.size)
      clear b2 n2
      go_wp2_with fail
      refine (has_any _ _ HS.out).mono ?_
      rintro e w4 ⟨rfl, b4⟩
      replace b4 := b3.trans (b4.mono b3.size)
      clear b3
      go_wp2_with fail
      go_ret
      exact ⟨rfl, b4⟩

theorem walk_all (w : World) (c : Int) (s : ByteArray) (hg : EtAt w) (hn : NmAt w) :
    Calls Tryd.prog 5 #[.int .i64 c, .string s] w fun e w' => e = .returned (.bool true) ∧ Below w.heap.size w w' := by
  by_cases h : 100 < s.size
  · exact walk_out w c s hg hn h
  · exact walk_in w c s hg hn (by omega)

set_option maxRecDepth 100000 in
theorem lifted (os : Os) (started : os.Started) (H : Type) (enc : TypeId × Value → H) :
    ReturnsInHanded {} Tryd.checked os 5 .any (fun w args => (Rows.faultNamesSpec.pre enc Tryd.prog Tryd.f5 [] false w args ∧ laidMetH Tryd.prog laidL w) ∧ sizedMet enc Tryd.prog Tryd.f5 (OpenSpec.ofChange Rows.faultNamesSpec) false w args)
      (Rows.faultNamesSpec.post enc Tryd.prog Tryd.f5 false true false false) := by
  refine returnsInHanded_of_change_and (C := Tryd.checked) (X := fun w _ => laidMetH Tryd.prog laidL w) (fun _ _ _ hh h => h.of_heap hh) own_knob started (by kernel_rfl) Tryd.func5
    (ChangeSpec.witness_at (enc := enc) (C := Tryd.checked) (os := os) (X := fun w _ => laidMetH Tryd.prog laidL w) false (laidWorld os) #[.int .i64 0, .string ⟨#[]⟩] 8 rfl (by kernel_rfl) (by kernel_rfl) (by kernel_rfl) (by kernel_rfl) (by kernel_rfl) (laidWorld_met os _)) ?_
  intro W base args ds gs before hval0 hW _ _ hL _
  have hval : ∀ (j : Nat) t v, Tryd.f5.params[j]? = some t → args[j]? = some v → Value.okWide Tryd.prog W .any base t v := hval0
  have hW' := hW
  obtain ⟨p, q, hA0, hV, rfl, hfz, hnd⟩ := hW
  have hA : DataW.TrodAll enc Tryd.prog W 0 (fun _ => true) true Tryd.f5.params.toList args.toList ds p := hA0
  rw [Tryd.params5] at hA hval
  obtain ⟨v0, v1, d0, d1, p0, p1, rfl, rfl, rfl, h0, h1⟩ := trodAll_two hA
  obtain ⟨rfl, rfl⟩ := trodVars_none hV
  have hvl0 := hval 0 3 v0 rfl rfl
  have hvl1 := hval 1 9 v1 rfl rfl
  obtain ⟨c, rfl, rfl, rfl, w0⟩ := open_int Tryd.underlying3 hvl0 h0
  obtain ⟨s, rfl, rfl, rfl, hs⟩ := Go.ChangeMaps.open_string Tryd.underlying9 hvl1 h1
  clear hA0 hval0
  refine (walk_all W c s (et_of_laid hL) (nm_of_laid hL)).mono fun e W' ⟨he, bel⟩ => ?_
  subst he
  exact ⟨_, rfl, _, _, _, [], _, [], hW', trodAll_mk1 (shut_bool Tryd.underlying4 _), trodAll_mk2 (shut_int Tryd.underlying3 w0) (Go.ChangeMaps.shut_string Tryd.underlying9 hs), rfl, bel.frame _, fun h => by cases h⟩

theorem over : Rows.faultNamesRow.holds Tryd.pinned (OpenSpec.ofChange Rows.faultNamesSpec) :=
  OpenClaim.holds_of_wide 5 Tryd.f5 rfl rfl rfl rfl rfl rfl rfl ⟨rfl, rfl, rfl, rfl, rfl⟩ rfl rfl rfl rfl rfl (by kernel_rfl) Tryd.func5 (by kernel_rfl)
    (of_decide_eq_true (by kernel_rfl)) (by unfold Func.isWrapper; first | (rw [if_pos (by decide +kernel)]; kernel_rfl) | (rw [if_neg (by decide +kernel)]; exact ⟨rfl, rfl⟩))
    (fun os started H enc _ => lifted os started H enc)

/-- The statement: the tied card. -/
theorem proved : Rows.FaultNamesCardSaid :=
  Claim7.holds_tied_plain_at .later [] _ true _ true over (fun _ h => by cases h) (by kernel_rfl) (fun _ h => by cases h) faultNames_row_tie rfl ⟨rfl, rfl⟩ (by kernel_rfl) rfl
    (fun f fn hf hfn => by
      obtain rfl : f = 5 := Option.some.inj ((show Tryd.prog.funcNamed "toll/tolllaw02.FaultNames" = some 5 by kernel_rfl).symm.trans hf) |>.symm
      obtain rfl : fn = Tryd.f5 := (Option.some.inj (Tryd.func5.symm.trans hfn)).symm
      exact ⟨by kernel_rfl, fun j t ht => by
        rw [Tryd.params5] at ht
        have hm : t ∈ [3, 9] := by simpa using Array.mem_of_getElem? ht
        have hall : ([3, 9].all fun u => !Tryd.prog.wantsStandIn u) = true := by kernel_rfl
        exact (show Tryd.prog.wantsStandIn t = false by simpa using List.all_eq_true.1 hall t hm)⟩)
    (by kernel_rfl)
#print axioms proved
end Go.Proofs.YtdbkpmllhdbfbaaDoor.faultNames
