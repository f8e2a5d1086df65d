/-
  The fixed examples that every statement of layer 2 checks first are met.
-/
import Derived.Test.YtfecccobihdopaaDoorTexts
import Derived.Test.YtfecccobihdopaaDoorFirst
namespace Go.Proofs.YtfecccobihdopaaDoor
open Go.RowKit
set_option linter.unusedVariables false

set_option maxRecDepth 100000 in
theorem small13 (w : World) : Calls Tryd.prog 47 #[.int .i64 13] w fun e w' => e = .returned (.string ⟨#[49, 51]⟩) ∧ w = w' := by
  go_enter Tryd.func47, Tryd.ntmps47
  go_wp2
  go_ret
  exact ⟨rfl, rfl⟩
theorem formatInt13 (w : World) : Calls Tryd.prog 46 #[.int .i64 13, .int .i64 10] w fun e w' => e = .returned (.string ⟨#[49, 51]⟩) ∧ w = w' := by
  go_enter Tryd.func46, Tryd.ntmps46
  go_wp2_with (go_at_call 47; refine (small13 _).mono ?_; rintro e9 w9 ⟨rfl, rfl⟩)
  go_ret
  exact ⟨rfl, rfl⟩
theorem iitoa13 (w : World) : Calls Tryd.prog 45 #[.int .i64 13] w fun e w' => e = .returned (.string ⟨#[49, 51]⟩) ∧ w = w' := by
  go_enter Tryd.func45, Tryd.ntmps45
  go_wp2_with (go_at_call 46; refine (formatInt13 _).mono ?_; rintro e9 w9 ⟨rfl, rfl⟩)
  go_ret
  exact ⟨rfl, rfl⟩
theorem itoa13 (w : World) : Calls Tryd.prog 44 #[.int .i64 13] w fun e w' => e = .returned (.string ⟨#[49, 51]⟩) ∧ w = w' := by
  go_enter Tryd.func44, Tryd.ntmps44
  go_wp2_with (go_at_call 45; refine (iitoa13 _).mono ?_; rintro e9 w9 ⟨rfl, rfl⟩)
  go_ret
  exact ⟨rfl, rfl⟩
def txt13 : ByteArray := ⟨#[101, 114, 114, 111, 114, 32, 49, 51]⟩
theorem codeText13 : CodeText (fun _ => True) 13 txt13 where
  keep := fun _ _ _ _ => trivial
  calls := fun w _ => by
    go_enter Tryd.func43, Tryd.ntmps43
    go_wp2_with (go_at_call 44; refine (itoa13 _).mono ?_; rintro e9 w9 ⟨rfl, rfl⟩)
    go_ret
    exact ⟨rfl, Below.refl _ _⟩

def disk : ByteArray := ⟨#[100, 105, 115, 107]⟩
def exErr : Err := .part disk (.fault 13 7)
theorem awake_text (v : Value) (b : Nat) (w : World) (hv : ErrAt w (.iface 46 (.pointer (some ⟨b, 0, none⟩))) exErr) : Calls Tryd.prog 60 #[.pointer (some ⟨b, 0, none⟩)] w fun e w' =>
    e = .returned (.string ⟨#[100, 105, 115, 107, 58, 32, 101, 114, 114, 111, 114, 32, 49, 51]⟩) ∧ Below w.heap.size w w' := by
  have := text_any codeText13 exErr _ w rfl (by decide) hv trivial
  exact this
theorem parse_skew (w : World) (hn : NmAt w) : Calls Tryd.prog 12 #[.string ⟨#[83, 75, 69, 87]⟩] w fun e w' => e = .returned (.tuple #[.int .i64 6, .bool true]) ∧ w = w' := by
  refine (parse_any _ w hn).mono ?_
  rintro e w' ⟨⟨k, hk, hs, rfl⟩ | ⟨hno, _⟩, rfl⟩
  · obtain rfl : k = 6 := nm_inj hk (by omega) (hs.trans rfl)
    exact ⟨rfl, rfl⟩
  · exact absurd rfl (hno 6 (by omega))
theorem name_skew (w : World) (hn : NmAt w) : Calls Tryd.prog 15 #[.int .i64 6] w fun e w' => e = .returned (.string ⟨#[83, 75, 69, 87]⟩) ∧ w = w' :=
  (name_yes 6 w hn (by omega)).mono fun e w' h => h

/-- What the law's examples make: an error's value that is a part. -/
theorem in_part (s : ByteArray) (er : Err) (v : Value) (w : World) (hv : ErrAt w v er) : Calls Tryd.prog 7 #[.string s, v] w fun e w' => ∃ b, e = .returned (.iface 46 (.pointer (some ⟨b, 0, none⟩))) ∧ ErrAt w' (.iface 46 (.pointer (some ⟨b, 0, none⟩))) (.part s er) ∧ Below w.heap.size w w' := by
  refine (in_any s er v w hv).mono ?_
  rintro e w' ⟨⟨v', rfl, h⟩, hb⟩
  obtain ⟨b, u, rfl, h1, h2⟩ := h
  exact ⟨b, rfl, ⟨b, u, rfl, h1, h2⟩, hb⟩

set_option maxHeartbeats 2000000 in
theorem awake_any (w : World) (hg : EtAt w) (hn : NmAt w) : Calls Tryd.prog 4 #[] w fun e w' => e = .returned (.bool true) ∧ Below w.heap.size w w' := by
  have HG := Lib.hid hg
  have HN := Lib.hid hn
  have mP := methodErrP
  clear hg hn
  go_enter Tryd.func4, Tryd.ntmps4
  go_wp2_with fail
  refine (new_any 13 7 _).mono ?_
  rintro e9 w9 ⟨⟨v, rfl, hv⟩, rfl⟩
  go_wp2_with fail
  refine (in_part disk _ v _ hv).mono ?_
  rintro e9 w1 ⟨b, rfl, hp, b1⟩
  have HP := Lib.hid hp
  clear hv hp
  have g1 := Lib.hid (HG.out.below b1)
  have n1 := Lib.hid (HN.out.below b1)
  go_wp2_with fail
  refine (place_any _ _ _ g1.out HP.out).mono ?_
  rintro e9 w2 ⟨rfl, b2⟩
  have HP2 := Lib.hid (HP.out.below b2)
  have g2 := Lib.hid (g1.out.below b2)
  have n2 := Lib.hid (n1.out.below b2)
  replace b2 := b1.trans (b2.mono b1.size)
  clear g1 n1 HP b1
  simp only [Err.placeOf, placeV]
  go_wp2_with fail
  refine (parse_skew _ n2.out).mono ?_
  rintro e9 w9 ⟨rfl, rfl⟩
  go_wp2_with fail
  refine (awake_text (.bool true) b _ HP2.out).mono ?_
  rintro e9 w3 ⟨rfl, b3⟩
  have HP3 := Lib.hid (HP2.out.below b3)
  have g3 := Lib.hid (g2.out.below b3)
  have n3 := Lib.hid (n2.out.below b3)
  replace b3 := b2.trans (b3.mono b2.size)
  clear g2 n2 HP2 b2
  go_wp2_with fail
  refine (code_any _ _ _ g3.out HP3.out).mono ?_
  rintro e9 w4 ⟨rfl, b4⟩
  have n4 := Lib.hid (n3.out.below b4)
  replace b4 := b3.trans (b4.mono b3.size)
  clear g3 n3 HP3 b3
  simp only [Err.codeOf]
  go_wp2_with fail
  have f1 : firstL [8, 6] = 6 := by decide
  have b5 := b4.alloc b4.size (.cells #[.int .i64 8, .int .i64 6] 34)
  have n5 := Lib.hid (n4.out.alloc (.cells #[.int .i64 8, .int .i64 6] 34))
  have B5 := Lib.hid b5
  clear n4 b4 b5
  refine (first_any _ w4.heap.size _ 2 2 [8, 6] rfl (memI_lit rfl) (by simp)).mono ?_
  rw [f1]
  clear f1
  rintro e9 w9 ⟨rfl, rfl⟩
  go_wp2_with fail
  refine (first_any _ 0 none 0 0 [] rfl (.inl rfl) (by simp)).mono ?_
  have f1 : firstL [] = 10 := rfl
  rw [f1]
  clear f1
  rintro e9 w9 ⟨rfl, rfl⟩
  go_wp2_with fail
  refine (name_skew _ n5.out).mono ?_
  rintro e9 w9 ⟨rfl, rfl⟩
  go_wp2_with fail
  refine (in_nil ⟨#[120]⟩ _).mono ?_
  rintro e9 w9 ⟨rfl, rfl⟩
  go_wp2_with fail
  refine (code_nil _).mono ?_
  rintro e9 w6 ⟨rfl, b6⟩
  go_wp2_with fail
  go_ret
  exact ⟨rfl, B5.out.trans (b6.mono B5.out.size)⟩

end Go.Proofs.YtfecccobihdopaaDoor
