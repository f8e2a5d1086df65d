/-
  The text of a code, whatever the library's table of powers of ten holds: some text, the same in every world with that table.
-/
import Derived.Test.YtfecccobihdopaaDoorItoaB
import Derived.Test.YtfecccobihdopaaDoorTexts
namespace Go.Proofs.YtfecccobihdopaaDoor
open Go.RowKit
set_option linter.unusedVariables false

def errW : ByteArray := ⟨#[101, 114, 114, 111, 114, 32]⟩
theorem code_text (T : Nat → Int) (c : Int) (h0 : -9223372036854775808 ≤ c) (h1 : c ≤ 9223372036854775807) : ∃ t : ByteArray, t.size ≤ 27 ∧ CodeText (TabAt T) c t := by
  obtain ⟨t, ht, hc⟩ := itoa_ex T c h0 h1
  refine ⟨errW ++ t, ?_, fun w w' h hb => h.below hb, fun w htab => ?_⟩
  · rw [ByteArray.size_append']
    have : errW.size = 6 := rfl
    omega
  · have HC := Lib.hid (hc w htab)
    have n1 : ¬ (9223372036854775807 < 6 + t.size) := by omega
    clear hc htab ht
    go_enter Tryd.func43, Tryd.ntmps43
    go_wp2_with fail
    refine HC.out.mono ?_
    rintro e9 w9 ⟨rfl, hb⟩
    go_wp2_with fail
    go_ret
    exact ⟨rfl, hb⟩
end Go.Proofs.YtfecccobihdopaaDoor
