/-
  No cell of these rows narrows 'for every input' (looked for: loops, veiled, ifaces, maps, wideKeys, modest, calm, conditions, laid).
  DERIVED. THE GIVEN ROWS OF THIS SEAT. 5 by the template 'for every input the law returns true; each argument reads behind the call as it read before'; 0 by the template 'total and deterministic' (their statements: YtapdcgfkmkkjaaaTotals.lean).
  GIVEN WITH THE SEED: the statements are not yours to turn. If you find one false, say at which input.
  Laid BY PROGRAM, IN A SANDBOX (cutbox-rows.mjs): the forced cells as the released guide's own fill.sh prints them over the translation 403bb40d513b233d… (all of the seat's roots in one cut). By AI agents, Wed Nov 11 2026. No macro, syntax, notation, axiom, sorry.
-/
import Derived.Test.YtapdcgfkmkkjaaaChecked
import GoSem.Claim
import GoSem.ClaimJoined
import GoSem.ClaimMapViews
import Derived.JoinedTies
import Derived.KernelRfl
namespace Go.Proofs.Ytapdcgfkmkkjaaa
/- THE CELL 'sum', in the pinned program and in every row, IS THE sha256 OF THE DUMP (.gsa) THAT YtapdcgfkmkkjaaaProg.lean LOADS. Nothing in Lean hashes anything: it is a label: what it is worth is what the hold of that sum in a sandbox is worth. -/
noncomputable def Try.pinned : Pinned := { name := "ytapdcgfkmkkjaaa", sum := "403bb40d513b233d43ff4bb01e65d7e632b475ccb35b21879c9b740cc3dde950", checked := Try.checked }
namespace Rows
def none {H : Type} : Left H := { results := [], args := [] }

/-- 'tolllaw07.AesMatchesReference': WHATEVER THE INPUT: true; the input reads as it did. -/
def aesMatchesReferenceSpec : ChangeSpec := { name := "aesMatchesReference", fn := fun _ => fun
  | [d1, d2] => { results := [.lit (.bool true)], args := [d1, d2] }
  | _ => none }
def aesMatchesReferenceRow : OpenClaim := { program := "ytapdcgfkmkkjaaa", sum := "403bb40d513b233d43ff4bb01e65d7e632b475ccb35b21879c9b740cc3dde950", func := "toll/tolllaw07.AesMatchesReference", spec := "aesMatchesReference", unfollowed := true, recurses := true, apart := false }
def AesMatchesReferenceSaid : Prop := aesMatchesReferenceRow.holds Try.pinned (OpenSpec.ofChange aesMatchesReferenceSpec)

/-- ITS FALSE NEIGHBOUR: 'it returns false'. Refute it at one input. -/
def aesMatchesReferenceWrong : ChangeSpec := { name := "aesMatchesReference", fn := fun _ => fun
  | [d1, d2] => { results := [.lit (.bool false)], args := [d1, d2] }
  | _ => none }
def AesMatchesReferenceWrongFalsely : Prop := aesMatchesReferenceRow.holds Try.pinned (OpenSpec.ofChange aesMatchesReferenceWrong)

/-- 'tolllaw07.AesInverse': WHATEVER THE INPUT: true; the input reads as it did. -/
def aesInverseSpec : ChangeSpec := { name := "aesInverse", fn := fun _ => fun
  | [d1, d2] => { results := [.lit (.bool true)], args := [d1, d2] }
  | _ => none }
def aesInverseRow : OpenClaim := { program := "ytapdcgfkmkkjaaa", sum := "403bb40d513b233d43ff4bb01e65d7e632b475ccb35b21879c9b740cc3dde950", func := "toll/tolllaw07.AesInverse", spec := "aesInverse", unfollowed := true, recurses := true, apart := false }
def AesInverseSaid : Prop := aesInverseRow.holds Try.pinned (OpenSpec.ofChange aesInverseSpec)

/-- ITS FALSE NEIGHBOUR: 'it returns false'. Refute it at one input. -/
def aesInverseWrong : ChangeSpec := { name := "aesInverse", fn := fun _ => fun
  | [d1, d2] => { results := [.lit (.bool false)], args := [d1, d2] }
  | _ => none }
def AesInverseWrongFalsely : Prop := aesInverseRow.holds Try.pinned (OpenSpec.ofChange aesInverseWrong)

/-- 'tolllaw07.AesKeys': WHATEVER THE INPUT: true; the input reads as it did. -/
def aesKeysSpec : ChangeSpec := { name := "aesKeys", fn := fun _ => fun
  | [d1, d2] => { results := [.lit (.bool true)], args := [d1, d2] }
  | _ => none }
def aesKeysRow : OpenClaim := { program := "ytapdcgfkmkkjaaa", sum := "403bb40d513b233d43ff4bb01e65d7e632b475ccb35b21879c9b740cc3dde950", func := "toll/tolllaw07.AesKeys", spec := "aesKeys", unfollowed := true, recurses := true, apart := false }
def AesKeysSaid : Prop := aesKeysRow.holds Try.pinned (OpenSpec.ofChange aesKeysSpec)

/-- ITS FALSE NEIGHBOUR: 'it returns false'. Refute it at one input. -/
def aesKeysWrong : ChangeSpec := { name := "aesKeys", fn := fun _ => fun
  | [d1, d2] => { results := [.lit (.bool false)], args := [d1, d2] }
  | _ => none }
def AesKeysWrongFalsely : Prop := aesKeysRow.holds Try.pinned (OpenSpec.ofChange aesKeysWrong)

/-- 'tolllaw07.AesRounds': WHATEVER THE INPUT: true; the input reads as it did. -/
def aesRoundsSpec : ChangeSpec := { name := "aesRounds", fn := fun _ => fun
  | [d1, d2, d3, d4] => { results := [.lit (.bool true)], args := [d1, d2, d3, d4] }
  | _ => none }
def aesRoundsRow : OpenClaim := { program := "ytapdcgfkmkkjaaa", sum := "403bb40d513b233d43ff4bb01e65d7e632b475ccb35b21879c9b740cc3dde950", func := "toll/tolllaw07.AesRounds", spec := "aesRounds", unfollowed := true, recurses := true, apart := false }
def AesRoundsSaid : Prop := aesRoundsRow.holds Try.pinned (OpenSpec.ofChange aesRoundsSpec)

/-- ITS FALSE NEIGHBOUR: 'it returns false'. Refute it at one input. -/
def aesRoundsWrong : ChangeSpec := { name := "aesRounds", fn := fun _ => fun
  | [d1, d2, d3, d4] => { results := [.lit (.bool false)], args := [d1, d2, d3, d4] }
  | _ => none }
def AesRoundsWrongFalsely : Prop := aesRoundsRow.holds Try.pinned (OpenSpec.ofChange aesRoundsWrong)

/-- 'tolllaw07.AesApart': WHATEVER THE INPUT: true; the input reads as it did. -/
def aesApartSpec : ChangeSpec := { name := "aesApart", fn := fun _ => fun
  | [d1, d2, d3] => { results := [.lit (.bool true)], args := [d1, d2, d3] }
  | _ => none }
def aesApartRow : OpenClaim := { program := "ytapdcgfkmkkjaaa", sum := "403bb40d513b233d43ff4bb01e65d7e632b475ccb35b21879c9b740cc3dde950", func := "toll/tolllaw07.AesApart", spec := "aesApart", unfollowed := true, recurses := true, apart := false }
def AesApartSaid : Prop := aesApartRow.holds Try.pinned (OpenSpec.ofChange aesApartSpec)

/-- ITS FALSE NEIGHBOUR: 'it returns false'. Refute it at one input. -/
def aesApartWrong : ChangeSpec := { name := "aesApart", fn := fun _ => fun
  | [d1, d2, d3] => { results := [.lit (.bool false)], args := [d1, d2, d3] }
  | _ => none }
def AesApartWrongFalsely : Prop := aesApartRow.holds Try.pinned (OpenSpec.ofChange aesApartWrong)

/- THE SECOND FORM. 'bulk': how many values and letters a reading holds, each counted each time it is reached (what is shared counts as often as it is met; a slice's spare places count too). A statement '..UptoSaid' is the law's where the arguments, and the package variables that the reading takes, are together of bulk at most 1048576: NARROWER than '..Said'. Prove '..Said' where nothing that the law and all that it calls make is longer than what came in: it says more and counts as full. Else prove '..UptoSaid'. A law counts once. -/
mutual
def uptoBulk {H : Type} : DataW H → Nat
  | .lit (.string bytes) => bytes.length + 1
  | .lit _ => 1
  | .nil => 1
  | .ptr d => uptoBulk d + 1
  | .slice elems spare => uptoBulkAll elems + uptoBulkAll spare + 1
  | .agg parts => uptoBulkAll parts + 1
  | .iface _ d => uptoBulk d + 1
  | .map entries => uptoBulkEntries entries + 1
  | .held _ => 1
def uptoBulkAll {H : Type} : List (DataW H) → Nat
  | [] => 0
  | d :: r => uptoBulk d + uptoBulkAll r
def uptoBulkEntries {H : Type} : List (Lit × DataW H) → Nat
  | [] => 0
  | x :: r => uptoBulkEntry x + uptoBulkEntries r
def uptoBulkEntry {H : Type} : Lit × DataW H → Nat
  | (.string bytes, d) => bytes.length + uptoBulk d + 1
  | (_, d) => uptoBulk d + 1
 end
def uptoSmall : (H : Type) → List (DataW H) → Bool := fun _ ds => decide (uptoBulkAll ds ≤ 1048576)
def OpenSpec.upto (s : _root_.Go.ChangeSpec) : _root_.Go.OpenSpec := { _root_.Go.OpenSpec.ofChange s with cond := some uptoSmall }

/-- 'tolllaw07.AesMatchesReference', WHERE WHAT IT READS IS OF BULK AT MOST 1048576: true; the input reads as it did. -/
def aesMatchesReferenceUptoRow : OpenClaim := { program := "ytapdcgfkmkkjaaa", sum := "403bb40d513b233d43ff4bb01e65d7e632b475ccb35b21879c9b740cc3dde950", func := "toll/tolllaw07.AesMatchesReference", spec := "aesMatchesReference", unfollowed := true, recurses := true, apart := false, narrowed := true }
def AesMatchesReferenceUptoSaid : Prop := aesMatchesReferenceUptoRow.holds Try.pinned (OpenSpec.upto aesMatchesReferenceSpec)

/-- 'tolllaw07.AesInverse', WHERE WHAT IT READS IS OF BULK AT MOST 1048576: true; the input reads as it did. -/
def aesInverseUptoRow : OpenClaim := { program := "ytapdcgfkmkkjaaa", sum := "403bb40d513b233d43ff4bb01e65d7e632b475ccb35b21879c9b740cc3dde950", func := "toll/tolllaw07.AesInverse", spec := "aesInverse", unfollowed := true, recurses := true, apart := false, narrowed := true }
def AesInverseUptoSaid : Prop := aesInverseUptoRow.holds Try.pinned (OpenSpec.upto aesInverseSpec)

/-- 'tolllaw07.AesKeys', WHERE WHAT IT READS IS OF BULK AT MOST 1048576: true; the input reads as it did. -/
def aesKeysUptoRow : OpenClaim := { program := "ytapdcgfkmkkjaaa", sum := "403bb40d513b233d43ff4bb01e65d7e632b475ccb35b21879c9b740cc3dde950", func := "toll/tolllaw07.AesKeys", spec := "aesKeys", unfollowed := true, recurses := true, apart := false, narrowed := true }
def AesKeysUptoSaid : Prop := aesKeysUptoRow.holds Try.pinned (OpenSpec.upto aesKeysSpec)

/-- 'tolllaw07.AesRounds', WHERE WHAT IT READS IS OF BULK AT MOST 1048576: true; the input reads as it did. -/
def aesRoundsUptoRow : OpenClaim := { program := "ytapdcgfkmkkjaaa", sum := "403bb40d513b233d43ff4bb01e65d7e632b475ccb35b21879c9b740cc3dde950", func := "toll/tolllaw07.AesRounds", spec := "aesRounds", unfollowed := true, recurses := true, apart := false, narrowed := true }
def AesRoundsUptoSaid : Prop := aesRoundsUptoRow.holds Try.pinned (OpenSpec.upto aesRoundsSpec)

/-- 'tolllaw07.AesApart', WHERE WHAT IT READS IS OF BULK AT MOST 1048576: true; the input reads as it did. -/
def aesApartUptoRow : OpenClaim := { program := "ytapdcgfkmkkjaaa", sum := "403bb40d513b233d43ff4bb01e65d7e632b475ccb35b21879c9b740cc3dde950", func := "toll/tolllaw07.AesApart", spec := "aesApart", unfollowed := true, recurses := true, apart := false, narrowed := true }
def AesApartUptoSaid : Prop := aesApartUptoRow.holds Try.pinned (OpenSpec.upto aesApartSpec)

end Rows
end Go.Proofs.Ytapdcgfkmkkjaaa
