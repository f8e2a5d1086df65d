/-
  What an argument reads as: a byte, a number of 16 bits, an array of bytes; and that a law which writes nothing old hands its arguments back as they were.
-/
import Derived.Test.YtcjbplgjjhenkaaDoorSm4
import Derived.Test.YtcjbplgjjhenkaaDoorSm6
import Derived.ProofKit
import Derived.OpenShut
import Derived.ShutString
import Derived.ChangeOld
namespace Go.Proofs.YtcjbplgjjhenkaaDoor
open Go.ChangeShapes Go.WideShapes Go.ChangeAt Go.RowKit
set_option linter.unusedVariables false

theorem own_knob : ownKnob Tryd.prog.godebug = none := by kernel_rfl
theorem laid_out : laidOutB Tryd.prog = true := by kernel_rfl
theorem keep_arg {H : Type} {enc : TypeId × Value → H} {t : TypeId} (hr : Tryd.prog.readableRec t = true) (hrow : t < Tryd.prog.types.size) {W W' : World} {v : Value} {d : DataW H} {ps : List MemPlace}
    (h : DataW.Trod enc Tryd.prog W 0 (fun _ => true) true t v d ps) (hb : Below W.heap.size W W') :
    DataW.Trod enc Tryd.prog W' 0 (fun b => decide (b < W.heap.size)) true t v d ps :=
  Below.trod laid_out hr hrow h hb (by obtain ⟨m, hm⟩ := h; exact DataW.trod_lt m _ _ _ hm)
theorem byte_of_lit {z : Int} (h : (Lit.int .u8 z).wf = true) : ∃ b : UInt8, z = (b.toNat : Int) := by
  have h1 : IntKind.u8.min ≤ z ∧ z ≤ IntKind.u8.max := by simpa [Lit.wf] using h
  have h2 : 0 ≤ z ∧ z ≤ 255 := h1
  refine ⟨UInt8.ofNat z.toNat, ?_⟩
  rw [UInt8.toNat_ofNat']
  omega
theorem bounds_i16 {z : Int} (h : (Lit.int .i16 z).wf = true) : -32768 ≤ z ∧ z ≤ 32767 := by
  have h1 : IntKind.i16.min ≤ z ∧ z ≤ IntKind.i16.max := by simpa [Lit.wf] using h
  exact h1
theorem bounds_u64 {z : Int} (h : (Lit.int .u64 z).wf = true) : 0 ≤ z ∧ z < 18446744073709551616 := by
  have h1 : IntKind.u64.min ≤ z ∧ z ≤ IntKind.u64.max := by simpa [Lit.wf] using h
  have h2 : 0 ≤ z ∧ z ≤ 18446744073709551615 := h1
  omega
theorem bytes_of_arr (n : Nat) (f : Nat → Int) (h : ∀ i, i < n → (Lit.int .u8 (f i)).wf = true) : ∃ a : Nat → UInt8, (gA n fun i => .int .u8 (f i)) = bA n a := by
  refine ⟨fun i => UInt8.ofNat (f i).toNat, gA_ext fun i hi => ?_⟩
  obtain ⟨b, hb⟩ := byte_of_lit (h i hi)
  show Value.int .u8 (f i) = bv (UInt8.ofNat (f i).toNat)
  rw [hb, show ((b.toNat : Int)).toNat = b.toNat by omega, UInt8.ofNat_toNat]
  rfl
theorem zero_num (a : UInt8) (h : a ≠ 0) : (a.toNat : Int) ≠ 0 := by
  intro e
  exact h (UInt8.toNat_inj.1 (by show a.toNat = 0; omega))
end Go.Proofs.YtcjbplgjjhenkaaDoor
