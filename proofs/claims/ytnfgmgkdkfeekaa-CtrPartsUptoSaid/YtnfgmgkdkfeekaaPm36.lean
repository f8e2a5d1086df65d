/-
  What the laws of layer 8 share: the reference's Stream for any numbers; nonces compared.
-/
import Derived.Test.YtnfgmgkdkfeekaaPm33
import Derived.Test.YtnfgmgkdkfeekaaPm35
import Derived.Test.YtnfgmgkdkfeekaaPm22
import Derived.Test.YtnfgmgkdkfeekaaPm6
import Derived.Deep.Cut
namespace Go.Proofs.Ytnfgmgkdkfeekaa
open Go.RowKit
set_option linter.unusedVariables false
set_option linter.unusedSimpArgs false

theorem sStream_out (f : Nat → UInt8) (a n : Int) (h : ¬ (0 ≤ a ∧ a ≤ 1099511627776 ∧ 0 ≤ n ∧ n ≤ 1048576)) : sStream f a n = [] := if_neg h
theorem rcstream_any (w : World) (key nonce : Nat → UInt8) (a n : Int) : Calls Try.prog 11 #[.agg (bA 16 key), .agg (bA 8 nonce), .int .i64 a, .int .i64 n] w fun e w' => ∃ v, e = .returned v ∧ Own w' w.heap.size v (sStream (cStr key nonce) a n) ∧ Below w.heap.size w w' := by
  by_cases h : 0 ≤ a ∧ a ≤ 1099511627776 ∧ 0 ≤ n ∧ n ≤ 1048576
  · obtain ⟨a', rfl⟩ := Int.eq_ofNat_of_zero_le h.1
    obtain ⟨n', rfl⟩ := Int.eq_ofNat_of_zero_le h.2.2.1
    rw [sStream_in _ a' n' (by omega) (by omega)]
    exact rcstream_in w key nonce a' n' (by omega) (by omega)
  · rw [sStream_out _ _ _ h]
    exact (rcstream_out w key nonce a n h).mono fun e w' ⟨he, hb⟩ => ⟨_, he, Own.nil_ _ _, hb⟩
def eq8 (f g : Nat → UInt8) : Bool := (List.range 8).all fun i => ((f i).toNat : Int) == ((g i).toNat : Int)
theorem eq8_iff (f g : Nat → UInt8) : eq8 f g = true ↔ Eq8 f g := by
  unfold eq8 Eq8
  rw [List.all_eq_true]
  constructor
  · intro h j hj
    have := h j (List.mem_range.2 hj)
    rw [beq_iff_eq] at this
    exact UInt8.toNat_inj.1 (by omega)
  · intro h j hj
    rw [beq_iff_eq, h j (List.mem_range.1 hj)]
theorem eq8_yes {f g : Nat → UInt8} (h : Eq8 f g) : eq8 f g = true := (eq8_iff f g).2 h
theorem eq8_no {f g : Nat → UInt8} (h : ¬ Eq8 f g) : eq8 f g = false := by
  rw [← Bool.not_eq_true]
  exact fun e => h ((eq8_iff f g).1 e)
theorem run_eql8 (f g : Nat → UInt8) (w : World) : (binOp .eql 23 (.agg (bA 8 f)) (.agg (bA 8 g))).run Try.prog w = .ok (.bool (eq8 f g)) w :=
  run_eql_arr _ _ 8 Try.underlying23 .u8 Try.underlying5 u8_size _ _ .u8 (fun i => ((f i).toNat : Int)) (fun i => ((g i).toNat : Int)) (fun i hi => bA_at _ _ hi) (fun i hi => bA_at _ _ hi) w
theorem s8_len (f : Nat → UInt8) : (Try.prog.info? 23).map (·.size) = some (bA 8 f).toList.length := by rw [b8_size, Array.length_toList, bA_size]
end Go.Proofs.Ytnfgmgkdkfeekaa
