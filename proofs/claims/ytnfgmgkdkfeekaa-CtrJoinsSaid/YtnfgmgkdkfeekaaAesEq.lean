/-
  Blocks and round keys compared and indexed, as values.
-/
import Derived.Test.YtnfgmgkdkfeekaaAesM
import Derived.Test.YtnfgmgkdkfeekaaEqArr
import Derived.Deep.MidRow
namespace Go.Proofs.Ytnfgmgkdkfeekaa
open Go.RowKit
set_option linter.unusedVariables false
set_option linter.unusedSimpArgs false

/-- Two blocks compared. -/
def eq16 (f g : Nat → UInt8) : Bool := (List.range 16).all fun i => ((f i).toNat : Int) == ((g i).toNat : Int)
theorem eq16_iff (f g : Nat → UInt8) : eq16 f g = true ↔ Eq16 f g := by
  unfold eq16 Eq16
  rw [List.all_eq_true]
  constructor
  · intro h j hj
    have := h j (List.mem_range.2 hj)
    rw [beq_iff_eq] at this
    exact UInt8.toNat_inj.1 (by omega)
  · intro h j hj
    rw [beq_iff_eq, h j (List.mem_range.1 hj)]
theorem eq16_yes {f g : Nat → UInt8} (h : Eq16 f g) : eq16 f g = true := (eq16_iff f g).2 h
theorem eq16_no {f g : Nat → UInt8} (h : ¬ Eq16 f g) : eq16 f g = false := by
  rw [← Bool.not_eq_true]
  exact fun e => h ((eq16_iff f g).1 e)
theorem run_eql16 (f g : Nat → UInt8) (w : World) : (binOp .eql 22 (.agg (bA 16 f)) (.agg (bA 16 g))).run Try.prog w = .ok (.bool (eq16 f g)) w :=
  run_eql_arr _ _ 16 Try.underlying22 .u8 Try.underlying5 u8_size _ _ .u8 (fun i => ((f i).toNat : Int)) (fun i => ((g i).toNat : Int)) (fun i hi => bA_at _ _ hi) (fun i hi => bA_at _ _ hi) w
theorem run_equalIn16 (f g : Nat → UInt8) (w : World) : (Op.equalIn 10000 22 (.agg (bA 16 f)) (.agg (bA 16 g))).run Try.prog w = .ok (eq16 f g) w :=
  run_equalIn_arr 9998 _ _ 16 Try.underlying22 .u8 Try.underlying5 u8_size _ _ .u8 (fun i => ((f i).toNat : Int)) (fun i => ((g i).toNat : Int)) (fun i hi => bA_at _ _ hi) (fun i hi => bA_at _ _ hi) w
/-- The rows of the round keys. -/
theorem bA_row (ks : Nat → UInt8) (k : Nat) (h : k < 11) : (bA 176 ks).extract (k * 16) (k * 16 + 16) = bA 16 (kRow ks k) := by
  apply Array.ext_getElem?
  intro j
  by_cases hj : j < 16
  · rw [bA_at _ _ hj, Array.getElem?_extract, if_pos (by rw [bA_size]; omega), bA_at _ _ (by omega)]
    unfold kRow
    rw [show k * 16 + j = 16 * k + j by omega]
  · rw [Array.getElem?_eq_none (by rw [Array.size_extract, bA_size]; omega), Array.getElem?_eq_none (by rw [bA_size]; omega)]
theorem run_part_agg {P : Program} (e : TypeId) (n : Nat) (e' : TypeId) (he : P.underlying e = some (.array n e')) (m : Nat) (hi : (P.info? e).map (·.size) = some m) (cs : Array Value) (o : Nat) (w : World) :
    (part e cs o).run P w = .ok (.agg (cs.extract o (o + m))) w := by
  have hagg : (isAgg e).run P w = .ok true w := by
    unfold isAgg
    rw [Sem.run_bind, run_underlying he w]
    rfl
  cases hq : P.info? e with
  | none => simp [hq] at hi
  | some i =>
    have hs : i.size = m := by simpa [hq] using hi
    simp [part, hagg, sizeOf, typeInfo, hq, hs]
theorem run_index_sub {P : Program} (t e : TypeId) (n m : Nat) (ht : P.underlying t = some (.array n e)) (hi : (P.info? e).map (·.size) = some m) (cs : Array Value) (k : Nat) (hk : k < n) (v : Value) (w : World)
    (hp : (part e cs (k * m)).run P w = .ok v w) : (Instr.index t (.agg cs) (.int .i64 (k : Int))).run P w = .ok v w := by
  cases hq : P.info? e with
  | none => simp [hq] at hi
  | some i =>
    have hs : i.size = m := by simpa [hq] using hi
    simp [Instr.index, asIntOf, run_underlying ht, hk, sizeOf, typeInfo, hq, hs, hp]
theorem run_equalIn_rows {P : Program} (d : Nat) (t e : TypeId) (n m : Nat) (ht : P.underlying t = some (.array n e)) (hi : (P.info? e).map (·.size) = some m) (cs : Array Value) (row : Nat → Value) (w : World)
    (hp : ∀ k, k < n → (part e cs (k * m)).run P w = .ok (row k) w) (hr : ∀ k, k < n → (Op.equalIn d e (row k) (row k)).run P w = .ok true w) :
    (Op.equalIn (d + 1) t (.agg cs) (.agg cs)).run P w = .ok true w := by
  have key : ∀ L : List Nat, (∀ i ∈ L, i < n) → Sem.run P (forIn L ((none, ()) : Option Bool × Unit) fun i __s => do
      let a ← part e cs (i * m)
      let b ← part e cs (i * m)
      let r ← Op.equalIn d e a b
      if r = false then pure (ForInStep.done (some false, ())) else pure (ForInStep.yield (none, ()))) w = .ok (none, ()) w := by
    intro L
    induction L with
    | nil => intro _; simp
    | cons j L ih =>
      intro hL
      have hj := hL j (by simp)
      have h1 := hp j hj
      have h3 := hr j hj
      have := ih (fun i hi => hL i (by simp [hi]))
      simp only [List.forIn_cons, Sem.run_bind, h1, h3, Result.andThen_ok]
      simp
      exact this
  rw [Op.equalIn]
  cases hq : P.info? e with
  | none => simp [hq] at hi
  | some i =>
    have hs : i.size = m := by simpa [hq] using hi
    simp only [Sem.run_bind, run_underlying ht, Result.andThen_ok, sizeOf, typeInfo]
    simp [hq, hs]
    have h := key (List.range n) (fun i hi => List.mem_range.1 hi)
    rw [List.range_eq_range'] at h
    rw [h]
    simp
theorem part_row (ks : Nat → UInt8) (k : Nat) (h : k < 11) (w : World) : (part 22 (bA 176 ks) (k * 16)).run Try.prog w = .ok (.agg (bA 16 (kRow ks k))) w := by
  rw [run_part_agg 22 16 5 Try.underlying22 16 b16_size, bA_row ks k h]
theorem run_index_row (ks : Nat → UInt8) (k : Nat) (h : k < 11) (w : World) : (Instr.index 56 (.agg (bA 176 ks)) (.int .i64 (k : Int))).run Try.prog w = .ok (.agg (bA 16 (kRow ks k))) w :=
  run_index_sub _ 22 11 16 Try.underlying56 b16_size _ k h _ w (part_row ks k h w)
theorem run_eql176_same (ks : Nat → UInt8) (w : World) : (binOp .eql 56 (.agg (bA 176 ks)) (.agg (bA 176 ks))).run Try.prog w = .ok (.bool true) w := by
  rw [run_eql_struct, run_equalIn_rows 9999 _ 22 11 16 Try.underlying56 b16_size (bA 176 ks) (fun k => .agg (bA 16 (kRow ks k))) w (fun k hk => part_row ks k hk w) (fun k hk => by
    rw [run_equalIn_arr 9997 _ _ 16 Try.underlying22 .u8 Try.underlying5 u8_size _ _ .u8 (fun i => ((kRow ks k i).toNat : Int)) (fun i => ((kRow ks k i).toNat : Int)) (fun i hi => bA_at _ _ hi) (fun i hi => bA_at _ _ hi) w]
    simp)]
  rfl
theorem Blk.row_range {w : World} {g : Nat} {t : TypeId} {ks : Nat → UInt8} (h : Blk w g t (bA 176 ks)) (k : Nat) (hk : k < 11) : w.rangeAt g (k * 16) (bA 16 (kRow ks k)).toList := fun j v hv => by
  have hj : j < 16 := by
    have := (List.getElem?_eq_some_iff.1 hv).1
    rw [Array.length_toList, bA_size] at this
    exact this
  rw [h.cell, show k * 16 + j = 16 * k + j by omega, bA_at _ _ (by omega)]
  rw [Array.getElem?_toList, bA_at _ _ hj] at hv
  exact hv
theorem s16_len (f : Nat → UInt8) : (Try.prog.info? 22).map (·.size) = some (bA 16 f).toList.length := by rw [b16_size, Array.length_toList, bA_size]
theorem s176_len (f : Nat → UInt8) : (Try.prog.info? 56).map (·.size) = some (bA 176 f).toList.length := by rw [b176_size, Array.length_toList, bA_size]
end Go.Proofs.Ytnfgmgkdkfeekaa
