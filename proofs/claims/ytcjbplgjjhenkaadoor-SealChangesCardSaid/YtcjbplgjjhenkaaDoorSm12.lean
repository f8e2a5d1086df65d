/-
  Streams as plain functions: blocks of a nonce and a number, parts of a stream, bytes combined with it. No function of the program is named here.
-/
import Derived.Test.YtcjbplgjjhenkaaDoorSm11
import Derived.Test.YtcjbplgjjhenkaaDoorSm2
import Derived.Deep.MidRow
/-
  Blocks and round keys compared and indexed, as values.
-/
namespace Go.Proofs.YtcjbplgjjhenkaaDoor
open Go.RowKit
set_option linter.unusedVariables false
set_option linter.unusedSimpArgs false

/-- Two blocks compared. -/
def eq16 (f g : Nat → UInt8) : Bool := (List.range 16).all fun i => ((f i).toNat : Int) == ((g i).toNat : Int)
theorem eq16_iff (f g : Nat → UInt8) : eq16 f g = true ↔ Eq16 f g := by
  unfold eq16 Eq16
  rw [List.all_eq_true]
  constructor
  · intro h j hj
    have := h j (List.mem_range.2 hj)
    rw [beq_iff_eq] at this
    exact UInt8.toNat_inj.1 (by omega)
  · intro h j hj
    rw [beq_iff_eq, h j (List.mem_range.1 hj)]
theorem eq16_yes {f g : Nat → UInt8} (h : Eq16 f g) : eq16 f g = true := (eq16_iff f g).2 h
theorem eq16_no {f g : Nat → UInt8} (h : ¬ Eq16 f g) : eq16 f g = false := by
  rw [← Bool.not_eq_true]
  exact fun e => h ((eq16_iff f g).1 e)
theorem run_eql16 (f g : Nat → UInt8) (w : World) : (binOp .eql 22 (.agg (bA 16 f)) (.agg (bA 16 g))).run Tryd.prog w = .ok (.bool (eq16 f g)) w :=
  run_eql_arr _ _ 16 Tryd.underlying22 .u8 Tryd.underlying5 u8_size _ _ .u8 (fun i => ((f i).toNat : Int)) (fun i => ((g i).toNat : Int)) (fun i hi => bA_at _ _ hi) (fun i hi => bA_at _ _ hi) w
theorem run_equalIn16 (f g : Nat → UInt8) (w : World) : (Op.equalIn 10000 22 (.agg (bA 16 f)) (.agg (bA 16 g))).run Tryd.prog w = .ok (eq16 f g) w :=
  run_equalIn_arr 9998 _ _ 16 Tryd.underlying22 .u8 Tryd.underlying5 u8_size _ _ .u8 (fun i => ((f i).toNat : Int)) (fun i => ((g i).toNat : Int)) (fun i hi => bA_at _ _ hi) (fun i hi => bA_at _ _ hi) w
/-- The rows of the round keys. -/
theorem bA_row (ks : Nat → UInt8) (k : Nat) (h : k < 11) : (bA 176 ks).extract (k * 16) (k * 16 + 16) = bA 16 (kRow ks k) := by
  apply Array.ext_getElem?
  intro j
  by_cases hj : j < 16
  · rw [bA_at _ _ hj, Array.getElem?_extract, if_pos (by rw [bA_size]; omega), bA_at _ _ (by omega)]
    unfold kRow
    rw [show k * 16 + j = 16 * k + j by omega]
  · rw [Array.getElem?_eq_none (by rw [Array.size_extract, bA_size]; omega), Array.getElem?_eq_none (by rw [bA_size]; omega)]
theorem run_part_agg {P : Program} (e : TypeId) (n : Nat) (e' : TypeId) (he : P.underlying e = some (.array n e')) (m : Nat) (hi : (P.info? e).map (·.size) = some m) (cs : Array Value) (o : Nat) (w : World) :
    (part e cs o).run P w = .ok (.agg (cs.extract o (o + m))) w := by
  have hagg : (isAgg e).run P w = .ok true w := by
    unfold isAgg
    rw [Sem.run_bind, run_underlying he w]
    rfl
  cases hq : P.info? e with
  | none => simp [hq] at hi
  | some i =>
    have hs : i.size = m := by simpa [hq] using hi
    simp [part, hagg, sizeOf, typeInfo, hq, hs]
theorem run_index_sub {P : Program} (t e : TypeId) (n m : Nat) (ht : P.underlying t = some (.array n e)) (hi : (P.info? e).map (·.size) = some m) (cs : Array Value) (k : Nat) (hk : k < n) (v : Value) (w : World)
    (hp : (part e cs (k * m)).run P w = .ok v w) : (Instr.index t (.agg cs) (.int .i64 (k : Int))).run P w = .ok v w := by
  cases hq : P.info? e with
  | none => simp [hq] at hi
  | some i =>
    have hs : i.size = m := by simpa [hq] using hi
    simp [Instr.index, asIntOf, run_underlying ht, hk, sizeOf, typeInfo, hq, hs, hp]
theorem run_equalIn_rows {P : Program} (d : Nat) (t e : TypeId) (n m : Nat) (ht : P.underlying t = some (.array n e)) (hi : (P.info? e).map (·.size) = some m) (cs : Array Value) (row : Nat → Value) (w : World)
    (hp : ∀ k, k < n → (part e cs (k * m)).run P w = .ok (row k) w) (hr : ∀ k, k < n → (Op.equalIn d e (row k) (row k)).run P w = .ok true w) :
    (Op.equalIn (d + 1) t (.agg cs) (.agg cs)).run P w = .ok true w := by
  have key : ∀ L : List Nat, (∀ i ∈ L, i < n) → Sem.run P (forIn L ((none, ()) : Option Bool × Unit) fun i __s => do
      let a ← part e cs (i * m)
      let b ← part e cs (i * m)
      let r ← Op.equalIn d e a b
      if r = false then pure (ForInStep.done (some false, ())) else pure (ForInStep.yield (none, ()))) w = .ok (none, ()) w := by
    intro L
    induction L with
    | nil => intro _; simp
    | cons j L ih =>
      intro hL
      have hj := hL j (by simp)
      have h1 := hp j hj
      have h3 := hr j hj
      have := ih (fun i hi => hL i (by simp [hi]))
      simp only [List.forIn_cons, Sem.run_bind, h1, h3, Result.andThen_ok]
      simp
      exact this
  rw [Op.equalIn]
  cases hq : P.info? e with
  | none => simp [hq] at hi
  | some i =>
    have hs : i.size = m := by simpa [hq] using hi
    simp only [Sem.run_bind, run_underlying ht, Result.andThen_ok, sizeOf, typeInfo]
    simp [hq, hs]
    have h := key (List.range n) (fun i hi => List.mem_range.1 hi)
    rw [List.range_eq_range'] at h
    rw [h]
    simp
theorem part_row (ks : Nat → UInt8) (k : Nat) (h : k < 11) (w : World) : (part 22 (bA 176 ks) (k * 16)).run Tryd.prog w = .ok (.agg (bA 16 (kRow ks k))) w := by
  rw [run_part_agg 22 16 5 Tryd.underlying22 16 b16_size, bA_row ks k h]
theorem run_index_row (ks : Nat → UInt8) (k : Nat) (h : k < 11) (w : World) : (Instr.index 98 (.agg (bA 176 ks)) (.int .i64 (k : Int))).run Tryd.prog w = .ok (.agg (bA 16 (kRow ks k))) w :=
  run_index_sub _ 22 11 16 Tryd.underlying98 b16_size _ k h _ w (part_row ks k h w)
theorem run_eql176_same (ks : Nat → UInt8) (w : World) : (binOp .eql 98 (.agg (bA 176 ks)) (.agg (bA 176 ks))).run Tryd.prog w = .ok (.bool true) w := by
  rw [run_eql_struct, run_equalIn_rows 9999 _ 22 11 16 Tryd.underlying98 b16_size (bA 176 ks) (fun k => .agg (bA 16 (kRow ks k))) w (fun k hk => part_row ks k hk w) (fun k hk => by
    rw [run_equalIn_arr 9997 _ _ 16 Tryd.underlying22 .u8 Tryd.underlying5 u8_size _ _ .u8 (fun i => ((kRow ks k i).toNat : Int)) (fun i => ((kRow ks k i).toNat : Int)) (fun i hi => bA_at _ _ hi) (fun i hi => bA_at _ _ hi) w]
    simp)]
  rfl
theorem Blk.row_range {w : World} {g : Nat} {t : TypeId} {ks : Nat → UInt8} (h : Blk w g t (bA 176 ks)) (k : Nat) (hk : k < 11) : w.rangeAt g (k * 16) (bA 16 (kRow ks k)).toList := fun j v hv => by
  have hj : j < 16 := by
    have := (List.getElem?_eq_some_iff.1 hv).1
    rw [Array.length_toList, bA_size] at this
    exact this
  rw [h.cell, show k * 16 + j = 16 * k + j by omega, bA_at _ _ (by omega)]
  rw [Array.getElem?_toList, bA_at _ _ hj] at hv
  exact hv
theorem s16_len (f : Nat → UInt8) : (Tryd.prog.info? 22).map (·.size) = some (bA 16 f).toList.length := by rw [b16_size, Array.length_toList, bA_size]
theorem s176_len (f : Nat → UInt8) : (Tryd.prog.info? 98).map (·.size) = some (bA 176 f).toList.length := by rw [b176_size, Array.length_toList, bA_size]
end Go.Proofs.YtcjbplgjjhenkaaDoor
namespace Go.Proofs.YtcjbplgjjhenkaaDoor
set_option linter.unusedVariables false

/-- The block of a nonce and a number. -/
def cBlk (nonce : Nat → UInt8) (i : Nat) : Nat → UInt8 := fun j => if j < 8 then nonce j else UInt8.ofNat (i / 256 ^ (15 - j) % 256)
def cEnc (key nonce : Nat → UInt8) (i : Nat) : Nat → UInt8 := aEnc key (cBlk nonce i)
/-- The stream. -/
def cStr (key nonce : Nat → UInt8) : Nat → UInt8 := fun p => cEnc key nonce (p / 16) (p % 16)
/-- A part of a stream. -/
def sPart (f : Nat → UInt8) (at' n : Nat) : List UInt8 := (List.range n).map fun j => f (at' + j)
theorem sPart_len (f : Nat → UInt8) (at' n : Nat) : (sPart f at' n).length = n := by simp [sPart]
theorem sPart_zero (f : Nat → UInt8) (at' : Nat) : sPart f at' 0 = [] := rfl
theorem sPart_succ (f : Nat → UInt8) (at' n : Nat) : sPart f at' (n + 1) = sPart f at' n ++ [f (at' + n)] := by
  unfold sPart
  rw [List.range_succ, List.map_append]
  rfl
theorem sPart_add (f : Nat → UInt8) (at' n m : Nat) : sPart f at' (n + m) = sPart f at' n ++ sPart f (at' + n) m := by
  induction m with
  | zero => rw [sPart_zero, List.append_nil]; rfl
  | succ m ih => rw [← Nat.add_assoc, sPart_succ, ih, sPart_succ, List.append_assoc, Nat.add_assoc]
theorem sPart_at (f : Nat → UInt8) (at' n j : Nat) (hj : j < n) : (sPart f at' n)[j]? = some (f (at' + j)) := by
  unfold sPart
  rw [List.getElem?_map, List.getElem?_range hj]
  rfl
/-- Bytes combined with a stream from a place on. -/
def sMix (f : Nat → UInt8) (at' : Nat) (b : List UInt8) : List UInt8 := (List.range b.length).map fun j => gxr (f (at' + j)) (b.getD j 0)
theorem sMix_len (f : Nat → UInt8) (at' : Nat) (b : List UInt8) : (sMix f at' b).length = b.length := by simp [sMix]
theorem sMix_at (f : Nat → UInt8) (at' : Nat) (b : List UInt8) (j : Nat) (hj : j < b.length) : (sMix f at' b)[j]? = some (gxr (f (at' + j)) (b[j]'hj)) := by
  unfold sMix
  rw [List.getElem?_map, List.getElem?_range hj]
  simp [List.getD, hj]
theorem sMix_back (f : Nat → UInt8) (at' : Nat) (b : List UInt8) : sMix f at' (sMix f at' b) = b := by
  apply List.ext_getElem?
  intro j
  by_cases hj : j < b.length
  · have hj2 : j < (sMix f at' b).length := by rw [sMix_len]; exact hj
    rw [sMix_at _ _ _ _ hj2, List.getElem?_eq_getElem hj]
    have h := sMix_at f at' b j hj
    rw [List.getElem?_eq_getElem hj2] at h
    injection h with h
    rw [h]
    congr 1
    unfold gxr
    rw [← UInt8.xor_assoc, UInt8.xor_self, UInt8.zero_xor]
  · rw [List.getElem?_eq_none (by rw [sMix_len, sMix_len]; omega), List.getElem?_eq_none (by omega)]
theorem sMix_append (f : Nat → UInt8) (at' : Nat) (a b : List UInt8) : sMix f at' (a ++ b) = sMix f at' a ++ sMix f (at' + a.length) b := by
  apply List.ext_getElem?
  intro j
  by_cases hj : j < a.length
  · rw [sMix_at _ _ _ _ (by rw [List.length_append]; omega), List.getElem?_append_left (by rw [sMix_len]; exact hj), sMix_at _ _ _ _ hj, List.getElem_append_left hj]
  · by_cases hj2 : j < (a ++ b).length
    · rw [List.length_append] at hj2
      rw [sMix_at _ _ _ _ (by rw [List.length_append]; omega), List.getElem?_append_right (by rw [sMix_len]; omega), sMix_len, sMix_at _ _ _ (j - a.length) (by omega), List.getElem_append_right (by omega), Nat.add_assoc, show a.length + (j - a.length) = j by omega]
    · rw [List.getElem?_eq_none (by rw [sMix_len]; omega), List.getElem?_eq_none (by rw [List.length_append, sMix_len, sMix_len]; rw [List.length_append] at hj2; omega)]
theorem sMix_nil (f : Nat → UInt8) (at' : Nat) : sMix f at' [] = [] := rfl
/-- What Stream returns. -/
def sStream (f : Nat → UInt8) (at' n : Int) : List UInt8 := if 0 ≤ at' ∧ at' ≤ 1099511627776 ∧ 0 ≤ n ∧ n ≤ 1048576 then sPart f at'.toNat n.toNat else []
theorem sStream_in (f : Nat → UInt8) (at' n : Nat) (h1 : at' ≤ 1099511627776) (h2 : n ≤ 1048576) : sStream f (at' : Int) (n : Int) = sPart f at' n := by
  unfold sStream
  rw [if_pos (by omega)]
  rfl
theorem sStream_len (f : Nat → UInt8) (at' n : Int) : (sStream f at' n).length ≤ 1048576 := by
  unfold sStream
  split
  · rw [sPart_len]; omega
  · simp

/-! ### Nonces and numbers apart -/
def Eq8 (f g : Nat → UInt8) : Prop := ∀ j, j < 8 → f j = g j
theorem cBlk_cong {n n' : Nat → UInt8} (h : Eq8 n n') (i : Nat) : cBlk n i = cBlk n' i := by
  funext j
  unfold cBlk
  by_cases hj : j < 8
  · rw [if_pos hj, if_pos hj, h j hj]
  · rw [if_neg hj, if_neg hj]
theorem cEnc_nonce (key n n' : Nat → UInt8) (i : Nat) (h : Eq16 (cEnc key n i) (cEnc key n' i)) : Eq8 n n' := fun j hj => by
  have := aEnc_inj key h j (by omega)
  unfold cBlk at this
  rwa [if_pos hj, if_pos hj] at this
theorem cEnc_next (key n : Nat → UInt8) (i i' : Nat) (hi : i' % 256 = (i + 1) % 256) : ¬ Eq16 (cEnc key n i) (cEnc key n i') := fun h => by
  have := aEnc_inj key h 15 (by omega)
  unfold cBlk at this
  rw [if_neg (by omega), if_neg (by omega), show 15 - 15 = 0 by omega, Nat.pow_zero, Nat.div_one, Nat.div_one] at this
  have h2 := congrArg UInt8.toNat this
  rw [UInt8.toNat_ofNat', UInt8.toNat_ofNat'] at h2
  omega
end Go.Proofs.YtcjbplgjjhenkaaDoor
