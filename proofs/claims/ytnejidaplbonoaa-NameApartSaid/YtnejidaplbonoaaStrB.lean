/-
  A string turned into bytes, as a step of a walk; append of a string's bytes.
-/
import Derived.Test.YtnejidaplbonoaaBytes
import Derived.Laws.IdiomStrings
import Derived.OwnWalk
import Derived.Lib.AppendStr
namespace Go.Proofs.Ytnejidaplbonoaa
open Go.RowKit
set_option linter.unusedVariables false
set_option linter.unusedSimpArgs false

theorem bytesRow_at (s : ByteArray) (c j : Nat) (b : UInt8) (h : s.data.toList[j]? = some b) : (bytesRow s c)[j]? = some (.int .u8 (b.toNat : Int)) := by
  unfold bytesRow
  have hj : j < s.data.size := by
    have := (List.getElem?_eq_some_iff.1 h).1
    simpa using this
  have hs : s.data[j]? = some b := by simpa using h
  rw [Array.getElem?_append_left (by simpa using hj), Array.getElem?_map, hs]
  rfl
theorem run_conv_bytes {P : Program} (w : World) (src dst : TypeId) (s : ByteArray) (hs : P.underlying src = some .string) (hd : P.underlying dst = some (.slice 5)) (he : P.underlying 5 = some (.int .u8)) :
    ∃ A q c w', (convert src dst (.string s)).run P w = .ok (.slice A s.data.toList.length c) w' ∧ s.data.toList.length ≤ c ∧ Mem w' q A s.data.toList ∧ Below w.heap.size w w' := by
  have h := run_bytes_of_string (P := P) w src dst 5 s hs hd he
  have hl : s.size = s.data.toList.length := (Array.length_toList (xs := s.data)).symm
  refine ⟨_, w.heap.size, _, _, by rw [h, hl], ?_, .inr ⟨0, rfl, fun j b hj => ?_⟩, ((Below.refl _ w).drew).alloc (Nat.le_refl _) _⟩
  · have := grownCap_ge w s.data.toList.length 0 5
    exact this
  · have e := World.cell?_alloc_mark w.drew (bytesRow s (grownCap w s.data.toList.length 0 5)) 5 ((bytesRow s (grownCap w s.data.toList.length 0 5)).size, (bytesRow s (grownCap w s.data.toList.length 0 5)).size + 1) (0 + j)
    refine e.trans ?_
    rw [Nat.zero_add]
    exact bytesRow_at s _ j b hj
theorem wpList_conv_bytes {P : Program} {w : World} {ops : Array Oper} {rest : List Oper} {o : Oper} {a : Act} {Q : Exit → Act → World → Prop} (hgd : o.guard = none) (src dst : TypeId) (x : Operand)
    (ho : o.op = .convert src dst x) (s : ByteArray) (hx : a.eval x = .string s) (hs : P.underlying src = some .string) (hd : P.underlying dst = some (.slice 5)) (he : P.underlying 5 = some (.int .u8))
    (h : ∀ A q c w', s.data.toList.length ≤ c → Mem w' q A s.data.toList → Below w.heap.size w w' → wpList P ops Q rest (a.put o.dst (.slice A s.data.toList.length c)) w') : wpList P ops Q (o :: rest) a w := by
  refine wpList_plain hgd fun K hK => ?_
  obtain ⟨A, q, c, w', hrun, h1, h2, h3⟩ := run_conv_bytes (P := P) w src dst s hs hd he
  unfold Oper.wp execOp
  simp only [ho, hx, Sem.run_bind, Sem.run_pure, hrun, Result.andThen_ok]
  exact hK _ _ (h A q c w' h1 h2 h3)
/-- append(v, s...) of a string's bytes, v the call's own. -/
theorem run_append_str {P : Program} (w : World) (B : Nat) (t u ty : TypeId) (i : TypeInfo) (ht : P.underlying t = some (.slice 5)) (hu : P.underlying u = some .string) (hi : P.info? 5 = some i)
    (hz : i.zero = some (.int .u8 0)) (hs : i.size = 1) (hb : i.bytes = 1) (v : Value) (l : List UInt8) (hown : Own w B v l) (s : ByteArray) (hlen : l.length + s.data.toList.length ≤ 140737488355328) (hB : B ≤ w.heap.size) :
    ∃ v' w', (Builtin.append_ #[t, u] ty #[v, .string s]).run P w = .ok v' w' ∧ Own w' B v' (l ++ s.data.toList) ∧ w.grownBy w' v.ownBlock := by
  have hl : s.size = s.data.toList.length := (Array.length_toList (xs := s.data)).symm
  have hc : Lib.strCells s = s.data.toList.map bv := rfl
  obtain ⟨v', w', h1, h2, h3, _⟩ := Lib.run_append_own_string (P := P) (w := w) B t u ty 5 i ht hu hi hz hs hb v l.length (l.map bv) hown s (by unfold maxLen; omega) (by omega) hB
  refine ⟨v', w', h1, ?_, h3⟩
  unfold Own
  rw [List.length_append, List.map_append, ← hl, ← hc]
  exact h2
theorem wpList_append_str {P : Program} {w : World} {ops : Array Oper} {rest : List Oper} {o : Oper} {a : Act} {Q : Exit → Act → World → Prop} (hgd : o.guard = none) (x y : Operand) (t u : TypeId)
    (ho : o.op = .call { callee := .builtin .append, args := #[x, y], argTypes := #[t, u] })
    (B : Nat) (i : TypeInfo) (ht : P.underlying t = some (.slice 5)) (hu : P.underlying u = some .string) (hi : P.info? 5 = some i) (hz : i.zero = some (.int .u8 0)) (hsz : i.size = 1) (hb : i.bytes = 1)
    (v : Value) (l : List UInt8) (hx : a.eval x = v) (hown : Own w B v l) (s : ByteArray) (hy : a.eval y = .string s) (hlen : l.length + s.data.toList.length ≤ 140737488355328) (hB : B ≤ w.heap.size)
    (h : ∀ v' w', Own w' B v' (l ++ s.data.toList) → w.grownBy w' v.ownBlock → wpList P ops Q rest (a.put o.dst v') w') : wpList P ops Q (o :: rest) a w := by
  refine wpList_plain hgd fun K hK => ?_
  obtain ⟨v', w', hrun, h2, h3⟩ := run_append_str (P := P) w B t u o.type i ht hu hi hz hsz hb v l hown s hlen hB
  unfold Oper.wp execOp
  simp only [ho, resolve, invoke, builtin, Sem.run_bind, Sem.run_pure, Result.andThen_ok, List.map_toArray, List.map_cons, List.map_nil, hx, hy, hrun]
  exact hK _ _ (h v' w' h2 h3)
end Go.Proofs.Ytnejidaplbonoaa
