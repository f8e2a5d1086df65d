/-
  What the document says of names, as plain functions.
-/
import Derived.Test.YtnejidaplbonoaaBytes
namespace Go.Proofs.Ytnejidaplbonoaa
open Go.RowKit
set_option linter.unusedVariables false

/-- A byte that a word may have. -/
def okB (b : UInt8) : Bool := decide (33 ≤ b.toNat) && decide (b.toNat ≤ 126)
/-- A word. -/
def isW (s : ByteArray) : Bool := decide (1 ≤ s.size) && decide (s.size ≤ 100) && s.data.toList.all okB
/-- A value of api.Name: the realm, the parts. -/
abbrev Nm := ByteArray × List ByteArray
/-- A name. -/
def isN (n : Nm) : Bool := n.2.all isW && isW n.1 && decide (1 ≤ n.2.length) && decide (n.2.length ≤ 8)
theorem strb_ne {a b : ByteArray} (h : a ≠ b) : (a.toList == b.toList) = false := by
  rw [ByteArray.toList_eq, ByteArray.toList_eq]
  exact beq_false_of_ne fun e => h (by
    cases a
    cases b
    simpa using e)
theorem strb_eq {a b : ByteArray} (h : a = b) : (a.toList == b.toList) = true := by subst h; simp
theorem str_list_at (s : ByteArray) (k : Nat) (h : k < s.size) : s.data.toList[k]? = some s[k] := by
  have hl : k < s.data.toList.length := by simpa using h
  rw [List.getElem?_eq_getElem hl]
  rfl
theorem str_take (s : ByteArray) (k : Nat) (h : k < s.size) : s.data.toList.take (k + 1) = s.data.toList.take k ++ [s[k]] := by
  rw [List.take_succ_eq_append_getElem (by simpa using h)]
  rfl
theorem isW_bad (s : ByteArray) (k : Nat) (h : k < s.size) (hb : okB s[k] = false) : isW s = false := by
  unfold isW
  have hm : s[k] ∈ s.data.toList := List.mem_of_getElem? (str_list_at s k h)
  have ha : s.data.toList.all okB = false := by
    rw [List.all_eq_false]
    exact ⟨_, hm, by rw [hb]; simp⟩
  rw [ha, Bool.and_false]
/-- Bytes, as a string. -/
def strOf (l : List UInt8) : ByteArray := ⟨l.toArray⟩
theorem strOf_list (l : List UInt8) : (strOf l).data.toList = l := rfl
theorem strOf_of (s : ByteArray) : strOf s.data.toList = s := rfl
theorem strOf_size (l : List UInt8) : (strOf l).size = l.length := by simp [strOf, ByteArray.size]
theorem str_ext {a b : ByteArray} (h : a.data.toList = b.data.toList) : a = b := by
  rw [← strOf_of a, ← strOf_of b, h]
theorem strOf_append (a b : List UInt8) : strOf a ++ strOf b = strOf (a ++ b) := str_ext (by rw [ByteArray.toList_data_append, strOf_list, strOf_list, strOf_list])
theorem str_one (s : ByteArray) (k : Nat) (h : k < s.size) : s.extract k (k + 1) = strOf [s[k]] := by
  apply str_ext
  rw [strOf_list, ByteArray.data_extract, Array.toList_extract, List.extract_eq_take_drop]
  rw [show k + 1 - k = 1 by omega, List.drop_eq_getElem_cons (by simpa using h)]
  rfl
/-- A byte that wants a backslash in front. -/
def isM (b : UInt8) : Bool := b == 47 || b == 64 || b == 92
/-- A word with its backslashes. -/
def escL (l : List UInt8) : List UInt8 := l.flatMap fun b => if isM b then [92, b] else [b]
theorem escL_snoc (l : List UInt8) (b : UInt8) : escL (l ++ [b]) = escL l ++ if isM b then [92, b] else [b] := by
  unfold escL
  rw [List.flatMap_append, List.flatMap_cons, List.flatMap_nil, List.append_nil]
theorem escL_len (l : List UInt8) : (escL l).length ≤ 2 * l.length := by
  induction l with
  | nil => simp [escL]
  | cons b l ih =>
    have e : escL (b :: l) = (if isM b then [92, b] else [b]) ++ escL l := by unfold escL; rw [List.flatMap_cons]
    rw [e, List.length_append, List.length_cons]
    split
    · simp only [List.length_cons, List.length_nil]; omega
    · simp only [List.length_cons, List.length_nil]; omega
/-- A word without its backslashes. -/
def plainL : List UInt8 → List UInt8
  | [] => []
  | [b] => [b]
  | b :: c :: r => if b = 92 then c :: plainL r else b :: plainL (c :: r)
/-- At address A (of block q) lie strings. -/
def MemS (w : World) (q : Nat) (A : Option Addr) (L : List ByteArray) : Prop :=
  L = [] ∨ ∃ o, A = some ⟨q, o, none⟩ ∧ ∀ j s, L[j]? = some s → w.cell? ⟨q, o + j, none⟩ = some (.string s)
theorem MemS.at_ {w : World} {q : Nat} {A : Option Addr} {L : List ByteArray} {j : Nat} (h : MemS w q A L) (hj : j < L.length) :
    ∃ o, A = some ⟨q, o, none⟩ ∧ w.cell? ⟨q, o + j, none⟩ = some (.string (L[j]'hj)) := by
  rcases h with h | ⟨o, hA, h⟩
  · subst h
    simp at hj
  · exact ⟨o, hA, h j _ (List.getElem?_eq_getElem hj)⟩
theorem MemS.below0 {w w' : World} {q : Nat} {A : Option Addr} {L : List ByteArray} (h : MemS w q A L) (hb : Below w.heap.size w w') : MemS w' q A L := by
  rcases h with h | ⟨o, hA, h⟩
  · exact .inl h
  · refine .inr ⟨o, hA, fun j s hj => ?_⟩
    have hc := h j s hj
    exact (hb.cell (p := ⟨q, o + j, none⟩) (World.block_lt_of_cell? w _ hc)).trans hc
theorem isN_parts {R : ByteArray} {L : List ByteArray} (h : isN (R, L) = true) : (∀ s ∈ L, isW s = true) ∧ isW R = true ∧ 1 ≤ L.length ∧ L.length ≤ 8 := by
  unfold isN at h
  simp only [Bool.and_eq_true, decide_eq_true_eq, List.all_eq_true] at h
  exact ⟨h.1.1.1, h.1.1.2, h.1.2, h.2⟩
theorem isW_size {s : ByteArray} (h : isW s = true) : 1 ≤ s.size ∧ s.size ≤ 100 := by
  unfold isW at h
  simp only [Bool.and_eq_true, decide_eq_true_eq] at h
  exact ⟨h.1.1, h.1.2⟩
end Go.Proofs.Ytnejidaplbonoaa
