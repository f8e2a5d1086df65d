/-
  Small laws that the laws of layer 5 share: a byte stored into a slice of the call's own; derived strings of any number; whether a changed code is right.
-/
import Derived.Test.YtgplkdnffbappaaDoorMacSum
import Derived.Test.YtgplkdnffbappaaDoorMacDer
import Derived.Test.YtgplkdnffbappaaDoorMacRDer
namespace Go.Proofs.YtgplkdnffbappaaDoor
open Go.RowKit
set_option linter.unusedVariables false
set_option linter.unusedSimpArgs false

/-- A byte stored into a slice of the call's own. -/
theorem own_set {w : World} {B n c q : Nat} {l : List UInt8} (h : Own w B (.slice (some ⟨q, 0, none⟩) n c) l) (i : Nat) (x : UInt8) (hi : i < l.length) : Own (w.setCell ⟨q, i, none⟩ (.int .u8 (x.toNat : Int))) B (.slice (some ⟨q, 0, none⟩) n c) (l.set i x) := by
  obtain ⟨h1, h2⟩ := h
  refine ⟨by simp, ?_⟩
  rcases h2 with ⟨hv, hn⟩ | ⟨g, cap, cur, hv, hg, hh, hnc, hcm, hsz, ht⟩
  · cases hv
  · injection hv with e1 e2 e3
    injection e1 with e1
    injection e1 with e1 _ _
    subst e1 e2 e3
    refine .inr ⟨q, c, cur.setIfInBounds i (bv x), by simp, hg, (Blk.put (w := w) (g := q) hh i (bv x)), by simpa using hnc, hcm, by simpa using hsz, ?_⟩
    rw [Array.toList_setIfInBounds, List.length_set, List.take_set, ht, List.map_set]
/-- What a place of a slice of the call's own holds, and that it may be written. -/
theorem own_at {w : World} {B n c q : Nat} {l : List UInt8} (h : Own w B (.slice (some ⟨q, 0, none⟩) n c) l) (i : Nat) (hi : i < l.length) : w.cell? ⟨q, i, none⟩ = some (.int .u8 ((l[i]'hi).toNat : Int)) ∧ w.frozen? ⟨q, i, none⟩ = false ∧ B ≤ q := by
  obtain ⟨A, q', c', hv, _, _, hm, hf, _⟩ := h.form
  injection hv with e1 e2 e3
  have hne : l ≠ [] := fun e => by subst e; simp at hi
  obtain ⟨hB, hA, hfz⟩ := hf hne
  rw [← e1] at hA
  injection hA with hA
  injection hA with hA _ _
  subst hA
  refine ⟨?_, hfz i, hB⟩
  rw [← e1] at hm
  obtain ⟨o, ho, hc⟩ := hm.at_ hi
  injection ho with ho
  injection ho with _ ho _
  subst ho
  rw [Nat.zero_add] at hc
  exact hc
/-- The derived string of any number of bytes; nothing below zero. -/
def derZ (k lab : List UInt8) (z : Int) : List UInt8 := if z < 0 then [] else derive k lab z.toNat
theorem derZ_len (k lab : List UInt8) (z : Int) : (derZ k lab z).length = z.toNat := by
  unfold derZ
  split
  · rename_i h; simp; omega
  · rw [derive_len]
theorem derZ_take (k lab : List UInt8) (z : Int) (n : Nat) (h : n ≤ (derZ k lab z).length) : (derZ k lab z).take n = derive k lab n := by
  rw [derZ_len] at h
  unfold derZ
  split
  · obtain rfl : n = 0 := by omega
    exact (List.length_eq_zero_iff.1 (derive_len k lab 0)).symm
  · exact derive_take k lab z.toNat n h
theorem derive_z (w : World) (q : Nat) (A : Option Addr) (n1 c : Nat) (k : List UInt8) (s : ByteArray) (z : Int) (hK : KAt w) (hn1 : n1 = k.length) (hm : Mem w q A k) (hc : k.length ≤ c) (hkl : k.length ≤ 140737488355328) (hsl : s.data.toList.length ≤ 140737488355000) (hz : z ≤ 8160) :
    Calls Tryd.prog 12 #[.slice A n1 c, .string s, .int .i64 z] w fun e w' => ∃ v, e = .returned v ∧ Own w' w.heap.size v (derZ k s.data.toList z) ∧ Below w.heap.size w w' := by
  by_cases h : z < 0
  · refine (derive_no w _ _ z (.inl h)).mono ?_
    rintro e w' ⟨rfl, rfl⟩
    refine ⟨_, rfl, ?_, Below.refl _ _⟩
    unfold derZ
    rw [if_pos h]
    exact Own.nil_ _ _
  · obtain ⟨n, rfl⟩ := Int.eq_ofNat_of_zero_le (show 0 ≤ z by omega)
    unfold derZ
    rw [if_neg h]
    exact derive_yes w q A n1 c k s n hK hn1 hm hc hkl hsl (by omega)
theorem rder_z (w : World) (q : Nat) (A : Option Addr) (n1 c : Nat) (k : List UInt8) (s : ByteArray) (z : Int) (hn1 : n1 = k.length) (hm : Mem w q A k) (hkl : k.length ≤ 140737488355000) (hsl : s.data.toList.length ≤ 140737488354000) (hz : z ≤ 8160) :
    Calls Tryd.prog 14 #[.slice A n1 c, .string s, .int .i64 z] w fun e w' => ∃ v, e = .returned v ∧ Own w' w.heap.size v (derZ k s.data.toList z) ∧ Below w.heap.size w w' := by
  by_cases h : z < 0
  · refine (rder_no w _ _ z (.inl h)).mono ?_
    rintro e w' ⟨rfl, rfl⟩
    refine ⟨_, rfl, ?_, Below.refl _ _⟩
    unfold derZ
    rw [if_pos h]
    exact Own.nil_ _ _
  · obtain ⟨n, rfl⟩ := Int.eq_ofNat_of_zero_le (show 0 ≤ z by omega)
    unfold derZ
    rw [if_neg h]
    exact rder_yes w q A n1 c k s n hn1 hm hkl hsl (by omega)
/-- A code that is right stays so if a byte is written as it is, and no other byte. -/
theorem chkB_same (D : List UInt8) (m i : Nat) (c : UInt8) (hD : D.length = 32) (h1 : 16 ≤ m) (h2 : m ≤ 32) (hi : i < (D.take m).length) (hx : (D.take m)[i]'hi = c) : chkB ((D.take m).set i c) D = true := by
  have e : (D.take m).set i c = D.take m := by rw [← hx, List.set_getElem_self]
  rw [e]
  unfold chkB
  have hl : (D.take m).length = m := by rw [List.length_take]; omega
  rw [hl, decide_eq_true ⟨h1, h2⟩, sameB_self]
  rfl
theorem chkB_other (D : List UInt8) (m i : Nat) (c : UInt8) (hD : D.length = 32) (h1 : 16 ≤ m) (h2 : m ≤ 32) (hi : i < (D.take m).length) (hx : (D.take m)[i]'hi ≠ c) : chkB ((D.take m).set i c) D = false := by
  unfold chkB
  have hl : (D.take m).length = m := by rw [List.length_take]; omega
  rw [List.length_set, hl, sameB_false, Bool.and_false]
  intro e
  have h3 := congrArg (fun l : List UInt8 => l[i]?) e
  simp only [List.getElem?_set_self hi, List.getElem?_eq_getElem hi, Option.some.injEq] at h3
  exact hx h3.symm
theorem chkB_len (c D : List UInt8) (h : ¬ (16 ≤ c.length ∧ c.length ≤ 32)) : chkB c D = false := by
  unfold chkB
  rw [decide_eq_false h]
  rfl
theorem chkB_full (D : List UInt8) (m : Nat) (hD : D.length = 32) (h1 : 16 ≤ m) (h2 : m ≤ 32) : chkB (D.take m) D = true := by
  unfold chkB
  have hl : (D.take m).length = m := by rw [List.length_take]; omega
  rw [hl, decide_eq_true ⟨h1, h2⟩, sameB_self]
  rfl
end Go.Proofs.YtgplkdnffbappaaDoor
