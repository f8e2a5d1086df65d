/-
  Arrays of bytes compared, as lists.
-/
import Derived.Test.YtcjbplgjjhenkaaDoorSm21
import Derived.Test.YtcjbplgjjhenkaaDoorSm30
import Derived.Test.YtcjbplgjjhenkaaDoorSm32
import Derived.Test.YtcjbplgjjhenkaaDoorSm2
import Derived.Test.YtcjbplgjjhenkaaDoorSm17
import Derived.Test.YtcjbplgjjhenkaaDoorSm7
/-
  Arrays of bytes as lists; a slice as an array.
-/
namespace Go.Proofs.YtcjbplgjjhenkaaDoor
open Go.RowKit
set_option linter.unusedVariables false
set_option linter.unusedSimpArgs false

/-- The first n values of a function. -/
def lst (n : Nat) (f : Nat → UInt8) : List UInt8 := (List.range n).map f
theorem lst_len (n : Nat) (f : Nat → UInt8) : (lst n f).length = n := by simp [lst]
theorem ofL_lst (n : Nat) (f : Nat → UInt8) (j : Nat) (hj : j < n) : ofL (lst n f) j = f j := by
  unfold ofL lst
  simp [List.getD, hj]
theorem bA_lst (n : Nat) (f : Nat → UInt8) : bA n f = bA n (ofL (lst n f)) := bA_ext fun j hj => (ofL_lst n f j hj).symm
theorem bA_ofL {n : Nat} (L : List UInt8) (h : L.length = n) : bA n (ofL L) = (L.map bv).toArray := by
  subst h
  exact (gA_list L).symm
theorem toList_ofL {n : Nat} (L : List UInt8) (h : L.length = n) : (bA n (ofL L)).toList = L.map bv := by rw [bA_ofL L h]
theorem mem_arr {w : World} {g n : Nat} {t : TypeId} {L : List UInt8} (h : Blk w g t (bA n (ofL L))) (hL : L.length = n) : Mem w g (some ⟨g, 0, none⟩) L := by
  refine .inr ⟨0, rfl, fun k x hk => ?_⟩
  have hl := (List.getElem?_eq_some_iff.1 hk).1
  rw [Nat.zero_add, h.cell, bA_at n _ (by omega)]
  simp [ofL, List.getD, hk]
/-- The cells of a slice, as a range. -/
theorem mem_range {w : World} {q o : Nat} {L : List UInt8} (h : Mem w q (some ⟨q, o, none⟩) L) : w.rangeAt q o (L.map bv) := fun j v hv => by
  rw [List.getElem?_map] at hv
  cases e : L[j]? with
  | none => rw [e] at hv; cases hv
  | some b =>
    rw [e] at hv
    injection hv with hv
    have hj := (List.getElem?_eq_some_iff.1 e).1
    obtain ⟨o', ho, hc⟩ := h.at_ hj
    injection ho with ho
    injection ho with _ ho _
    subst ho
    rw [hc, ← hv, (List.getElem?_eq_some_iff.1 e).2]
    rfl
theorem arrayAt_any {P : Program} (w : World) (t : TypeId) (n : Nat) (e : TypeId) (ht : P.underlying t = some (.array n e)) (a : Option Addr) (len cap : Nat) (h : n ≤ len) : (Instr.arrayAt t (.slice a len cap)).run P w = .ok (.pointer a) w := by
  unfold Instr.arrayAt
  rw [Sem.run_bind, run_underlying ht w]
  simp only [Result.andThen]
  rw [if_neg (by omega)]
  rfl
theorem cStr_eq8 (key : Nat → UInt8) {n n' : Nat → UInt8} (h : Eq8 n n') : cStr key n = cStr key n' := by
  funext p
  unfold cStr cEnc
  rw [cBlk_cong h]
end Go.Proofs.YtcjbplgjjhenkaaDoor
namespace Go.Proofs.YtcjbplgjjhenkaaDoor
open Go.RowKit
set_option linter.unusedVariables false
set_option linter.unusedSimpArgs false

theorem eqn_same (n : Nat) (L L' : List UInt8) (hL : L.length = n) (hL' : L'.length = n) : ((List.range n).all fun i => ((ofL L i).toNat : Int) == ((ofL L' i).toNat : Int)) = sameB L L' := by
  by_cases h : L = L'
  · rw [sameB_true h, List.all_eq_true]
    intro i _
    rw [h]
    simp
  · rw [sameB_false h, ← Bool.not_eq_true, List.all_eq_true]
    intro e
    apply h
    apply List.ext_getElem?
    intro i
    by_cases hi : i < n
    · have := e i (List.mem_range.2 hi)
      rw [beq_iff_eq] at this
      have h2 : ofL L i = ofL L' i := UInt8.toNat_inj.1 (by omega)
      unfold ofL at h2
      rw [List.getD_eq_getElem?_getD, List.getD_eq_getElem?_getD, List.getElem?_eq_getElem (by omega), List.getElem?_eq_getElem (by omega)] at h2
      rw [List.getElem?_eq_getElem (by omega), List.getElem?_eq_getElem (by omega)]
      exact congrArg some h2
    · rw [List.getElem?_eq_none (by omega), List.getElem?_eq_none (by omega)]
theorem run_eqlL (t : TypeId) (n : Nat) (ht : Tryd.prog.underlying t = some (.array n 5)) (L L' : List UInt8) (hL : L.length = n) (hL' : L'.length = n) (w : World) : (binOp .eql t (.agg (bA n (ofL L))) (.agg (bA n (ofL L')))).run Tryd.prog w = .ok (.bool (sameB L L')) w := by
  rw [← eqn_same n L L' hL hL']
  exact run_eql_arr _ _ n ht .u8 Tryd.underlying5 u8_size _ _ .u8 (fun i => ((ofL L i).toNat : Int)) (fun i => ((ofL L' i).toNat : Int)) (fun i hi => bA_at _ _ hi) (fun i hi => bA_at _ _ hi) w
theorem run_eqlL8 (L L' : List UInt8) (hL : L.length = 8) (hL' : L'.length = 8) (w : World) : (binOp .eql 23 (.agg (bA 8 (ofL L))) (.agg (bA 8 (ofL L')))).run Tryd.prog w = .ok (.bool (sameB L L')) w := run_eqlL _ 8 Tryd.underlying23 L L' hL hL' w
theorem run_eqlL16 (L L' : List UInt8) (hL : L.length = 16) (hL' : L'.length = 16) (w : World) : (binOp .eql 22 (.agg (bA 16 (ofL L))) (.agg (bA 16 (ofL L')))).run Tryd.prog w = .ok (.bool (sameB L L')) w := run_eqlL _ 16 Tryd.underlying22 L L' hL hL' w
theorem run_eqlL32 (L L' : List UInt8) (hL : L.length = 32) (hL' : L'.length = 32) (w : World) : (binOp .eql 36 (.agg (bA 32 (ofL L))) (.agg (bA 32 (ofL L')))).run Tryd.prog w = .ok (.bool (sameB L L')) w := run_eqlL _ 32 Tryd.underlying36 L L' hL hL' w
end Go.Proofs.YtcjbplgjjhenkaaDoor
