/-
  What the laws of layer 9 share: arrays compared, slices of arrays, two new blocks, a guard without a value.
-/
import Derived.Test.YtcjbplgjjhenkaaDoorSm38
import Derived.Test.YtcjbplgjjhenkaaDoorSm15
import Derived.Test.YtcjbplgjjhenkaaDoorSm4
namespace Go.Proofs.YtcjbplgjjhenkaaDoor
open Go.RowKit
set_option linter.unusedVariables false
set_option linter.unusedSimpArgs false

theorem guard_undef {ops : Array Oper} {o : Oper} {a : Act} (j : Nat) (want : Bool) (d : Tmp) (hg : o.guard = some (j, want)) (hd : (ops[j]?).bind (·.dst) = some d) (hv : a.tmps[d]? = some undef) : Region.wanted o (yielded ops a.tmps) = false := by
  have hy : yielded ops a.tmps j = none := by
    unfold yielded
    simp only [hd, Option.bind_some, hv]
    rfl
  unfold Region.wanted
  simp only [hg, hy]
  cases want <;> rfl
theorem run_equalInL16 (L L' : List UInt8) (hL : L.length = 16) (hL' : L'.length = 16) (w : World) : (Op.equalIn 10000 22 (.agg (bA 16 (ofL L))) (.agg (bA 16 (ofL L')))).run Tryd.prog w = .ok (sameB L L') w := by
  rw [← eqn_same 16 L L' hL hL']
  exact run_equalIn_arr 9998 _ _ 16 Tryd.underlying22 .u8 Tryd.underlying5 u8_size _ _ .u8 (fun i => ((ofL L i).toNat : Int)) (fun i => ((ofL L' i).toNat : Int)) (fun i hi => bA_at _ _ hi) (fun i hi => bA_at _ _ hi) w
theorem sealO_len (K : List UInt8) (u : UInt8) (s : List UInt8) : ((sealO K u s).getD []).length ≤ s.length := by
  unfold sealO
  split
  · show (sealB K s).length ≤ s.length
    unfold sealB
    rw [sMix_len, List.length_drop, List.length_take]
    omega
  · simp
theorem gxr_ne (x d : UInt8) (h : d ≠ 0) : gxr x d ≠ x := fun e => by
  apply h
  have h2 : x ^^^ (x ^^^ d) = x ^^^ x := congrArg (fun z => x ^^^ z) e
  rw [← UInt8.xor_assoc, UInt8.xor_self, UInt8.zero_xor] at h2
  exact h2
/-- A sealed string whose code is changed is not opened. -/
theorem sealO_changed (K : List UInt8) (u : UInt8) (F C S : List UInt8) (hS : S = F ++ C) (hC : sealC K u F = C) (hl : C.length = 16) (i : Nat) (x y : UInt8) (hF : F.length ≤ i) (hy : S[i]? = some y) (hne : x ≠ y) : sealO K u (S.set i x) = none := by
  subst hS
  rw [List.getElem?_append_right hF] at hy
  rw [List.set_append_right _ _ hF]
  refine sealO_code K u F _ (by rw [List.length_set]; exact hl) ?_
  rw [hC]
  intro e
  have h2 : (C.set (i - F.length) x)[i - F.length]? = some x := by rw [List.getElem?_set_self (List.getElem?_eq_some_iff.1 hy).1]
  rw [e, hy] at h2
  injection h2 with h2
  exact hne h2.symm
end Go.Proofs.YtcjbplgjjhenkaaDoor
