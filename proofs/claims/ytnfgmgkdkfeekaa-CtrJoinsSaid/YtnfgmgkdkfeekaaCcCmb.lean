/-
  Package ctr: bytes combined with others in place, by a contract.
-/
import Derived.Test.YtnfgmgkdkfeekaaCtrCry
import Derived.BigRegion
namespace Go.Proofs.Ytnfgmgkdkfeekaa
open Go.RowKit
set_option linter.unusedVariables false
set_option linter.unusedSimpArgs false

/-- The first k bytes of b combined with a stream from the place u on. -/
def mxL (f : Nat → UInt8) (u : Nat) (b : List UInt8) (k : Nat) : List UInt8 := (List.range b.length).map fun j => if j < k then gxr (f (u + j)) (b.getD j 0) else b.getD j 0
theorem mxL_len (f : Nat → UInt8) (u : Nat) (b : List UInt8) (k : Nat) : (mxL f u b k).length = b.length := by simp [mxL]
theorem mxL_at (f : Nat → UInt8) (u : Nat) (b : List UInt8) (k j : Nat) (hj : j < b.length) : (mxL f u b k)[j]? = some (if j < k then gxr (f (u + j)) (b.getD j 0) else b.getD j 0) := by
  unfold mxL
  rw [List.getElem?_map, List.getElem?_range hj]
  rfl
theorem mxL_zero (f : Nat → UInt8) (u : Nat) (b : List UInt8) : mxL f u b 0 = b := by
  apply List.ext_getElem?
  intro j
  by_cases hj : j < b.length
  · rw [mxL_at _ _ _ _ _ hj, if_neg (by omega)]
    simp [List.getD, hj]
  · rw [List.getElem?_eq_none (by rw [mxL_len]; omega), List.getElem?_eq_none (by omega)]
theorem mxL_all (f : Nat → UInt8) (u : Nat) (b : List UInt8) (k : Nat) (hk : b.length ≤ k) : mxL f u b k = sMix f u b := by
  apply List.ext_getElem?
  intro j
  by_cases hj : j < b.length
  · rw [mxL_at _ _ _ _ _ hj, if_pos (by omega), sMix_at _ _ _ _ hj]
    simp [List.getD, hj]
  · rw [List.getElem?_eq_none (by rw [mxL_len]; omega), List.getElem?_eq_none (by rw [sMix_len]; omega)]
theorem mxL_set (f : Nat → UInt8) (u : Nat) (b : List UInt8) (k : Nat) (x y : UInt8) (hk : k < b.length) (hx : (mxL f u b k)[k]? = some x) (hy : y = f (u + k)) : (mxL f u b k).set k (gxr x y) = mxL f u b (k + 1) := by
  rw [mxL_at _ _ _ _ _ hk, if_neg (by omega)] at hx
  injection hx with hx
  apply List.ext_getElem?
  intro j
  by_cases hj : j < b.length
  · rw [mxL_at _ _ _ _ _ hj, List.getElem?_set]
    by_cases e : k = j
    · subst e
      rw [if_pos rfl, if_pos (by rw [mxL_len]; exact hk), if_pos (by omega), hx, hy]
      congr 1
      exact UInt8.xor_comm _ _
    · rw [if_neg e, mxL_at _ _ _ _ _ hj]
      by_cases h : j < k
      · rw [if_pos h, if_pos (by omega)]
      · rw [if_neg h, if_neg (by omega)]
  · rw [List.getElem?_eq_none (by rw [List.length_set, mxL_len]; omega), List.getElem?_eq_none (by rw [mxL_len]; omega)]
set_option maxHeartbeats 2000000 in
set_option maxRecDepth 100000 in
/-- The bytes of a slice of the call's own from a place on are combined with an array's, as many as both have. -/
theorem ccomb_any (w : World) (B g gb o p n m c cb L c0 r u : Nat) (tb : TypeId) (f e : Nat → UInt8) (b : List UInt8) (hr : r = min n m) (ho : o + n = b.length) (hp : p + m ≤ 16) (hN : b.length ≤ 140737488355328) (hO : Own w B (.slice (some ⟨g, 0, none⟩) L c0) (mxL f u b o)) (hb : Blk w gb tb (bA 16 e)) (hne : g ≠ gb) (he : ∀ j, j < m → e (p + j) = f (u + (o + j))) :
    Calls Try.prog 23 #[.slice (some ⟨g, o, none⟩) n c, .slice (some ⟨gb, p, none⟩) m cb] w fun x w' => x = .returned (.int .i64 (r : Int)) ∧ Own w' B (.slice (some ⟨g, 0, none⟩) L c0) (mxL f u b (o + r)) ∧ w.grownBy w' (some g) := by
  have hn1 : n ≤ 140737488355328 := by omega
  have hm1 : m ≤ 16 := by omega
  have hrn : r ≤ n := by omega
  have hrm : r ≤ m := by omega
  have ho2 : o + r ≤ b.length := by omega
  have hp2 : p + r ≤ 16 := by omega
  have HG0 := kept (show Own w B (.slice (some ⟨g, 0, none⟩) L c0) (mxL f u b (o + 0)) from hO)
  have HB0 := kept hb
  have HR := kept hr
  have HF := kept he
  clear hO hb ho hp hr he
  go_enter Try.func23, Try.ntmps23
  go_wp2_with fail
  case' inl => obtain rfl : r = m := by have := HR.out; omega
  case' inr => obtain rfl : r = n := by have := HR.out; omega
  all_goals clear HR
  all_goals go_loopw [13] (fun k wr => ∃ j : Nat, j ≤ r ∧ k = .int .i64 j ∧ Kept (Own wr B (.slice (some ⟨g, 0, none⟩) L c0) (mxL f u b (o + j))) ∧ Kept (Blk wr gb tb (bA 16 e)) ∧ Kept (w.grownBy wr (some g))) (fun k _ => r - (intOf k).toNat)
  case atStart => exact ⟨0, Nat.zero_le _, rfl, HG0, HB0, kept (World.grownBy.refl w _)⟩
  case atStart => exact ⟨0, Nat.zero_le _, rfl, HG0, HB0, kept (World.grownBy.refl w _)⟩
  all_goals
    obtain ⟨j, hj, rfl, HG, HB, HW⟩ := hrel
    rename World => W1
    clear HG0 HB0
    by_cases hlt : j < r
    · have hji : (j : Int) < (r : Int) := by omega
      try have hjn : (j : Int) < (n : Int) := by omega
      try have hjm : (j : Int) < (m : Int) := by omega
      have hlen : o + j < (mxL f u b (o + j)).length := by rw [mxL_len]; omega
      obtain ⟨c1, f1, _⟩ := own_at HG.out (o + j) hlen
      have HE := kept (HF.out j (by omega))
      have c2 : W1.cell? ⟨gb, p + j, none⟩ = some (.int .u8 ((e (p + j)).toNat : Int)) := by rw [HB.out.cell]; exact bA_at _ _ (by omega)
      have HX0 := kept (List.getElem?_eq_getElem hlen)
      generalize (mxL f u b (o + j))[o + j] = x at c1 HX0
      generalize e (p + j) = y at c2 HE
      have HX := kept (gx8 x y)
      go_upto_region 5 with (fail)
      go_region
      go_wp2_with fail
      refine ⟨⟨j + 1, by omega, by go_num, kept ?_, kept ((HB.out.far hne.symm _).drew_), kept (gb_drew (gb_setCell HW.out (.inl rfl) _))⟩, by simp [intOf]; omega⟩
      rw [HX.out, ← Nat.add_assoc, ← mxL_set f u b (o + j) x y (by omega) HX0.out HE.out]
      exact (own_set HG.out (o + j) (gxr x y) hlen).drew
    · obtain rfl : j = r := by omega
      go_wp2
      go_ret
      exact ⟨rfl, HG.out, HW.out⟩
end Go.Proofs.Ytnfgmgkdkfeekaa
