/-
  Streams as plain functions: blocks of a nonce and a number, parts of a stream, bytes combined with it. No function of the program is named here.
-/
import Derived.Test.YtnfgmgkdkfeekaaAesEq
namespace Go.Proofs.Ytnfgmgkdkfeekaa
set_option linter.unusedVariables false

/-- The block of a nonce and a number. -/
def cBlk (nonce : Nat → UInt8) (i : Nat) : Nat → UInt8 := fun j => if j < 8 then nonce j else UInt8.ofNat (i / 256 ^ (15 - j) % 256)
def cEnc (key nonce : Nat → UInt8) (i : Nat) : Nat → UInt8 := aEnc key (cBlk nonce i)
/-- The stream. -/
def cStr (key nonce : Nat → UInt8) : Nat → UInt8 := fun p => cEnc key nonce (p / 16) (p % 16)
/-- A part of a stream. -/
def sPart (f : Nat → UInt8) (at' n : Nat) : List UInt8 := (List.range n).map fun j => f (at' + j)
theorem sPart_len (f : Nat → UInt8) (at' n : Nat) : (sPart f at' n).length = n := by simp [sPart]
theorem sPart_zero (f : Nat → UInt8) (at' : Nat) : sPart f at' 0 = [] := rfl
theorem sPart_succ (f : Nat → UInt8) (at' n : Nat) : sPart f at' (n + 1) = sPart f at' n ++ [f (at' + n)] := by
  unfold sPart
  rw [List.range_succ, List.map_append]
  rfl
theorem sPart_add (f : Nat → UInt8) (at' n m : Nat) : sPart f at' (n + m) = sPart f at' n ++ sPart f (at' + n) m := by
  induction m with
  | zero => rw [sPart_zero, List.append_nil]; rfl
  | succ m ih => rw [← Nat.add_assoc, sPart_succ, ih, sPart_succ, List.append_assoc, Nat.add_assoc]
theorem sPart_at (f : Nat → UInt8) (at' n j : Nat) (hj : j < n) : (sPart f at' n)[j]? = some (f (at' + j)) := by
  unfold sPart
  rw [List.getElem?_map, List.getElem?_range hj]
  rfl
/-- Bytes combined with a stream from a place on. -/
def sMix (f : Nat → UInt8) (at' : Nat) (b : List UInt8) : List UInt8 := (List.range b.length).map fun j => gxr (f (at' + j)) (b.getD j 0)
theorem sMix_len (f : Nat → UInt8) (at' : Nat) (b : List UInt8) : (sMix f at' b).length = b.length := by simp [sMix]
theorem sMix_at (f : Nat → UInt8) (at' : Nat) (b : List UInt8) (j : Nat) (hj : j < b.length) : (sMix f at' b)[j]? = some (gxr (f (at' + j)) (b[j]'hj)) := by
  unfold sMix
  rw [List.getElem?_map, List.getElem?_range hj]
  simp [List.getD, hj]
theorem sMix_back (f : Nat → UInt8) (at' : Nat) (b : List UInt8) : sMix f at' (sMix f at' b) = b := by
  apply List.ext_getElem?
  intro j
  by_cases hj : j < b.length
  · have hj2 : j < (sMix f at' b).length := by rw [sMix_len]; exact hj
    rw [sMix_at _ _ _ _ hj2, List.getElem?_eq_getElem hj]
    have h := sMix_at f at' b j hj
    rw [List.getElem?_eq_getElem hj2] at h
    injection h with h
    rw [h]
    congr 1
    unfold gxr
    rw [← UInt8.xor_assoc, UInt8.xor_self, UInt8.zero_xor]
  · rw [List.getElem?_eq_none (by rw [sMix_len, sMix_len]; omega), List.getElem?_eq_none (by omega)]
theorem sMix_append (f : Nat → UInt8) (at' : Nat) (a b : List UInt8) : sMix f at' (a ++ b) = sMix f at' a ++ sMix f (at' + a.length) b := by
  apply List.ext_getElem?
  intro j
  by_cases hj : j < a.length
  · rw [sMix_at _ _ _ _ (by rw [List.length_append]; omega), List.getElem?_append_left (by rw [sMix_len]; exact hj), sMix_at _ _ _ _ hj, List.getElem_append_left hj]
  · by_cases hj2 : j < (a ++ b).length
    · rw [List.length_append] at hj2
      rw [sMix_at _ _ _ _ (by rw [List.length_append]; omega), List.getElem?_append_right (by rw [sMix_len]; omega), sMix_len, sMix_at _ _ _ (j - a.length) (by omega), List.getElem_append_right (by omega), Nat.add_assoc, show a.length + (j - a.length) = j by omega]
    · rw [List.getElem?_eq_none (by rw [sMix_len]; omega), List.getElem?_eq_none (by rw [List.length_append, sMix_len, sMix_len]; rw [List.length_append] at hj2; omega)]
theorem sMix_nil (f : Nat → UInt8) (at' : Nat) : sMix f at' [] = [] := rfl
/-- What Stream returns. -/
def sStream (f : Nat → UInt8) (at' n : Int) : List UInt8 := if 0 ≤ at' ∧ at' ≤ 1099511627776 ∧ 0 ≤ n ∧ n ≤ 1048576 then sPart f at'.toNat n.toNat else []
theorem sStream_in (f : Nat → UInt8) (at' n : Nat) (h1 : at' ≤ 1099511627776) (h2 : n ≤ 1048576) : sStream f (at' : Int) (n : Int) = sPart f at' n := by
  unfold sStream
  rw [if_pos (by omega)]
  rfl
theorem sStream_len (f : Nat → UInt8) (at' n : Int) : (sStream f at' n).length ≤ 1048576 := by
  unfold sStream
  split
  · rw [sPart_len]; omega
  · simp

/-! ### Nonces and numbers apart -/
def Eq8 (f g : Nat → UInt8) : Prop := ∀ j, j < 8 → f j = g j
theorem cBlk_cong {n n' : Nat → UInt8} (h : Eq8 n n') (i : Nat) : cBlk n i = cBlk n' i := by
  funext j
  unfold cBlk
  by_cases hj : j < 8
  · rw [if_pos hj, if_pos hj, h j hj]
  · rw [if_neg hj, if_neg hj]
theorem cEnc_nonce (key n n' : Nat → UInt8) (i : Nat) (h : Eq16 (cEnc key n i) (cEnc key n' i)) : Eq8 n n' := fun j hj => by
  have := aEnc_inj key h j (by omega)
  unfold cBlk at this
  rwa [if_pos hj, if_pos hj] at this
theorem cEnc_next (key n : Nat → UInt8) (i i' : Nat) (hi : i' % 256 = (i + 1) % 256) : ¬ Eq16 (cEnc key n i) (cEnc key n i') := fun h => by
  have := aEnc_inj key h 15 (by omega)
  unfold cBlk at this
  rw [if_neg (by omega), if_neg (by omega), show 15 - 15 = 0 by omega, Nat.pow_zero, Nat.div_one, Nat.div_one] at this
  have h2 := congrArg UInt8.toNat this
  rw [UInt8.toNat_ofNat', UInt8.toNat_ofNat'] at h2
  omega
end Go.Proofs.Ytnfgmgkdkfeekaa
