/-
  Numbers to the base 65536: the value of digits that are given by a function; what a store, a carry and a comparison do to it.
-/
import Derived.Test.YtgjnmoonceeenaaDoorBytes
namespace Go.Proofs.YtgjnmoonceeenaaDoor
set_option linter.unusedVariables false

def vF (f : Nat → Nat) : Nat → Nat
  | 0 => 0
  | n + 1 => vF f n + f n * 65536 ^ n
theorem vF_congr {f g : Nat → Nat} : ∀ n, (∀ i, i < n → f i = g i) → vF f n = vF g n
  | 0, _ => rfl
  | n + 1, h => by rw [vF, vF, vF_congr n (fun i hi => h i (by omega)), h n (by omega)]
theorem vF_set (f : Nat → Nat) (k x : Nat) : ∀ n, k < n → vF (fun j => if j = k then x else f j) n + f k * 65536 ^ k = vF f n + x * 65536 ^ k
  | 0, h => by omega
  | n + 1, h => by
    rw [vF, vF]
    by_cases e : n = k
    · subst e
      rw [if_pos rfl, vF_congr (g := f) n (fun i hi => if_neg (by omega))]
      omega
    · have := vF_set f k x n (by omega)
      rw [if_neg e]
      omega
theorem vF_lt {f : Nat → Nat} : ∀ n, (∀ i, i < n → f i < 65536) → vF f n < 65536 ^ n
  | 0, _ => by simp [vF]
  | n + 1, h => by
    have h1 := vF_lt n fun i hi => h i (by omega)
    have h2 : f n * 65536 ^ n ≤ 65535 * 65536 ^ n := Nat.mul_le_mul_right _ (by have := h n (by omega); omega)
    rw [vF, Nat.pow_succ]
    omega
theorem vF_ge {f : Nat → Nat} {k : Nat} : ∀ n, k < n → f k * 65536 ^ k ≤ vF f n
  | 0, h => by omega
  | n + 1, h => by
    rw [vF]
    by_cases e : k = n
    · subst e; omega
    · have := vF_ge n (show k < n by omega) (f := f)
      omega
theorem vF_mono {f : Nat → Nat} {m : Nat} : ∀ n, m ≤ n → vF f m ≤ vF f n
  | 0, h => by
    obtain rfl : m = 0 := by omega
    exact Nat.le_refl _
  | n + 1, h => by
    by_cases e : m = n + 1
    · subst e; exact Nat.le_refl _
    · have := vF_mono n (show m ≤ n by omega) (f := f)
      rw [vF]
      omega
theorem vF_zero {f : Nat → Nat} {m : Nat} : ∀ n, m ≤ n → (∀ i, m ≤ i → i < n → f i = 0) → vF f n = vF f m
  | 0, h, _ => by
    obtain rfl : m = 0 := by omega
    rfl
  | n + 1, h, hz => by
    by_cases e : m = n + 1
    · subst e; rfl
    · rw [vF, vF_zero n (by omega) (fun i h1 h2 => hz i h1 (by omega)), hz n (by omega) (by omega)]
      omega
/-- The first different digit from above decides. -/
theorem vF_cmp {f g : Nat → Nat} {i : Nat} (hg : ∀ m, m < i → g m < 65536) (h : g i < f i) : ∀ n, i < n → (∀ m, i < m → m < n → f m = g m) → vF g n < vF f n
  | 0, hi, _ => by omega
  | n + 1, hi, he => by
    rw [vF, vF]
    by_cases e : n = i
    · subst e
      have h1 := vF_lt n hg
      have h2 : (g n + 1) * 65536 ^ n ≤ f n * 65536 ^ n := Nat.mul_le_mul_right _ h
      rw [Nat.add_mul] at h2
      omega
    · have := vF_cmp hg h n (by omega) (fun m h1 h2 => he m h1 (by omega))
      rw [he n (by omega) (by omega)]
      omega
/-- The digits of a list, and its value. -/
def dL (l : List Nat) : Nat → Nat := fun i => l.getD i 0
def val (l : List Nat) : Nat := vF (dL l) l.length
def Digs (l : List Nat) : Prop := ∀ x ∈ l, x < 65536
theorem Digs.at_ {l : List Nat} (h : Digs l) (i : Nat) : dL l i < 65536 := by
  unfold dL
  rw [List.getD_eq_getElem?_getD]
  cases e : l[i]? with
  | none => simp
  | some x => exact h x (List.mem_of_getElem? e)
theorem val_lt {l : List Nat} (h : Digs l) : val l < 65536 ^ l.length := vF_lt _ fun i _ => h.at_ i
theorem val_wide (l : List Nat) {n : Nat} (h : l.length ≤ n) : vF (dL l) n = val l :=
  vF_zero n h fun i h1 _ => by unfold dL; simp [List.getD, List.getElem?_eq_none h1]
theorem val_snoc (l : List Nat) (x : Nat) : val (l ++ [x]) = val l + x * 65536 ^ l.length := by
  unfold val
  rw [List.length_append, List.length_singleton, vF]
  congr 1
  · exact vF_congr _ fun i hi => by unfold dL; simp [List.getD, List.getElem?_append_left hi]
  · unfold dL
    simp [List.getD]
theorem vF_shift (f : Nat → Nat) : ∀ n, vF (fun i => if i = 0 then 0 else f (i - 1)) (n + 1) = vF f n * 65536
  | 0 => by simp [vF]
  | n + 1 => by
    rw [vF, vF_shift f n, vF, Nat.add_mul, if_neg (by omega), show n + 1 - 1 = n by omega, Nat.pow_succ, Nat.mul_assoc]
theorem val_cons (l : List Nat) : val (0 :: l) = val l * 65536 := by
  unfold val
  rw [List.length_cons, ← vF_shift]
  refine vF_congr _ fun i _ => ?_
  unfold dL
  rcases i with _ | i
  · simp
  · simp
theorem carry_fits {f : Nat → Nat} {T j V : Nat} (hj : j < T) (hv : vF f T = V) (hV : V < 65536 ^ (T - 1)) (hb : 65536 ≤ f j) : j + 1 < T := by
  have h1 := vF_ge T hj (f := f)
  have h2 : 65536 * 65536 ^ j ≤ f j * 65536 ^ j := Nat.mul_le_mul_right _ hb
  have h3 : 65536 ^ (j + 1) < 65536 ^ (T - 1) := by rw [Nat.pow_succ]; omega
  have := (Nat.pow_lt_pow_iff_right (show 1 < 65536 by omega)).1 h3
  omega
/-- One carry. -/
theorem carry_step (f : Nat → Nat) (T j : Nat) (hj : j + 1 < T) :
    vF (fun m => if m = j then f j % 65536 else if m = j + 1 then f (j + 1) + f j / 65536 else f m) T = vF f T := by
  have h1 := vF_set f (j + 1) (f (j + 1) + f j / 65536) T hj
  have h2 := vF_set (fun m => if m = j + 1 then f (j + 1) + f j / 65536 else f m) j (f j % 65536) T (by omega)
  simp only [show ¬ (j = j + 1) by omega, if_false] at h2
  have e : f j * 65536 ^ j = (f j / 65536) * 65536 ^ (j + 1) + (f j % 65536) * 65536 ^ j := by
    have := Nat.div_add_mod (f j) 65536
    conv => lhs; rw [← this]
    rw [Nat.add_mul, Nat.pow_succ, Nat.mul_comm 65536 (f j / 65536), Nat.mul_assoc, Nat.mul_comm 65536]
  rw [Nat.add_mul] at h1
  omega
end Go.Proofs.YtgjnmoonceeenaaDoor
