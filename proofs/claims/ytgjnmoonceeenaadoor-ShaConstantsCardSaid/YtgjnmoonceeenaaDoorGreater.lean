/-
  The reference's greater, by a contract.
-/
import Derived.Test.YtgjnmoonceeenaaDoorDigits
namespace Go.Proofs.YtgjnmoonceeenaaDoor
open Go.RowKit
set_option linter.unusedVariables false
set_option linter.unusedSimpArgs false

theorem memU_at {w : World} {q : Nat} {A : Option Addr} {l : List Nat} (h : MemU w q A (nl l)) {k : Nat} (hk : k < l.length) : ∃ o, A = some ⟨q, o, none⟩ ∧ w.cell? ⟨q, o + k, none⟩ = some (.int .u64 (dL l k : Int)) := by
  obtain ⟨o, ho, hc⟩ := h.at_ (k := k) (by rw [nl_len]; exact hk)
  refine ⟨o, ho, hc.trans ?_⟩
  congr 2
  simp [nl, dL, List.getD, List.getElem?_eq_getElem hk]
theorem dL_out {l : List Nat} {k : Nat} (h : l.length ≤ k) : dL l k = 0 := by
  unfold dL
  simp [List.getD, List.getElem?_eq_none h]
theorem cmp_at {a b : List Nat} {N j : Nat} (ha : Digs a) (hb : Digs b) (va : vF (dL a) N = val a) (vb : vF (dL b) N = val b) (hj : j < N) (he : ∀ m, j + 1 ≤ m → m < N → dL a m = dL b m) (hne : dL a j ≠ dL b j) :
    decide ((dL b j : Int) < (dL a j : Int)) = decide (val b < val a) := by
  rw [← va, ← vb]
  rcases Nat.lt_or_gt_of_ne hne with h | h
  · have := vF_cmp (f := dL b) (g := dL a) (i := j) (fun m _ => ha.at_ m) h N hj (fun m h1 h2 => (he m (by omega) h2).symm)
    rw [decide_eq_false (by omega), decide_eq_false (by omega)]
  · have := vF_cmp (f := dL a) (g := dL b) (i := j) (fun m _ => hb.at_ m) h N hj (fun m h1 h2 => he m (by omega) h2)
    rw [decide_eq_true (by omega), decide_eq_true (by omega)]
set_option maxHeartbeats 2000000 in
theorem rgreater_any (w : World) (qa qb : Nat) (Aa Ab : Option Addr) (ca cb : Nat) (a b : List Nat) (ha : Digs a) (hb : Digs b) (hma : MemU w qa Aa (nl a)) (hmb : MemU w qb Ab (nl b)) (hla : a.length ≤ 1000) (hlb : b.length ≤ 1000) :
    Calls Tryd.prog 31 #[.slice Aa a.length ca, .slice Ab b.length cb] w fun e w' => e = .returned (.bool (decide (val b < val a))) ∧ w = w' := by
  obtain ⟨N, hN⟩ : ∃ N, max a.length b.length = N := ⟨_, rfl⟩
  have hNa : a.length ≤ N := by omega
  have hNb : b.length ≤ N := by omega
  have hN1000 : N ≤ 1000 := by omega
  have va := val_wide a hNa
  have vb := val_wide b hNb
  have VA := kept va
  have VB := kept vb
  have DA := kept ha
  have DB := kept hb
  have HMA := kept hma
  have HMB := kept hmb
  clear va vb ha hb hma hmb
  go_enter Tryd.func31, Tryd.ntmps31
  go_wp2
  all_goals
    have hN' : (N : Int) = a.length ∧ ¬ a.length < b.length ∨ (N : Int) = b.length ∧ a.length < b.length := by omega
    have HN' := kept hN'
    clear hN hN'
    go_loopw [5] (fun i wr => ∃ k : Nat, k ≤ N ∧ i = .int .i64 ((k : Int) - 1) ∧ Kept (∀ m, k ≤ m → m < N → dL a m = dL b m) ∧ w = wr) (fun i _ => (intOf i + 1).toNat)
    case atStart => exact ⟨N, Nat.le_refl _, by congr 1; have := HN'.out; omega, kept (fun m h1 h2 => by omega), rfl⟩
    case round =>
      obtain ⟨k, hk, rfl, HE, rfl⟩ := hrel
      rcases k with _ | j
      · have hval : val a = val b := by rw [← VA.out, ← VB.out]; exact vF_congr N fun m hm => HE.out m (by omega) hm
        have hdec : decide (val b < val a) = false := by rw [hval]; simp
        have HDEC := kept hdec
        clear hval hdec
        go_wp2
        go_ret
        exact ⟨by rw [HDEC.out]; rfl, rfl⟩
      · have ej : (((j + 1 : Nat) : Int) - 1) = (j : Int) := by omega
        rw [ej]
        clear ej
        by_cases hja : j < a.length
        · obtain ⟨oa, rfl, ca1⟩ := memU_at HMA.out hja
          by_cases hjb : j < b.length
          · obtain ⟨ob, rfl, cb1⟩ := memU_at HMB.out hjb
            by_cases heq : dL a j = dL b j
            · have ht : ((dL a j : Int) != (dL b j : Int)) = false := by rw [bne_eq_false_iff_eq]; omega
              have HEQ := kept heq
              clear heq
              go_wp2
              go_roundw
              case rel =>
                refine ⟨j, by omega, rfl, kept (fun m h1 h2 => ?_), trivial⟩
                by_cases hm : m = j
                · subst hm; exact HEQ.out
                · exact HE.out m (by omega) h2
              case measure => simp [intOf]
            · have ht : ((dL a j : Int) != (dL b j : Int)) = true := by rw [bne_iff_ne]; omega
              have HC := kept (cmp_at DA.out DB.out VA.out VB.out (by omega) HE.out heq)
              clear heq
              go_wp2
              go_ret
              exact ⟨by rw [← HC.out]; simp, rfl⟩
          · have h0 := dL_out (l := b) (k := j) (by omega)
            by_cases heq : dL a j = dL b j
            · have ht : ((dL a j : Int) != (0 : Int)) = false := by rw [bne_eq_false_iff_eq]; omega
              have HEQ := kept heq
              clear heq
              go_wp2
              go_roundw
              case rel =>
                refine ⟨j, by omega, rfl, kept (fun m h1 h2 => ?_), trivial⟩
                by_cases hm : m = j
                · subst hm; exact HEQ.out
                · exact HE.out m (by omega) h2
              case measure => simp [intOf]
            · have ht : ((dL a j : Int) != (0 : Int)) = true := by rw [bne_iff_ne]; omega
              have HC := kept (cmp_at DA.out DB.out VA.out VB.out (by omega) HE.out heq)
              clear heq
              go_wp2
              go_ret
              exact ⟨by rw [← HC.out]; simp [h0], rfl⟩
        · have h0 := dL_out (l := a) (k := j) (by omega)
          have hjb : j < b.length := by have := HN'.out; omega
          obtain ⟨ob, rfl, cb1⟩ := memU_at HMB.out hjb
          by_cases heq : dL a j = dL b j
          · have ht : ((0 : Int) != (dL b j : Int)) = false := by rw [bne_eq_false_iff_eq]; omega
            have HEQ := kept heq
            clear heq
            go_wp2
            go_roundw
            case rel =>
              refine ⟨j, by omega, rfl, kept (fun m h1 h2 => ?_), trivial⟩
              by_cases hm : m = j
              · subst hm; exact HEQ.out
              · exact HE.out m (by omega) h2
            case measure => simp [intOf]
          · have ht : ((0 : Int) != (dL b j : Int)) = true := by rw [bne_iff_ne]; omega
            have HC := kept (cmp_at DA.out DB.out VA.out VB.out (by omega) HE.out heq)
            clear heq
            go_wp2
            go_ret
            exact ⟨by rw [← HC.out]; simp [h0], rfl⟩
end Go.Proofs.YtgjnmoonceeenaaDoor
