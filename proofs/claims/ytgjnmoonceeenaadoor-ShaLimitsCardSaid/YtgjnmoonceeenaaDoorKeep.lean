/-
  append of bytes leaves what the slice held: the slice of before reads as it did.
-/
import Derived.Test.YtgjnmoonceeenaaDoorBytes
import Derived.Laws.Append
import Derived.Laws.AppendOwn
namespace Go.Proofs.YtgjnmoonceeenaaDoor
open Go.RowKit
set_option linter.unusedVariables false

theorem run_append_bytes_keep {P : Program} (w : World) (B : Nat) (t ty : TypeId) (i : TypeInfo) (ht : P.underlying t = some (.slice 5)) (hi : P.info? 5 = some i)
    (hz : i.zero = some (.int .u8 0)) (hs : i.size = 1) (hb : i.bytes = 1) (A : Option Addr) (n c : Nat) (l : List UInt8) (hown : Own w B (.slice A n c) l) (q : Nat) (hmem : Mem w q A l)
    (qs : Nat) (ad : Addr) (m cc : Nat) (s : List UInt8) (hm : m = s.length) (hsrc : Mem w qs (some ad) s) (hlen : l.length + s.length ≤ 140737488355328) (hB : B ≤ w.heap.size) :
    ∃ v' w', (Builtin.append_ #[t, t] ty #[.slice A n c, .slice (some ad) m cc]).run P w = .ok v' w' ∧ Own w' B v' (l ++ s) ∧ w.grownBy w' (Value.ownBlock (.slice A n c)) ∧ Mem w' q A l := by
  obtain ⟨v', w', hrun, ho, hg⟩ := run_append_bytes (P := P) w B t ty i ht hi hz hs hb (.slice A n c) l hown qs (some ad) m cc s hm hsrc hlen hB
  refine ⟨v', w', hrun, ho, hg, ?_⟩
  by_cases hne : l = []
  · exact .inl hne
  subst hm
  have hcells : ∀ j u, (s.map bv)[j]? = some u → w.cell? (ad.add j) = some u := by
    intro j u hu
    rw [List.getElem?_map] at hu
    cases hj : s[j]? with
    | none => rw [hj] at hu; cases hu
    | some b =>
      rw [hj] at hu
      simp only [Option.map_some, Option.some.injEq] at hu
      subst hu
      rcases hsrc with h | ⟨o, h, hc⟩
      · subst h; simp at hj
      · injection h with h
        subst h
        rw [Addr.add_mid]
        exact hc j b hj
  rcases hown.2 with ⟨hv, hl⟩ | ⟨g, cap, cur, hv, hg2, hh, hnc, hcm, hsz, htk⟩
  · exact absurd (List.length_eq_zero_iff.1 hl) hne
  · injection hv with hA hn hc
    subst hA hn hc
    rw [Nat.mul_one] at hsz
    by_cases hroom : l.length + s.length ≤ c
    · have hr := run_append_room (P := P) w t ty 5 i ht hi g l.length c cur hh ad s.length cc (s.map bv) (by simp [hs]) hcells (oneCell_bv s) hroom (by rw [hs, List.length_map]; omega)
      rw [hrun] at hr
      injection hr with _ hw
      subst hw
      rcases hmem with h | ⟨o, h, hc⟩
      · exact absurd h hne
      · injection h with h
        injection h with hq ho' _
        subst hq
        subst ho'
        refine .inr ⟨0, rfl, fun j b hj => ?_⟩
        have hjl : j < l.length := (List.getElem?_eq_some_iff.1 hj).1
        have h1 := hc j b hj
        rw [cell_of_row w g (0 + j) cur _ (0, 0) hh] at h1
        rw [cell_setRow_same w g (0 + j) cur _ _ (0, 0) hh, ← h1, hs, Nat.mul_one]
        rw [List.getElem?_toArray, List.append_assoc, List.getElem?_append_left (by simp; omega), List.getElem?_take, if_pos (by omega)]
        simp
    · have holds : ∀ j u, (l.map bv)[j]? = some u → w.cell? ((⟨g, 0, none⟩ : Addr).add j) = some u := World.ownsRow.cells (g := g) hown rfl
      have hr := run_append_grow (P := P) w t ty 5 i (.int .u8 0) ht hi hz ⟨g, 0, none⟩ l.length c (l.map bv) (by simp [hs]) holds ad s.length cc (s.map bv) (by simp [hs]) hcells (by omega) (by omega) (growslice_fits (by omega) (by rw [hb]; omega))
      rw [hrun] at hr
      injection hr with _ hw
      subst hw
      exact (hmem.drew).alloc _
theorem step_append_keep {P : Program} {w : World} {ops : Array Oper} {o : Oper} {a : Act} {K : Act → World → Prop} {Q : Exit → Act → World → Prop} {E : Prop} (hgd : Region.wanted o (yielded ops a.tmps) = true) (s x : Operand) (t : TypeId)
    (ho : o.op = .call { callee := .builtin .append, args := #[s, x], argTypes := #[t, t] })
    (B : Nat) (i : TypeInfo) (ht : P.underlying t = some (.slice 5)) (hi : P.info? 5 = some i) (hz : i.zero = some (.int .u8 0)) (hsz : i.size = 1) (hb : i.bytes = 1)
    (A : Option Addr) (n c : Nat) (l : List UInt8) (hs : a.eval s = .slice A n c) (hown : Own w B (.slice A n c) l) (q : Nat) (hmem : Mem w q A l) (qs : Nat) (ad : Addr) (m cc : Nat) (src : List UInt8) (hx : a.eval x = .slice (some ad) m cc) (hm : m = src.length)
    (hsrc : Mem w qs (some ad) src) (hlen : l.length + src.length ≤ 140737488355328) (hB : B ≤ w.heap.size)
    (h : ∀ v' w', Own w' B v' (l ++ src) → w.grownBy w' (Value.ownBlock (.slice A n c)) → Mem w' q A l → K (a.put o.dst v') w') :
    if Region.wanted o (yielded ops a.tmps) = true then Oper.wp P o a w K Q else E := by
  rw [if_pos hgd]
  obtain ⟨v', w', hrun, h2, h3, h4⟩ := run_append_bytes_keep (P := P) w B t o.type i ht hi hz hsz hb A n c l hown q hmem qs ad m cc src hm hsrc hlen hB
  unfold Oper.wp execOp
  simp only [ho, resolve, invoke, builtin, Sem.run_bind, Sem.run_pure, Result.andThen_ok, List.map_toArray, List.map_cons, List.map_nil, hs, hx, hrun]
  exact h v' w' h2 h3 h4
end Go.Proofs.YtgjnmoonceeenaaDoor
