/-
  slices.Concat over slices of byte slices, by a contract.
-/
import Derived.Test.YtgplkdnffbappaaDoorMacMath
import Derived.Deep.AppendLies
namespace Go.Proofs.YtgplkdnffbappaaDoor
open Go.RowKit
set_option linter.unusedVariables false
set_option linter.unusedSimpArgs false

/-- At address A (of block q) lie the values vs; of an empty list nothing is said. -/
def MemV (w : World) (q : Nat) (A : Option Addr) (vs : List Value) : Prop :=
  vs = [] ∨ ∃ o, A = some ⟨q, o, none⟩ ∧ ∀ j v, vs[j]? = some v → w.cell? ⟨q, o + j, none⟩ = some v
theorem MemV.below0 {w w' : World} {q : Nat} {A : Option Addr} {vs : List Value} (h : MemV w q A vs) (hb : Below w.heap.size w w') : MemV w' q A vs := by
  rcases h with h | ⟨o, ho, hc⟩
  · exact .inl h
  · exact .inr ⟨o, ho, fun j v hj => (hb.cell (p := ⟨q, o + j, none⟩) (World.block_lt_of_cell? w _ (hc j v hj))).trans (hc j v hj)⟩
/-- At address A lie slices of one-cell values, which read as VL. -/
def MemVV (w : World) (q : Nat) (A : Option Addr) (VL : List (List Value)) : Prop :=
  VL = [] ∨ ∃ o, A = some ⟨q, o, none⟩ ∧ ∀ j vs, VL[j]? = some vs → ∃ A' q' c', w.cell? ⟨q, o + j, none⟩ = some (.slice A' vs.length c') ∧ MemV w q' A' vs ∧ ∀ v ∈ vs, v.oneCell' = true
theorem MemVV.at_ {w : World} {q : Nat} {A : Option Addr} {VL : List (List Value)} {j : Nat} (h : MemVV w q A VL) (hj : j < VL.length) :
    ∃ o A' q' c', A = some ⟨q, o, none⟩ ∧ w.cell? ⟨q, o + j, none⟩ = some (.slice A' (VL[j]'hj).length c') ∧ MemV w q' A' (VL[j]'hj) ∧ ∀ v ∈ VL[j]'hj, v.oneCell' = true := by
  rcases h with rfl | ⟨o, ho, hc⟩
  · simp at hj
  · obtain ⟨A', q', c', h1, h2, h3⟩ := hc j _ (List.getElem?_eq_getElem hj)
    exact ⟨o, A', q', c', ho, h1, h2, h3⟩
theorem MemVV.below0 {w w' : World} {q : Nat} {A : Option Addr} {VL : List (List Value)} (h : MemVV w q A VL) (hb : Below w.heap.size w w') : MemVV w' q A VL := by
  rcases h with rfl | ⟨o, ho, hc⟩
  · exact .inl rfl
  · refine .inr ⟨o, ho, fun j l hj => ?_⟩
    obtain ⟨A', q', c', h1, h2, h3⟩ := hc j l hj
    exact ⟨A', q', c', (hb.cell (p := ⟨q, o + j, none⟩) (World.block_lt_of_cell? w _ h1)).trans h1, h2.below0 hb, h3⟩
/-- v is a slice of byte slices of the call's own that holds just the values vs. -/
def OwnV (w : World) (B : Nat) (v : Value) (vs : List Value) : Prop := w.ownsRow B 22 1 v vs.length vs
theorem sl_info : (Tryd.prog.info? 22).map (fun i => (i.zero, i.size, i.bytes)) = some (some (.slice none 0 0), 1, 24) := by kernel_rfl

theorem run_append_vals {P : Program} (w : World) (B : Nat) (t ty : TypeId) (i : TypeInfo) (ht : P.underlying t = some (.slice 22)) (hi : P.info? 22 = some i)
    (hz : i.zero = some (.slice none 0 0)) (hs : i.size = 1) (hb : i.bytes = 24) (v : Value) (l : List Value) (hown : OwnV w B v l)
    (q : Nat) (A : Option Addr) (m c : Nat) (s : List Value) (hm : m = s.length) (hsrc : MemV w q A s) (h1 : ∀ u ∈ s, u.oneCell' = true) (hlen : (l.length + s.length) * 24 ≤ 140737488355328) (hB : B ≤ w.heap.size) :
    ∃ v' w', (Builtin.append_ #[t, t] ty #[v, .slice A m c]).run P w = .ok v' w' ∧ OwnV w' B v' (l ++ s) ∧ w.grownBy w' v.ownBlock := by
  subst hm
  cases A with
  | none =>
    have hn : s = [] := by
      rcases hsrc with h | ⟨o, h, _⟩
      · exact h
      · cases h
    subst hn
    refine ⟨v, w, ?_, by simpa using hown, World.grownBy.refl w _⟩
    rcases hown.2 with ⟨rfl, hl⟩ | ⟨g, cap, cur, rfl, _, _, hnc, _⟩
    · simp [Builtin.append_, run_underlying ht, sizeOf, typeInfo, hi, Builtin.lenOf, Builtin.firstCells]
    · simp [Builtin.append_, run_underlying ht, sizeOf, typeInfo, hi, Builtin.lenOf, Builtin.firstCells, hnc, storeCells]
  | some ad =>
    have hcells : ∀ j u, s[j]? = some u → w.cell? (ad.add j) = some u := by
      intro j u hu
      rcases hsrc with h | ⟨o, h, hc⟩
      · subst h; simp at hu
      · injection h with h
        subst h
        rw [Addr.add_mid]
        exact hc j u hu
    obtain ⟨v', w', hrun, h2, h3, _⟩ := run_append_own_at (P := P) w B t ty 22 i (.slice none 0 0) 1 24 ht hi hz hs hb rfl (by omega) v l.length l hown ad s.length c s (by simp) hcells h1
      (by unfold maxLen; omega) (by omega) hB
    exact ⟨v', w', hrun, by unfold OwnV; simpa using h2, h3⟩
theorem wpList_append_vals {P : Program} {w : World} {ops : Array Oper} {rest : List Oper} {o : Oper} {a : Act} {Q : Exit → Act → World → Prop} (hgd : o.guard = none) (s x : Operand) (t : TypeId)
    (ho : o.op = .call { callee := .builtin .append, args := #[s, x], argTypes := #[t, t] })
    (B : Nat) (i : TypeInfo) (ht : P.underlying t = some (.slice 22)) (hi : P.info? 22 = some i) (hz : i.zero = some (.slice none 0 0)) (hsz : i.size = 1) (hb : i.bytes = 24)
    (v : Value) (l : List Value) (hs : a.eval s = v) (hown : OwnV w B v l) (q : Nat) (A : Option Addr) (m c : Nat) (src : List Value) (hx : a.eval x = .slice A m c) (hm : m = src.length)
    (hsrc : MemV w q A src) (h1 : ∀ u ∈ src, u.oneCell' = true) (hlen : (l.length + src.length) * 24 ≤ 140737488355328) (hB : B ≤ w.heap.size)
    (h : ∀ v' w', OwnV w' B v' (l ++ src) → w.grownBy w' v.ownBlock → wpList P ops Q rest (a.put o.dst v') w') : wpList P ops Q (o :: rest) a w := by
  refine wpList_plain hgd fun K hK => ?_
  obtain ⟨v', w', hrun, h2, h3⟩ := run_append_vals (P := P) w B t o.type i ht hi hz hsz hb v l hown q A m c src hm hsrc h1 hlen hB
  unfold Oper.wp execOp
  simp only [ho, resolve, invoke, builtin, Sem.run_bind, Sem.run_pure, Result.andThen_ok, List.map_toArray, List.map_cons, List.map_nil, hs, hx, hrun]
  exact hK _ _ (h v' w' h2 h3)

theorem growM_nil (w : World) (n : Nat) (hn : n * 24 ≤ 140737488355328) : Calls Tryd.prog 34 #[.slice none 0 0, .int .i64 n] w fun e w' => ∃ v, e = .returned v ∧ OwnV w' w.heap.size v [] ∧ Below w.heap.size w w' := by
  have h5 : Tryd.t22.bytes = 24 := by kernel_rfl
  by_cases h0 : n = 0
  · subst h0
    go_enter Tryd.func34, Tryd.ntmps34
    go_wp2_with fail
    go_ret
    exact ⟨_, rfl, World.ownsRow_nil _ _ _ 1, Below.refl _ _⟩
  · have hp : 0 < n := by omega
    have hnc := nextslicecap_zero hp
    go_enter Tryd.func34, Tryd.ntmps34
    go_wp2_with fail
    go_ret
    have h1 := grownCap_ge w n 0 22
    have h2 := grownCap_le_maxLen w n 0 22 (by unfold maxLen; omega)
    refine ⟨_, rfl, ?_, ((Below.refl _ _).alloc (Nat.le_refl _) _).drew⟩
    show OwnV _ _ (.slice _ 0 (grownCap w n 0 22)) _
    refine ⟨by simp, .inr ⟨w.heap.size, grownCap w n 0 22, _, rfl, Nat.le_refl _, heap_alloc_new w _, Nat.zero_le _, h2, ?_, by simp⟩⟩
    rw [Array.size_append, size_zeroCells, size_zeroCells]
    show n * 1 + (grownCap w n 0 22 - n) * 1 = _
    omega

theorem vsum_take_le {α : Type} (L : List (List α)) (j : Nat) : ((L.take j).map List.length).sum ≤ (L.map List.length).sum := by
  have h : L.map List.length = (L.take j).map List.length ++ (L.drop j).map List.length := by rw [← List.map_append, List.take_append_drop]
  rw [h, List.sum_append]
  omega
theorem vsum_take_succ {α : Type} (L : List (List α)) (j : Nat) (h : j < L.length) : ((L.take (j + 1)).map List.length).sum = ((L.take j).map List.length).sum + (L[j]'h).length := by
  rw [List.take_succ_eq_append_getElem h, List.map_append, List.sum_append, List.map_singleton, List.sum_singleton]
theorem vflatten_take_succ {α : Type} (L : List (List α)) (j : Nat) (h : j < L.length) : (L.take (j + 1)).flatten = (L.take j).flatten ++ L[j]'h := by
  rw [List.take_succ_eq_append_getElem h, List.flatten_append, List.flatten_singleton]
theorem concatM_any (w : World) (q : Nat) (A : Option Addr) (n c : Nat) (L : List (List Value)) (hn : n = L.length) (hm : MemVV w q A L) (hL : L.length ≤ 9223372036854775807) (hs : (L.map List.length).sum * 24 ≤ 140737488355328) :
    Calls Tryd.prog 25 #[.slice A n c] w fun e w' => ∃ v, e = .returned v ∧ OwnV w' w.heap.size v L.flatten ∧ Below w.heap.size w w' := by
  subst hn
  go_enter Tryd.func25, Tryd.ntmps25
  go_wp2_with fail
  go_loop [3, 11] (fun t i => ∃ j : Nat, j ≤ L.length ∧ i = .int .i64 j ∧ t = .int .i64 ((L.take j).map List.length).sum) (fun _ i => L.length - (intOf i).toNat)
  case atStart => exact ⟨0, Nat.zero_le _, rfl, by simp⟩
  case round =>
    obtain ⟨j, hj, rfl, rfl⟩ := hrel
    by_cases hlt : j < L.length
    · obtain ⟨o, A', q', c', rfl, hc, _⟩ := hm.at_ hlt
      have hle := vsum_take_le L (j + 1)
      have hsu := vsum_take_succ L j hlt
      generalize hS : ((L.take j).map List.length).sum = S at *
      generalize hS1 : ((L.take (j + 1)).map List.length).sum = S1 at *
      generalize hl : (L[j]'hlt) = lj at *
      have hb : S + lj.length ≤ 140737488355328 := by omega
      have HSU := Lib.hid hsu
      have HS := Lib.hid hS
      have HS1 := Lib.hid hS1
      have HL := Lib.hid hl
      clear hsu hS hS1 hl
      go_wp2
      go_round
      case rel => exact ⟨j + 1, by omega, by go_num, by rw [HS1.out, HSU.out]; go_num⟩
      case measure => simp [intOf]; omega
    · have e : L.take j = L := List.take_of_length_le (by omega)
      have hs' : ((L.take j).map List.length).sum * 24 ≤ 140737488355328 := by rw [e]; exact hs
      generalize ((L.take j).map List.length).sum = S at *
      have HE := Lib.hid e
      clear e
      go_wp2_with (first | (go_at_call 34; refine (growM_nil _ S hs').mono ?_; rintro e w1 ⟨v0, rfl, hown0, hb0⟩))
      obtain ⟨i0, hi0, hz0, hs0, hbb0⟩ := info_parts sl_info
      go_loopw [6, 27] (fun v i wr => ∃ j : Nat, j ≤ L.length ∧ i = .int .i64 j ∧ OwnV wr w.heap.size v (L.take j).flatten ∧ Below w.heap.size w wr) (fun _ i _ => L.length - (intOf i).toNat)
      case atStart => exact ⟨0, Nat.zero_le _, rfl, by simpa using hown0, hb0⟩
      case round =>
        obtain ⟨j, hj, rfl, hown, hbw⟩ := hrel
        by_cases hlt : j < L.length
        · obtain ⟨o, A', q', c', rfl, hc, hmj, hone⟩ := (hm.below0 hbw).at_ hlt
          have hfl := vflatten_take_succ L j hlt
          have hln := congrArg List.length hfl
          rw [List.length_append, List.length_flatten, List.length_flatten] at hln
          have hle := vsum_take_le L (j + 1)
          have hb : ((L.take j).flatten.length + (L[j]'hlt).length) * 24 ≤ 140737488355328 := by rw [List.length_flatten]; omega
          generalize (L.take j).flatten = F at *
          generalize hl : (L[j]'hlt) = lj at *
          have HFL := Lib.hid hfl
          have HL := Lib.hid hl
          have HONE := Lib.hid hone
          clear hfl hln hl hm hone
          go_wp2_with (first | (at_builtin; refine wpList_append_vals rfl _ _ 23 rfl w.heap.size i0 Tryd.underlying23 hi0 hz0 hs0 hbb0 _ F rfl hown q' A' lj.length c' lj rfl rfl hmj HONE.out hb hbw.size ?_; intro v1 w2 hown1 hg1))
          have hbw2 : Below w.heap.size w w2 := hbw.grown hg1 hbw.size (fun k hk => (World.ownsRow.lt hown k hk).1)
          go_wp2
          go_roundw
          case rel => exact ⟨j + 1, by omega, by go_num, by rw [HFL.out]; exact hown1, hbw2⟩
          case measure => simp [intOf]; omega
        · have e : L.take j = L := List.take_of_length_le (by omega)
          rw [e] at hown
          go_wp2
          go_ret
          exact ⟨_, rfl, hown, hbw⟩
end Go.Proofs.YtgplkdnffbappaaDoor
