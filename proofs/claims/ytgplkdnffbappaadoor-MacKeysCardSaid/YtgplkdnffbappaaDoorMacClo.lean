/-
  The function that coder hands back, by a contract.
-/
import Derived.Test.YtgplkdnffbappaaDoorMacCat
import Derived.Test.YtgplkdnffbappaaDoorMacCoder
import Derived.StillTailTactics
import Derived.Deep.Cut
namespace Go.Proofs.YtgplkdnffbappaaDoor
open Go.RowKit
set_option linter.unusedVariables false
set_option linter.unusedSimpArgs false

/-- The values vs are slices of bytes that read as L. -/
def Hdrs (w : World) (vs : List Value) (L : List (List UInt8)) : Prop :=
  vs.length = L.length ∧ ∀ (j : Nat) (l : List UInt8), L[j]? = some l → ∃ (A' : Option Addr) (q' c' : Nat), vs[j]? = some (Value.slice A' l.length c') ∧ Mem w q' A' l ∧ l.length ≤ c'
theorem Hdrs.below0 {w w' : World} {vs : List Value} {L : List (List UInt8)} (h : Hdrs w vs L) (hb : Below w.heap.size w w') : Hdrs w' vs L :=
  ⟨h.1, fun j l hj => by
    obtain ⟨A', q', c', h1, h2, h3⟩ := h.2 j l hj
    exact ⟨A', q', c', h1, h2.below0 hb, h3⟩⟩
theorem Hdrs.one {w : World} {vs : List Value} {L : List (List UInt8)} (h : Hdrs w vs L) : ∀ v ∈ vs, v.oneCell' = true := by
  intro v hv
  obtain ⟨j, hj, rfl⟩ := List.getElem_of_mem hv
  obtain ⟨A', q', c', h1, _⟩ := h.2 j _ (List.getElem?_eq_getElem (by rw [← h.1]; exact hj))
  rw [List.getElem?_eq_getElem hj] at h1
  rw [Option.some.inj h1]
  rfl
theorem Hdrs.append {w : World} {vs us : List Value} {L M : List (List UInt8)} (h : Hdrs w vs L) (k : Hdrs w us M) : Hdrs w (vs ++ us) (L ++ M) := by
  refine ⟨by rw [List.length_append, List.length_append, h.1, k.1], fun j l hj => ?_⟩
  by_cases hlt : j < L.length
  · rw [List.getElem?_append_left hlt] at hj
    rw [List.getElem?_append_left (by rw [h.1]; exact hlt)]
    exact h.2 j l hj
  · rw [List.getElem?_append_right (by omega)] at hj
    rw [List.getElem?_append_right (by rw [h.1]; omega), h.1]
    exact k.2 _ l hj
theorem hdrs_one {w : World} {q c : Nat} {A : Option Addr} {l : List UInt8} (h : Mem w q A l) (hc : l.length ≤ c) : Hdrs w [.slice A l.length c] [l] := by
  refine ⟨rfl, fun j l' hj => ?_⟩
  rcases j with _ | j
  · obtain rfl : l = l' := by simpa using hj
    exact ⟨A, q, c, rfl, h, hc⟩
  · simp at hj
theorem memM_vals {w : World} {q : Nat} {A : Option Addr} {L : List (List UInt8)} (h : MemM w q A L) : ∃ vs, MemV w q A vs ∧ Hdrs w vs L := by
  rcases h with rfl | ⟨o, ho, hc⟩
  · exact ⟨[], .inl rfl, rfl, fun j l hj => by simp at hj⟩
  · have each : ∀ j, j < L.length → ∃ v, w.cell? ⟨q, o + j, none⟩ = some v ∧ ∀ l, L[j]? = some l → ∃ A' q' c', v = Value.slice A' l.length c' ∧ Mem w q' A' l ∧ l.length ≤ c' := by
      intro j hj
      obtain ⟨A', q', c', h1, h2, h3⟩ := hc j _ (List.getElem?_eq_getElem hj)
      refine ⟨_, h1, fun l hl => ?_⟩
      rw [List.getElem?_eq_getElem hj] at hl
      obtain rfl := Option.some.inj hl
      exact ⟨A', q', c', rfl, h2, h3⟩
    have hall : ∀ j, ∃ v, j < L.length → (w.cell? ⟨q, o + j, none⟩ = some v ∧ ∀ l, L[j]? = some l → ∃ A' q' c', v = Value.slice A' l.length c' ∧ Mem w q' A' l ∧ l.length ≤ c') := by
      intro j
      by_cases hj : j < L.length
      · obtain ⟨v, hv⟩ := each j hj
        exact ⟨v, fun _ => hv⟩
      · exact ⟨.slice none 0 0, fun h => absurd h hj⟩
    refine ⟨(List.range L.length).map fun j => Classical.choose (hall j), .inr ⟨o, ho, fun j v hj => ?_⟩, by simp, fun j l hj => ?_⟩
    · rw [List.getElem?_map] at hj
      by_cases hlt : j < L.length
      · rw [List.getElem?_range hlt] at hj
        obtain rfl := Option.some.inj hj
        exact (Classical.choose_spec (hall j) hlt).1
      · rw [List.getElem?_eq_none (by simpa using hlt)] at hj
        cases hj
    · have hlt := (List.getElem?_eq_some_iff.1 hj).1
      obtain ⟨A', q', c', h1, h2, h3⟩ := (Classical.choose_spec (hall j) hlt).2 l hj
      exact ⟨A', q', c', by rw [List.getElem?_map, List.getElem?_range hlt, Option.map_some, h1], h2, h3⟩
theorem memM_of {w : World} {q : Nat} {A : Option Addr} {vs : List Value} {L : List (List UInt8)} (h : MemV w q A vs) (k : Hdrs w vs L) : MemM w q A L := by
  rcases h with h | ⟨o, ho, hc⟩
  · subst h
    exact .inl (List.length_eq_zero_iff.1 k.1.symm)
  · refine .inr ⟨o, ho, fun j l hj => ?_⟩
    obtain ⟨A', q', c', h1, h2, h3⟩ := k.2 j l hj
    exact ⟨A', q', c', hc j _ h1, h2, h3⟩
theorem OwnV.form {w : World} {B : Nat} {v : Value} {vs : List Value} (h : OwnV w B v vs) : ∃ A q c, v = .slice A vs.length c ∧ vs.length ≤ c ∧ MemV w q A vs := by
  obtain ⟨h1, h2⟩ := h
  rcases h2 with ⟨rfl, hn⟩ | ⟨g, cap, cur, rfl, hg, hh, hnc, hcm, hsz, ht⟩
  · have : vs = [] := List.length_eq_zero_iff.1 hn
    subst this
    exact ⟨none, 0, 0, rfl, Nat.le_refl _, .inl rfl⟩
  · refine ⟨_, g, cap, rfl, hnc, .inr ⟨0, rfl, fun j u hj => ?_⟩⟩
    rw [cell_of_row w g (0 + j) cur _ (0, 0) hh, Nat.zero_add, ← Array.getElem?_toList]
    rw [← ht, List.getElem?_take] at hj
    split at hj
    · exact hj
    · cases hj
theorem mem_blk {w : World} {g : Nat} {t : TypeId} {l : List UInt8} (h : Blk w g t (l.map bv).toArray) : Mem w g (some ⟨g, 0, none⟩) l := by
  refine .inr ⟨0, rfl, fun j b hj => ?_⟩
  rw [h.cell, Nat.zero_add]
  simp [hj, bv]
theorem memM_two {w : World} {A1 A2 : Option Addr} {q1 q2 c1 c2 g : Nat} {l1 l2 : List UInt8} (hg : g = w.heap.size) (h1 : Mem w q1 A1 l1) (h2 : Mem w q2 A2 l2) (hc1 : l1.length ≤ c1) (hc2 : l2.length ≤ c2) :
    MemM (w.alloc (.cells #[.slice A1 l1.length c1, .slice A2 l2.length c2] 22)) g (some ⟨g, 0, none⟩) [l1, l2] := by
  subst hg
  refine .inr ⟨0, rfl, fun j l hj => ?_⟩
  rcases j with _ | _ | j
  · obtain rfl : l1 = l := by simpa using hj
    exact ⟨A1, q1, c1, by rw [(Blk.new w 22 #[.slice A1 l1.length c1, .slice A2 l2.length c2]).cell]; rfl, h1.alloc _, hc1⟩
  · obtain rfl : l2 = l := by simpa using hj
    exact ⟨A2, q2, c2, by rw [(Blk.new w 22 #[.slice A1 l1.length c1, .slice A2 l2.length c2]).cell]; rfl, h2.alloc _, hc2⟩
  · simp at hj
/-- Two lists of values, laid one after the other, as the argument of Concat. -/
theorem memVV_two {w : World} {A2 : Option Addr} {q2 c2 : Nat} {v1 : Value} {vs : List Value} (ho : v1.oneCell' = true) (h2 : MemV w q2 A2 vs) (hone : ∀ v ∈ vs, v.oneCell' = true) :
    MemVV ((w.alloc (.cells #[v1] 22)).alloc (.cells #[.slice (some ⟨w.heap.size, 0, none⟩) 1 1, .slice A2 vs.length c2] 23)) (w.heap.size + 1) (some ⟨w.heap.size + 1, 0, none⟩) [[v1], vs] := by
  have hb : Below w.heap.size w ((w.alloc (.cells #[v1] 22)).alloc (.cells #[.slice (some ⟨w.heap.size, 0, none⟩) 1 1, .slice A2 vs.length c2] 23)) := ((Below.refl _ w).alloc (Nat.le_refl _) _).alloc (by simp) _
  have hk1 : Blk ((w.alloc (.cells #[v1] 22)).alloc (.cells #[.slice (some ⟨w.heap.size, 0, none⟩) 1 1, .slice A2 vs.length c2] 23)) w.heap.size 22 #[v1] := (Blk.new w _ _).alloc _
  have hk2 : Blk ((w.alloc (.cells #[v1] 22)).alloc (.cells #[.slice (some ⟨w.heap.size, 0, none⟩) 1 1, .slice A2 vs.length c2] 23)) (w.heap.size + 1) 23 #[.slice (some ⟨w.heap.size, 0, none⟩) 1 1, .slice A2 vs.length c2] := by
    have n2 := Blk.new (w.alloc (.cells #[v1] 22)) 23 #[.slice (some ⟨w.heap.size, 0, none⟩) 1 1, .slice A2 vs.length c2]
    simp only [World.size_alloc] at n2
    exact n2
  refine .inr ⟨0, rfl, fun j us hj => ?_⟩
  rcases j with _ | _ | j
  · obtain rfl : [v1] = us := by simpa using hj
    refine ⟨some ⟨w.heap.size, 0, none⟩, w.heap.size, 1, by rw [hk2.cell]; rfl, .inr ⟨0, rfl, fun i v hi => ?_⟩, by simpa using ho⟩
    rw [hk1.cell, Nat.zero_add]
    simpa using hi
  · obtain rfl : vs = us := by simpa using hj
    exact ⟨A2, q2, c2, by rw [hk2.cell]; rfl, h2.below0 hb, hone⟩
  · simp at hj
set_option maxHeartbeats 8000000 in
set_option maxRecDepth 100000 in
theorem clo_any (w : World) (gi go : Nat) (I O : List UInt8) (q : Nat) (A : Option Addr) (n c : Nat) (L : List (List UInt8)) (hK : KAt w) (hI : Blk w gi 44 (I.map bv).toArray) (hO : Blk w go 44 (O.map bv).toArray)
    (hIl : I.length = 64) (hOl : O.length = 64) (hn : n = L.length) (hm : MemM w q A L) (hL : L.length ≤ 1000000) (hs : (L.map List.length).sum ≤ 140737488355200) :
    Calls Tryd.prog 23 #[.slice A n c, .pointer (some ⟨gi, 0, none⟩), .pointer (some ⟨go, 0, none⟩)] w fun e w' => e = .returned (.agg ((digest (O ++ digest (I ++ L.flatten))).map bv).toArray) ∧ Below w.heap.size w w' := by
  subst hn
  have HK := kept hK
  have HI := kept hI
  have HO := kept hO
  have HIL := kept hIl
  have HOL := kept hOl
  obtain ⟨vs, hv, hh⟩ := memM_vals hm
  have HV := kept hv
  have HH := kept hh
  have HS := kept hs
  have HVL := kept hh.1
  have HLL := kept hL
  clear hK hI hO hIl hOl hm hv hh hs hL
  rw [← HVL.out]
  go_enter Tryd.func23, Tryd.ntmps23
  go_upto_region 1 with fail
  go_name_world W0 hW0
  have HR0 := kept (show Blk W0 w.heap.size 26 (Array.replicate 32 (.int .u8 0)) by rw [← hW0]; exact Blk.new w _ _)
  have HB0 := kept (show Below w.heap.size w W0 by rw [← hW0]; exact (Below.refl _ w).alloc (Nat.le_refl _) _)
  clear hW0
  have hb2 : Below W0.heap.size W0 ((W0.alloc (.cells #[.slice (some ⟨gi, 0, none⟩) 64 64] 22)).alloc (.cells #[.slice (some ⟨W0.heap.size, 0, none⟩) 1 1, .slice A vs.length c] 23)) := ((Below.refl _ W0).alloc (Nat.le_refl _) _).alloc (by simp) _
  have hvv := memVV_two (w := W0) (c2 := c) (v1 := .slice (some ⟨gi, 0, none⟩) 64 64) rfl (HV.out.below0 HB0.out) HH.out.one
  have HCAT := kept (concatM_any _ _ _ 2 2 _ rfl hvv (by simp) (by have := HVL.out; have := HLL.out; simp; omega))
  have HB2 := kept hb2
  clear hvv hb2
  go_wp2_with fail
  refine HCAT.out.mono ?_
  rintro e W1 ⟨v1, rfl, hown1, hb1⟩
  obtain ⟨A1, q1, c1, rfl, hc1, hm1⟩ := hown1.form
  have hb01 := HB2.out.trans (hb1.mono (by simp; omega))
  have HB1 := kept (HB0.out.trans (hb01.mono HB0.out.size))
  have HR1 := kept (HR0.out.below hb01 HR0.out.lt)
  have HK1 := kept (HK.out.below0 HB1.out)
  have HO1 := kept (HO.out.below HB1.out HO.out.lt)
  have hI1 := HI.out.below HB1.out HI.out.lt
  have e1 : [[Value.slice (some ⟨gi, 0, none⟩) 64 64], vs].flatten = [Value.slice (some ⟨gi, 0, none⟩) 64 64] ++ vs := by simp
  rw [e1] at hm1
  have hh1 := hdrs_one (c := 64) (mem_blk hI1) (by rw [HIL.out]; omega)
  rw [HIL.out] at hh1
  have hmm := memM_of hm1 (hh1.append (HH.out.below0 HB1.out))
  have hlen : [[Value.slice (some ⟨gi, 0, none⟩) 64 64], vs].flatten.length = ([I] ++ L).length := by rw [e1, List.length_append, List.length_append, HVL.out]; rfl
  have hsum : (([I] ++ L).map List.length).sum ≤ 140737488355328 := by
    rw [List.map_append, List.sum_append]
    have := HS.out
    simp [HIL.out]
    omega
  have HSUM := kept (ssum_any W1 q1 A1 _ c1 ([I] ++ L) HK1.out hlen hmm (by rw [List.length_append]; have := HLL.out; simp; omega) hsum)
  have e2 : ([I] ++ L).flatten = I ++ L.flatten := by simp
  rw [e2] at HSUM
  obtain ⟨D, hD⟩ : ∃ D, digest (I ++ L.flatten) = D := ⟨_, rfl⟩
  rw [hD] at HSUM
  have hDl : D.length = 32 := by rw [← hD, dig_len]
  have HD := kept hD
  have HDL := kept hDl
  clear hown1 hb1 hb01 hI1 e1 hh1 hmm hlen hsum e2 hm1 hD hDl HB2 HB0 HR0 HCAT hc1
  generalize [[Value.slice (some ⟨gi, 0, none⟩) 64 64], vs].flatten.length = nn at HSUM ⊢
  go_wp2_with fail
  refine HSUM.out.mono ?_
  rintro e W2 ⟨rfl, hb2⟩
  go_upto_region 2 with (refine wpList_store_row rfl 26 _ _ rfl W2.heap.size (D.map bv).toArray rfl rfl 26 (Array.replicate 32 (.int .u8 0)) (Blk.new W2 _ _) (by rw [b32_size]; simp [HDL.out]) (by simp [HDL.out]) (padded_one D) ?_)
  go_name_world W3 hW3
  have hb3 : Below W1.heap.size W1 W3 := by rw [← hW3]; exact below_setRow (hb2.alloc hb2.size _) hb2.size _
  have HD3 := kept (show Blk W3 W2.heap.size 26 (D.map bv).toArray by rw [← hW3]; exact setRow_heap _ _ _ _ _ _ (Blk.new W2 _ _))
  have HB3 := kept (HB1.out.trans (hb3.mono HB1.out.size))
  have HR3 := kept (HR1.out.below hb3 HR1.out.lt)
  have HO3 := kept (HO1.out.below hb3 HO1.out.lt)
  have HK3 := kept (HK.out.below0 HB3.out)
  clear hW3 hb2 hb3 HR1 HO1 HK1 HSUM
  obtain ⟨gD, hgD⟩ : ∃ g, W2.heap.size = g := ⟨_, rfl⟩
  rw [hgD] at HD3
  rw [hgD]
  clear hgD
  go_still_tail 2, (by kernel_rfl)
  change wpList _ _ _ _ _ W3.drew
  have hmm := memM_two (w := W3.drew) (g := W3.drew.heap.size) (c1 := 64) (c2 := 32) rfl (mem_blk HO3.out.drew) (mem_blk HD3.out.drew) (by rw [HOL.out]; omega) (by rw [HDL.out]; omega)
  rw [HOL.out, HDL.out] at hmm
  have hb4 : Below W3.heap.size W3 (W3.drew.alloc (.cells #[.slice (some ⟨go, 0, none⟩) 64 64, .slice (some ⟨gD, 0, none⟩) 32 32] 22)) := ((Below.refl _ W3).drew).alloc (Nat.le_refl _) _
  have HB4 := kept hb4
  have HSUM := kept (ssum_any _ _ _ 2 2 [O, D] (HK3.out.below0 hb4) rfl hmm (by simp) (by simp [HOL.out, HDL.out]))
  rw [show [O, D].flatten = O ++ D by simp] at HSUM
  obtain ⟨E, hE⟩ : ∃ E, digest (O ++ D) = E := ⟨_, rfl⟩
  rw [hE] at HSUM
  have hEl : E.length = 32 := by rw [← hE, dig_len]
  have HE := kept hE
  have HEL := kept hEl
  clear hmm hb4 hE hEl
  go_wp2_with fail
  refine HSUM.out.mono ?_
  rintro e W5 ⟨rfl, hb5⟩
  have hb35 := HB4.out.trans (hb5.mono HB4.out.size)
  have HR5 := kept (HR3.out.below hb35 HR3.out.lt)
  have HB5 := kept (HB3.out.trans (hb35.mono HB3.out.size))
  clear hb5 hb35 HSUM
  go_wp2_with (refine wpList_store_row rfl 26 _ _ rfl w.heap.size (E.map bv).toArray rfl rfl 26 (Array.replicate 32 (.int .u8 0)) HR5.out (by rw [b32_size]; simp [HEL.out]) (by simp [HEL.out]) (padded_one E) ?_)
  exact bodyPost_ret (v := .agg (E.map bv).toArray) (results_cell_row Tryd.results23 _ _ w.heap.size 26 (E.map bv).toArray (0, 0) _ rfl (setRow_heap _ _ _ _ _ _ HR5.out) Tryd.underlying26 rfl (by rw [b32_size]; simp [HEL.out])) rfl ⟨by rw [HD.out, HE.out], below_setRow HB5.out (Nat.le_refl _) _⟩
end Go.Proofs.YtgplkdnffbappaaDoor
