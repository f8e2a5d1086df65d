/-
  The reference's Parse.
-/
import Derived.Test.YtnejidaplbonoaaNameT
import Derived.Test.YtnejidaplbonoaaNameS
import Derived.Deep.RegionLaw
import Derived.OrdersHeld
import Derived.Deep.RegionHeld
namespace Go.Proofs.Ytnejidaplbonoaa
open Go.RowKit
set_option linter.unusedVariables false
set_option linter.unusedSimpArgs false

/-- The name with a text, if there is one. -/
def parseL (l : List UInt8) : Option Nm :=
  match splitL 64 [] l with
  | [a, b] => if isN (strOf (plainL b), (splitL 47 [] a).map fun x => strOf (plainL x)) && decide (textL (strOf (plainL b), (splitL 47 [] a).map fun x => strOf (plainL x)) = l) then some (strOf (plainL b), (splitL 47 [] a).map fun x => strOf (plainL x)) else none
  | _ => none
theorem splitL_size (c : UInt8) : ∀ (n : Nat) (l cur : List UInt8), l.length ≤ n → (splitL c cur l).length ≤ l.length + 1 ∧ ∀ x ∈ splitL c cur l, x.length ≤ cur.length + l.length := by
  intro n
  induction n using Nat.strongRecOn with
  | _ n ih =>
    intro l cur hl
    match l, hl with
    | [], _ => simp [splitL]
    | [b], _ =>
      rw [splitL]
      split
      · simp
      · split
        · simp
        · simp
    | b :: d :: r, hl =>
      rw [List.length_cons, List.length_cons] at hl
      rw [splitL]
      split
      · obtain ⟨h1, h2⟩ := ih (n - 2) (by omega) r (cur ++ [b, d]) (by omega)
        refine ⟨by rw [List.length_cons, List.length_cons]; omega, fun x hx => ?_⟩
        have := h2 x hx
        rw [List.length_append, List.length_cons, List.length_cons, List.length_nil] at this
        rw [List.length_cons, List.length_cons]
        omega
      · split
        · obtain ⟨h1, h2⟩ := ih (n - 1) (by omega) (d :: r) [] (by rw [List.length_cons]; omega)
          rw [List.length_cons] at h1 h2
          refine ⟨by rw [List.length_cons, List.length_cons, List.length_cons]; omega, fun x hx => ?_⟩
          rw [List.length_cons, List.length_cons]
          rcases List.mem_cons.1 hx with rfl | hx
          · omega
          · have := h2 x hx
            rw [List.length_nil] at this
            omega
        · obtain ⟨h1, h2⟩ := ih (n - 1) (by omega) (d :: r) (cur ++ [b]) (by rw [List.length_cons]; omega)
          rw [List.length_cons] at h1 h2
          refine ⟨by rw [List.length_cons, List.length_cons]; omega, fun x hx => ?_⟩
          have := h2 x hx
          rw [List.length_append, List.length_cons, List.length_nil] at this
          rw [List.length_cons, List.length_cons]
          omega
theorem plainL_len : ∀ (n : Nat) (l : List UInt8), l.length ≤ n → (plainL l).length ≤ l.length := by
  intro n
  induction n using Nat.strongRecOn with
  | _ n ih =>
    intro l hl
    match l, hl with
    | [], _ => simp [plainL]
    | [b], _ => simp [plainL]
    | b :: d :: r, hl =>
      rw [List.length_cons, List.length_cons] at hl
      rw [plainL]
      split
      · have := ih (n - 2) (by omega) r (by omega)
        rw [List.length_cons, List.length_cons, List.length_cons]
        omega
      · have := ih (n - 1) (by omega) (d :: r) (by rw [List.length_cons]; omega)
        rw [List.length_cons] at this
        rw [List.length_cons, List.length_cons, List.length_cons]
        omega
theorem resplit64 (s : ByteArray) (w : World) (hs : s.size ≤ 1000) :
    Calls Try.prog 38 #[.string s, .int .u8 64] w fun e w' => ∃ v, e = .returned v ∧ OwnS 9 w' w.heap.size v ((splitL 64 [] s.data.toList).map strOf) ∧ Below w.heap.size w w' := resplit_any s 64 w hs (by decide)
theorem resplit47 (s : ByteArray) (w : World) (hs : s.size ≤ 1000) :
    Calls Try.prog 38 #[.string s, .int .u8 47] w fun e w' => ∃ v, e = .returned v ∧ OwnS 9 w' w.heap.size v ((splitL 47 [] s.data.toList).map strOf) ∧ Below w.heap.size w w' := resplit_any s 47 w hs (by decide)
/-- The zero value of api.Name. -/
def zN : Array Value := #[.string ⟨#[]⟩, .slice none 0 0]
set_option maxHeartbeats 4000000 in
theorem reparse_any (s : ByteArray) (w : World) (hs : s.size ≤ 500) :
    Calls Try.prog 21 #[.string s] w fun e w' => ∃ v, e = .returned (.tuple #[.agg #[.string ((parseL s.data.toList).getD (⟨#[]⟩, [])).1, v], .bool (parseL s.data.toList).isSome]) ∧ OwnS 9 w' w.heap.size v ((parseL s.data.toList).getD (⟨#[]⟩, [])).2 ∧ Below w.heap.size w w' := by
  obtain ⟨i0, hi0, hz0, hs0, hb0⟩ := str_parts
  obtain ⟨Z, hZ⟩ : ∃ Z, parseL s.data.toList = Z := ⟨_, rfl⟩
  rw [hZ]
  have HZ := kept hZ
  clear hZ
  obtain ⟨P, hP⟩ : ∃ P, splitL 64 [] s.data.toList = P := ⟨_, rfl⟩
  have HPL := kept hP
  have HSP := kept (resplit64 s · (by omega))
  rw [hP] at HSP
  have hsz := splitL_size 64 _ s.data.toList [] (Nat.le_refl _)
  rw [hP] at hsz
  have HSZ := kept (show P.length ≤ 501 ∧ ∀ x ∈ P, x.length ≤ 500 by
    have h1 : s.data.toList.length = s.size := by simp
    refine ⟨by omega, fun x hx => ?_⟩
    have := hsz.2 x hx
    rw [List.length_nil] at this
    omega)
  clear hP hsz
  go_enter Try.func21, Try.ntmps21
  go_upto_region 2 with (first | (go_at_call 38; refine (HSP.out _).mono ?_; rintro e W1 ⟨v1, rfl, ho1, k1⟩))
  have HB0 := kept (show Blk W1 w.heap.size 24 zN from ((Blk.new w 24 zN).below k1 (by simp)))
  have HW := kept (show Below w.heap.size w W1 from below_next ((Below.refl _ w).alloc (Nat.le_refl _) _) k1)
  have hlt0 : w.heap.size < W1.heap.size := HB0.out.lt
  obtain ⟨A1, q1, c1, hv1, hc1, hcm1, hm1⟩ := ho1.form
  subst hv1
  rw [List.length_map]
  have HM := kept hm1
  rw [List.length_map] at hc1
  clear k1 ho1 hm1
  have hz1 : W1.cell? ⟨w.heap.size, 0, none⟩ = some (.string ⟨#[]⟩) := by rw [HB0.out.cell]; rfl
  have hz2 : W1.cell? ⟨w.heap.size, 1, none⟩ = some (.slice none 0 0) := by rw [HB0.out.cell]; rfl
  have hf0 := HB0.out.frozen 0
  have hf1 := HB0.out.frozen 1
  by_cases h2 : P.length = 2
  · obtain ⟨a, b, rfl⟩ : ∃ a b, P = [a, b] := by
      match P, h2 with
      | [a, b], _ => exact ⟨a, b, rfl⟩
    have HAS := kept (show a.length ≤ 500 ∧ b.length ≤ 500 from ⟨HSZ.out.2 a (by simp), HSZ.out.2 b (by simp)⟩)
    have ha0 := HM.out.at_ (j := 0) (by simp)
    obtain ⟨o1, hA1, hca⟩ := ha0
    subst hA1
    have ha1 := HM.out.at_ (j := 1) (by simp)
    obtain ⟨o1', hA1', hcb⟩ := ha1
    injection hA1' with hA1'
    injection hA1' with _ hA1'
    subst hA1'
    simp only [List.map_cons, List.map_nil, List.getElem_cons_zero, List.getElem_cons_succ] at hca hcb
    rw [Nat.add_zero] at hca
    have HCA := kept hca
    clear hca h2
    obtain ⟨RR, hRR⟩ : ∃ RR, strOf (plainL b) = RR := ⟨_, rfl⟩
    obtain ⟨Q, hQ⟩ : ∃ Q, splitL 47 [] a = Q := ⟨_, rfl⟩
    have HRR := kept hRR
    have HPB := kept (replain_any (strOf b) · (by rw [strOf_size]; have := HAS.out.2; omega))
    rw [strOf_list, hRR] at HPB
    have HSQ := kept (resplit47 (strOf a) · (by rw [strOf_size]; have := HAS.out.1; omega))
    rw [strOf_list, hQ] at HSQ
    have HQS := kept (splitL_size 47 _ a [] (Nat.le_refl _))
    rw [hQ, List.length_nil, Nat.zero_add] at HQS
    have HZ2 := HZ.out
    unfold parseL at HZ2
    rw [HPL.out] at HZ2
    simp only [hRR, hQ] at HZ2
    have HZQ := kept HZ2
    clear HZ2 hRR hQ
    go_upto_region 5 with (first | (go_at_call 39; refine (HPB.out _).mono ?_; rintro e w2 ⟨rfl, rfl⟩))
    go_name_world W3 hW3
    have k3 := (show Below w.heap.size w2 W3 by rw [← hW3]; exact (Below.refl _ w2).alloc (by omega) _)
    have k3' := (show Below w2.heap.size w2 W3 by rw [← hW3]; exact (Below.refl _ w2).alloc (Nat.le_refl _) _)
    have HB5 := kept (show Blk W3 w2.heap.size 24 #[.string RR, .slice none 0 0] by rw [← hW3]; exact Blk.new w2 _ _)
    replace HB0 := kept (HB0.out.below k3' HB0.out.lt)
    replace HW := kept (HW.out.trans k3)
    have hca : W3.cell? ⟨q1, o1, none⟩ = some (.string (strOf a)) := (k3'.cell (p := ⟨q1, o1, none⟩) (World.block_lt_of_cell? w2 _ HCA.out)).trans HCA.out
    have hs3 := k3'.size
    clear hz1 hz2 hf0 hf1 HM hcb HCA hW3 k3 k3'
    go_upto_region 7 with (first | (go_at_call 38; refine (HSQ.out _).mono ?_; rintro e W4 ⟨v6, rfl, ho6, k6⟩))
    have h34 := k6.size
    have h5 : w2.heap.size < W3.heap.size := HB5.out.lt
    replace HB0 := kept (HB0.out.below k6 HB0.out.lt)
    replace HB5 := kept (HB5.out.below k6 HB5.out.lt)
    replace HW := kept (below_next HW.out k6)
    obtain ⟨A6, q6, c6, hv6, hc6, hcm6, hm6⟩ := ho6.form
    subst hv6
    rw [List.length_map] at hc6 ⊢
    have HM6 := kept hm6
    have HQ4 := kept (show Q ≠ [] → q6 < W4.heap.size from fun h => hm6.lt (fun e => h (List.map_eq_nil_iff.1 e)))
    have HQ3 := kept (show ∀ o, A6 = some ⟨q6, o, none⟩ → W3.heap.size ≤ q6 from fun o e => by subst e; exact OwnS.place ho6)
    have hQL : Q.length ≤ 501 := by have := HQS.out.1; have := HAS.out.1; omega
    have HPQ := kept (fun (x : List UInt8) (hx : x ∈ Q) (w' : World) => replain_any (strOf x) w' (by rw [strOf_size]; have := HQS.out.2 x hx; have := HAS.out.1; omega))
    clear k6 ho6 hm6 hca hc1
    go_loopw [7] (fun i wr => ∃ (k : Nat) (vp : Value), k ≤ Q.length ∧ i = .int .i64 k ∧ Kept (Blk wr w2.heap.size 24 #[.string RR, vp]) ∧ Kept (OwnS 9 wr W4.heap.size vp ((Q.take k).map fun x => strOf (plainL x))) ∧ Kept (Blk wr w.heap.size 24 zN) ∧ Kept (MemS wr q6 A6 (Q.map strOf)) ∧ Kept (Below w.heap.size w wr) ∧ W4.heap.size ≤ wr.heap.size) (fun i _ => Q.length - (intOf i).toNat)
    case atStart => exact ⟨0, _, Nat.zero_le _, rfl, HB5, kept (OwnS.nil_ _ _ _), HB0, HM6, HW, Nat.le_refl _⟩
    case round =>
      obtain ⟨k, vp, hk, rfl, HB5, HO, HB0, HM6, HW, hsz⟩ := hrel
      have hn0 : wr.cell? ⟨w2.heap.size, 0, none⟩ = some (.string RR) := by rw [HB5.out.cell]; rfl
      have hn1 : wr.cell? ⟨w2.heap.size, 1, none⟩ = some vp := by rw [HB5.out.cell]; rfl
      have hnf := HB5.out.frozen 1
      by_cases hlt : k < Q.length
      · obtain ⟨o6, hA6, hck⟩ := HM6.out.at_ (j := k) (by rw [List.length_map]; exact hlt)
        subst hA6
        rw [List.getElem_map] at hck
        have HX := kept (HPQ.out Q[k] (List.getElem_mem hlt))
        have hi0' : (0 : Int) ≤ (k : Int) := by omega
        have hi1' : (k : Int) < (Q.length : Int) := by omega
        simp only [strOf_list] at HX
        obtain ⟨X, hX⟩ : ∃ X, strOf Q[k] = X := ⟨_, rfl⟩
        obtain ⟨Y, hY⟩ : ∃ Y, strOf (plainL Q[k]) = Y := ⟨_, rfl⟩
        rw [hX] at hck HX
        rw [hY] at HX
        have HY := kept (show (Q.take (k + 1)).map (fun x => strOf (plainL x)) = (Q.take k).map (fun x => strOf (plainL x)) ++ [Y] by
          rw [List.take_succ_eq_append_getElem hlt, List.map_append, List.map_cons, hY]
          rfl)
        have HXX := kept hX
        have HXX := kept hX
        have HXX := kept hX
        have HXX := kept hX
        clear hX hY
        obtain ⟨oD, hE⟩ : ∃ W, wr.drew.alloc (.cells #[.string Y] 9) = W := ⟨_, rfl⟩
        have kD : Below wr.heap.size wr wr.drew := (Below.refl _ wr).drew
        have kE : Below wr.heap.size wr (wr.drew.alloc (.cells #[.string Y] 9)) := kD.alloc (by simp) _
        have n1D : wr.drew.cell? ⟨w2.heap.size, 1, none⟩ = some vp := hn1
        have n1E : (wr.drew.alloc (.cells #[.string Y] 9)).cell? ⟨w2.heap.size, 1, none⟩ = some vp := (kE.cell (p := ⟨w2.heap.size, 1, none⟩) (World.block_lt_of_cell? wr _ hn1)).trans hn1
        have n1F : (wr.alloc (.cells #[.string Y] 9)).cell? ⟨w2.heap.size, 1, none⟩ = some vp := n1E
        have HSX := kept (show ∀ W, MemS W q6 (some ⟨q6, o6, none⟩) (Q.map strOf) → (fun w' : World => w'.cell? ⟨q6, o6 + k, none⟩ = some (.string X)) W from fun W h => by
          obtain ⟨o', hA', hc'⟩ := h.at_ (j := k) (by rw [List.length_map]; exact hlt)
          injection hA' with hA'
          injection hA' with _ hA'
          subst hA'
          rw [List.getElem_map, HXX.out] at hc'
          exact hc')
        have HBE5 := kept (HB5.out.below kE HB5.out.lt)
        have HBE0 := kept (HB0.out.below kE HB0.out.lt)
        have HME6 := kept (HM6.out.below0 kE)
        have HWE := kept (below_next HW.out kE)
        have HOE := kept (OwnS.below HO.out kE)
        have HME := kept (show MemS (wr.drew.alloc (.cells #[.string Y] 9)) wr.heap.size (some ⟨wr.heap.size, 0, none⟩) [Y] from memS_lit (w := wr.drew) (l := [Y]) rfl)
        have HQ6 := kept (show q6 ≠ w2.heap.size from fun e => by have := HQ3.out o6 rfl; omega)
        have HNE5 := kept (show some w2.heap.size ≠ vp.ownBlock from fun e => by have := (OwnS.lt HO.out _ e.symm).1; omega)
        have HNE0 := kept (show some w.heap.size ≠ vp.ownBlock from fun e => by have := (OwnS.lt HO.out _ e.symm).1; omega)
        have HNE6 := kept (show some q6 ≠ vp.ownBlock from fun e => by have := (OwnS.lt HO.out _ e.symm).1; have := HQ4.out (fun z => by rw [z] at hlt; simp at hlt); omega)
        have HSD := kept (show (fun w' : World => w'.cell? ⟨q6, o6 + k, none⟩ = some (.string X)) wr.drew from hck)
        have HSE := kept (HSX.out _ HME6.out)
        clear kD kE hE
        go_wp2_with fail
        refine wp_region_held_drew (S := fun w' : World => w'.cell? ⟨q6, o6 + k, none⟩ = some (.string X)) (by kernel_rfl) HSD.out (fun _ => ?_)
        refine wpAnyH_take (i := 0) (v := ?_) rfl (by kernel_rfl) (by kernel_rfl) (by kernel_rfl) (fun _ _ _ h => h) (Or.inl ⟨by rfl, ?_⟩) HSD.out ?_
        rotate_left
        · rintro w' h1
          go_simp; with_reducible rfl
        try simp only [Act.put, List.getElem_toArray, List.getElem_cons_zero, List.getElem_cons_succ, List.setIfInBounds_toArray, List.set_cons_zero, List.set_cons_succ]
        refine wpAnyH_take (i := 2) (v := ?_) rfl (by kernel_rfl) (by kernel_rfl) (by kernel_rfl) (fun _ _ _ h => h) (Or.inl ⟨by rfl, ?_⟩) HSD.out ?_
        rotate_left
        · rintro w' h1
          go_simp; with_reducible rfl
        try simp only [Act.put, List.getElem_toArray, List.getElem_cons_zero, List.getElem_cons_succ, List.setIfInBounds_toArray, List.set_cons_zero, List.set_cons_succ]
        refine wpAnyH_take (i := 3) (v := ?_) rfl (by kernel_rfl) (by kernel_rfl) (by kernel_rfl) (fun _ _ _ h => h) (Or.inl ⟨by rfl, ?_⟩) HSD.out ?_
        rotate_left
        · rintro w' h1
          go_simp; with_reducible rfl
        try simp only [Act.put, List.getElem_toArray, List.getElem_cons_zero, List.getElem_cons_succ, List.setIfInBounds_toArray, List.set_cons_zero, List.set_cons_succ]
        refine wpAnyH_take (i := 4) (v := ?_) rfl (by kernel_rfl) (by kernel_rfl) (by kernel_rfl) (fun _ _ _ h => h) (Or.inl ⟨by rfl, ?_⟩) HSD.out ?_
        rotate_left
        · rintro w' h1
          go_simp; with_reducible rfl
        try simp only [Act.put, List.getElem_toArray, List.getElem_cons_zero, List.getElem_cons_succ, List.setIfInBounds_toArray, List.set_cons_zero, List.set_cons_succ]
        refine wpAnyH_take (i := 5) (v := ?_) rfl (by kernel_rfl) (by kernel_rfl) (by kernel_rfl) (fun _ _ _ h => h) (Or.inl ⟨by rfl, ?_⟩) HSD.out ?_
        rotate_left
        · rintro w' h1
          go_simp; with_reducible rfl
        try simp only [Act.put, List.getElem_toArray, List.getElem_cons_zero, List.getElem_cons_succ, List.setIfInBounds_toArray, List.set_cons_zero, List.set_cons_succ]
        refine wpAnyH_ready (rs := [1, 6]) (by kernel_rfl) (by simp) ?_
        refine AllReadyH.cons rfl (fun K hK => ?_) (AllReadyH.cons rfl (fun K hK => ?_) (AllReadyH.nil))
        · go_simp
          refine hK.out _ _ HSD.out (fun _ => ?_)
          clear hK K
          try simp only [Act.put, List.getElem_toArray, List.getElem_cons_zero, List.getElem_cons_succ, List.setIfInBounds_toArray, List.set_cons_zero, List.set_cons_succ]
          refine wpAnyH_ready (rs := [6]) (by kernel_rfl) (by simp) ?_
          refine AllReadyH.cons rfl (fun K hK => ?_) (AllReadyH.nil)
          go_simp
          refine (HX.out wr.drew).mono ?_
          rintro e w9 ⟨rfl, rfl⟩
          refine hK.out _ _ HSD.out (fun _ => ?_)
          clear hK K
          try simp only [Act.put, List.getElem_toArray, List.getElem_cons_zero, List.getElem_cons_succ, List.setIfInBounds_toArray, List.set_cons_zero, List.set_cons_succ]
          refine wpAnyH_ready (rs := [7]) (by kernel_rfl) (by simp) ?_
          refine AllReadyH.cons rfl (fun K hK => ?_) (AllReadyH.nil)
          go_simp
          refine hK.out _ _ HSE.out (fun _ => ?_)
          clear hK K
          try simp only [Act.put, List.getElem_toArray, List.getElem_cons_zero, List.getElem_cons_succ, List.setIfInBounds_toArray, List.set_cons_zero, List.set_cons_succ]
          refine wpAnyH_ready (rs := [8]) (by kernel_rfl) (by simp) ?_
          refine AllReadyH.cons rfl (fun K hK => ?_) (AllReadyH.nil)
          refine step_append_strs (T := 9) rfl (.tmp 30) (.tmp 36) 22 rfl W4.heap.size i0 Try.underlying22 hi0 hz0 hs0 hb0 vp ((Q.take k).map fun x => strOf (plainL x)) rfl HOE.out wr.heap.size (some ⟨wr.heap.size, 0, none⟩) 1 1 [Y] rfl rfl HME.out (by rw [List.length_map, List.length_take, List.length_cons, List.length_nil]; omega) (by simp; omega) ?_
          intro v3 W5 ho3 hg3
          obtain ⟨A7, q7, c7, hv7, _, _, _⟩ := ho3.form
          obtain ⟨n7, hn7⟩ : ∃ n7, ((Q.take k).map (fun x => strOf (plainL x)) ++ [Y]).length = n7 := ⟨_, rfl⟩
          rw [hn7] at hv7
          subst hv7
          have HB5' := kept (HBE5.out.grown hg3 (HNE5.out))
          have HB0' := kept (HBE0.out.grown hg3 (HNE0.out))
          have HM6' := kept (HME6.out.grown hg3 (HNE6.out))
          have HW' := kept (HWE.out.grown hg3 HWE.out.size (fun j hj => by have := (OwnS.lt HOE.out j hj).1; omega))
          have hs5 := hg3.size
          have hsE : W4.heap.size ≤ W5.heap.size := by simp only [World.size_alloc, World.size_drew] at hs5; omega
          have HS5 := kept (HSX.out W5 HM6'.out)
          have hnf5 := HB5'.out.frozen 1
          have hn5 : W5.cell? ⟨w2.heap.size, 1, none⟩ = some vp := by rw [HB5'.out.cell]; rfl
          have HO5 := kept (show OwnS 9 W5 W4.heap.size (.slice A7 n7 c7) ((Q.take (k + 1)).map fun x => strOf (plainL x)) by rw [HY.out]; exact ho3)
          refine hK.out _ _ HS5.out (fun _ => ?_)
          clear hK K
          try simp only [Act.put, List.getElem_toArray, List.getElem_cons_zero, List.getElem_cons_succ, List.setIfInBounds_toArray, List.set_cons_zero, List.set_cons_succ]
          refine wpAnyH_take (i := 9) (v := ?_) rfl (by kernel_rfl) (by kernel_rfl) (by kernel_rfl) (fun _ _ _ h => h) (Or.inl ⟨by rfl, ?_⟩) HS5.out ?_
          rotate_left
          · rintro w' h1
            go_simp; with_reducible rfl
          try simp only [Act.put, List.getElem_toArray, List.getElem_cons_zero, List.getElem_cons_succ, List.setIfInBounds_toArray, List.set_cons_zero, List.set_cons_succ]
          refine wpAnyH_ready (rs := [10]) (by kernel_rfl) (by simp) ?_
          refine AllReadyH.cons rfl (fun K hK => ?_) (AllReadyH.nil)
          go_simp
          have hne5 : ∀ j, (Value.slice A7 n7 c7).ownBlock = some j → j ≠ w2.heap.size := fun j hj e => by have := (OwnS.lt HO5.out j hj).1; omega
          have HB5'' := kept (show Blk (W5.setCell ⟨w2.heap.size, 1, none⟩ (.slice A7 n7 c7)) w2.heap.size 24 #[.string RR, (.slice A7 n7 c7)] from HB5'.out.put 1 (.slice A7 n7 c7))
          have HB0'' := kept (Blk.far HB0'.out (p := ⟨w2.heap.size, 1, none⟩) (by show w.heap.size ≠ w2.heap.size; omega) (.slice A7 n7 c7))
          have HM6'' := kept (show MemS (W5.setCell ⟨w2.heap.size, 1, none⟩ (.slice A7 n7 c7)) q6 (some ⟨q6, o6, none⟩) (Q.map strOf) from HM6'.out.keep fun _ => Below.heap_setCell W5 ⟨w2.heap.size, 1, none⟩ (.slice A7 n7 c7) q6 HQ6.out)
          have HO5'' := kept (show OwnS 9 (W5.setCell ⟨w2.heap.size, 1, none⟩ (.slice A7 n7 c7)) W4.heap.size (.slice A7 n7 c7) ((Q.take (k + 1)).map fun x => strOf (plainL x)) from HO5.out.keep fun j hj => Below.heap_setCell W5 ⟨w2.heap.size, 1, none⟩ (.slice A7 n7 c7) j (hne5 j hj))
          have HW'' := kept (HW'.out.setCell (p := ⟨w2.heap.size, 1, none⟩) (by show w.heap.size ≤ w2.heap.size; omega) (.slice A7 n7 c7))
          refine hK.out _ _ (kept (HSX.out _ HM6''.out)).out (fun _ => ?_)
          clear hK K
          try simp only [Act.put, List.getElem_toArray, List.getElem_cons_zero, List.getElem_cons_succ, List.setIfInBounds_toArray, List.set_cons_zero, List.set_cons_succ]
          refine wpAnyH_done (by kernel_rfl) ?_ _
          go_wp2
          go_roundw
          case rel => exact ⟨k + 1, (.slice A7 n7 c7), by omega, by go_num, HB5'', HO5'', HB0'', HM6'', HW'', by simp; omega⟩
          case measure => simp [intOf]; omega
        · go_simp
          refine (HX.out wr.drew).mono ?_
          rintro e w9 ⟨rfl, rfl⟩
          refine hK.out _ _ HSD.out (fun _ => ?_)
          clear hK K
          try simp only [Act.put, List.getElem_toArray, List.getElem_cons_zero, List.getElem_cons_succ, List.setIfInBounds_toArray, List.set_cons_zero, List.set_cons_succ]
          refine wpAnyH_ready (rs := [1, 7]) (by kernel_rfl) (by simp) ?_
          refine AllReadyH.cons rfl (fun K hK => ?_) (AllReadyH.cons rfl (fun K hK => ?_) (AllReadyH.nil))
          · go_simp
            refine hK.out _ _ HSD.out (fun _ => ?_)
            clear hK K
            try simp only [Act.put, List.getElem_toArray, List.getElem_cons_zero, List.getElem_cons_succ, List.setIfInBounds_toArray, List.set_cons_zero, List.set_cons_succ]
            refine wpAnyH_ready (rs := [7]) (by kernel_rfl) (by simp) ?_
            refine AllReadyH.cons rfl (fun K hK => ?_) (AllReadyH.nil)
            go_simp
            refine hK.out _ _ HSE.out (fun _ => ?_)
            clear hK K
            try simp only [Act.put, List.getElem_toArray, List.getElem_cons_zero, List.getElem_cons_succ, List.setIfInBounds_toArray, List.set_cons_zero, List.set_cons_succ]
            refine wpAnyH_ready (rs := [8]) (by kernel_rfl) (by simp) ?_
            refine AllReadyH.cons rfl (fun K hK => ?_) (AllReadyH.nil)
            refine step_append_strs (T := 9) rfl (.tmp 30) (.tmp 36) 22 rfl W4.heap.size i0 Try.underlying22 hi0 hz0 hs0 hb0 vp ((Q.take k).map fun x => strOf (plainL x)) rfl HOE.out wr.heap.size (some ⟨wr.heap.size, 0, none⟩) 1 1 [Y] rfl rfl HME.out (by rw [List.length_map, List.length_take, List.length_cons, List.length_nil]; omega) (by simp; omega) ?_
            intro v3 W5 ho3 hg3
            obtain ⟨A7, q7, c7, hv7, _, _, _⟩ := ho3.form
            obtain ⟨n7, hn7⟩ : ∃ n7, ((Q.take k).map (fun x => strOf (plainL x)) ++ [Y]).length = n7 := ⟨_, rfl⟩
            rw [hn7] at hv7
            subst hv7
            have HB5' := kept (HBE5.out.grown hg3 (HNE5.out))
            have HB0' := kept (HBE0.out.grown hg3 (HNE0.out))
            have HM6' := kept (HME6.out.grown hg3 (HNE6.out))
            have HW' := kept (HWE.out.grown hg3 HWE.out.size (fun j hj => by have := (OwnS.lt HOE.out j hj).1; omega))
            have hs5 := hg3.size
            have hsE : W4.heap.size ≤ W5.heap.size := by simp only [World.size_alloc, World.size_drew] at hs5; omega
            have HS5 := kept (HSX.out W5 HM6'.out)
            have hnf5 := HB5'.out.frozen 1
            have hn5 : W5.cell? ⟨w2.heap.size, 1, none⟩ = some vp := by rw [HB5'.out.cell]; rfl
            have HO5 := kept (show OwnS 9 W5 W4.heap.size (.slice A7 n7 c7) ((Q.take (k + 1)).map fun x => strOf (plainL x)) by rw [HY.out]; exact ho3)
            refine hK.out _ _ HS5.out (fun _ => ?_)
            clear hK K
            try simp only [Act.put, List.getElem_toArray, List.getElem_cons_zero, List.getElem_cons_succ, List.setIfInBounds_toArray, List.set_cons_zero, List.set_cons_succ]
            refine wpAnyH_take (i := 9) (v := ?_) rfl (by kernel_rfl) (by kernel_rfl) (by kernel_rfl) (fun _ _ _ h => h) (Or.inl ⟨by rfl, ?_⟩) HS5.out ?_
            rotate_left
            · rintro w' h1
              go_simp; with_reducible rfl
            try simp only [Act.put, List.getElem_toArray, List.getElem_cons_zero, List.getElem_cons_succ, List.setIfInBounds_toArray, List.set_cons_zero, List.set_cons_succ]
            refine wpAnyH_ready (rs := [10]) (by kernel_rfl) (by simp) ?_
            refine AllReadyH.cons rfl (fun K hK => ?_) (AllReadyH.nil)
            go_simp
            have hne5 : ∀ j, (Value.slice A7 n7 c7).ownBlock = some j → j ≠ w2.heap.size := fun j hj e => by have := (OwnS.lt HO5.out j hj).1; omega
            have HB5'' := kept (show Blk (W5.setCell ⟨w2.heap.size, 1, none⟩ (.slice A7 n7 c7)) w2.heap.size 24 #[.string RR, (.slice A7 n7 c7)] from HB5'.out.put 1 (.slice A7 n7 c7))
            have HB0'' := kept (Blk.far HB0'.out (p := ⟨w2.heap.size, 1, none⟩) (by show w.heap.size ≠ w2.heap.size; omega) (.slice A7 n7 c7))
            have HM6'' := kept (show MemS (W5.setCell ⟨w2.heap.size, 1, none⟩ (.slice A7 n7 c7)) q6 (some ⟨q6, o6, none⟩) (Q.map strOf) from HM6'.out.keep fun _ => Below.heap_setCell W5 ⟨w2.heap.size, 1, none⟩ (.slice A7 n7 c7) q6 HQ6.out)
            have HO5'' := kept (show OwnS 9 (W5.setCell ⟨w2.heap.size, 1, none⟩ (.slice A7 n7 c7)) W4.heap.size (.slice A7 n7 c7) ((Q.take (k + 1)).map fun x => strOf (plainL x)) from HO5.out.keep fun j hj => Below.heap_setCell W5 ⟨w2.heap.size, 1, none⟩ (.slice A7 n7 c7) j (hne5 j hj))
            have HW'' := kept (HW'.out.setCell (p := ⟨w2.heap.size, 1, none⟩) (by show w.heap.size ≤ w2.heap.size; omega) (.slice A7 n7 c7))
            refine hK.out _ _ (kept (HSX.out _ HM6''.out)).out (fun _ => ?_)
            clear hK K
            try simp only [Act.put, List.getElem_toArray, List.getElem_cons_zero, List.getElem_cons_succ, List.setIfInBounds_toArray, List.set_cons_zero, List.set_cons_succ]
            refine wpAnyH_done (by kernel_rfl) ?_ _
            go_wp2
            go_roundw
            case rel => exact ⟨k + 1, (.slice A7 n7 c7), by omega, by go_num, HB5'', HO5'', HB0'', HM6'', HW'', by simp; omega⟩
            case measure => simp [intOf]; omega
          · go_simp
            refine hK.out _ _ HSE.out (fun _ => ?_)
            clear hK K
            try simp only [Act.put, List.getElem_toArray, List.getElem_cons_zero, List.getElem_cons_succ, List.setIfInBounds_toArray, List.set_cons_zero, List.set_cons_succ]
            refine wpAnyH_ready (rs := [1]) (by kernel_rfl) (by simp) ?_
            refine AllReadyH.cons rfl (fun K hK => ?_) (AllReadyH.nil)
            go_simp
            refine hK.out _ _ HSE.out (fun _ => ?_)
            clear hK K
            try simp only [Act.put, List.getElem_toArray, List.getElem_cons_zero, List.getElem_cons_succ, List.setIfInBounds_toArray, List.set_cons_zero, List.set_cons_succ]
            refine wpAnyH_ready (rs := [8]) (by kernel_rfl) (by simp) ?_
            refine AllReadyH.cons rfl (fun K hK => ?_) (AllReadyH.nil)
            refine step_append_strs (T := 9) rfl (.tmp 30) (.tmp 36) 22 rfl W4.heap.size i0 Try.underlying22 hi0 hz0 hs0 hb0 vp ((Q.take k).map fun x => strOf (plainL x)) rfl HOE.out wr.heap.size (some ⟨wr.heap.size, 0, none⟩) 1 1 [Y] rfl rfl HME.out (by rw [List.length_map, List.length_take, List.length_cons, List.length_nil]; omega) (by simp; omega) ?_
            intro v3 W5 ho3 hg3
            obtain ⟨A7, q7, c7, hv7, _, _, _⟩ := ho3.form
            obtain ⟨n7, hn7⟩ : ∃ n7, ((Q.take k).map (fun x => strOf (plainL x)) ++ [Y]).length = n7 := ⟨_, rfl⟩
            rw [hn7] at hv7
            subst hv7
            have HB5' := kept (HBE5.out.grown hg3 (HNE5.out))
            have HB0' := kept (HBE0.out.grown hg3 (HNE0.out))
            have HM6' := kept (HME6.out.grown hg3 (HNE6.out))
            have HW' := kept (HWE.out.grown hg3 HWE.out.size (fun j hj => by have := (OwnS.lt HOE.out j hj).1; omega))
            have hs5 := hg3.size
            have hsE : W4.heap.size ≤ W5.heap.size := by simp only [World.size_alloc, World.size_drew] at hs5; omega
            have HS5 := kept (HSX.out W5 HM6'.out)
            have hnf5 := HB5'.out.frozen 1
            have hn5 : W5.cell? ⟨w2.heap.size, 1, none⟩ = some vp := by rw [HB5'.out.cell]; rfl
            have HO5 := kept (show OwnS 9 W5 W4.heap.size (.slice A7 n7 c7) ((Q.take (k + 1)).map fun x => strOf (plainL x)) by rw [HY.out]; exact ho3)
            refine hK.out _ _ HS5.out (fun _ => ?_)
            clear hK K
            try simp only [Act.put, List.getElem_toArray, List.getElem_cons_zero, List.getElem_cons_succ, List.setIfInBounds_toArray, List.set_cons_zero, List.set_cons_succ]
            refine wpAnyH_take (i := 9) (v := ?_) rfl (by kernel_rfl) (by kernel_rfl) (by kernel_rfl) (fun _ _ _ h => h) (Or.inl ⟨by rfl, ?_⟩) HS5.out ?_
            rotate_left
            · rintro w' h1
              go_simp; with_reducible rfl
            try simp only [Act.put, List.getElem_toArray, List.getElem_cons_zero, List.getElem_cons_succ, List.setIfInBounds_toArray, List.set_cons_zero, List.set_cons_succ]
            refine wpAnyH_ready (rs := [10]) (by kernel_rfl) (by simp) ?_
            refine AllReadyH.cons rfl (fun K hK => ?_) (AllReadyH.nil)
            go_simp
            have hne5 : ∀ j, (Value.slice A7 n7 c7).ownBlock = some j → j ≠ w2.heap.size := fun j hj e => by have := (OwnS.lt HO5.out j hj).1; omega
            have HB5'' := kept (show Blk (W5.setCell ⟨w2.heap.size, 1, none⟩ (.slice A7 n7 c7)) w2.heap.size 24 #[.string RR, (.slice A7 n7 c7)] from HB5'.out.put 1 (.slice A7 n7 c7))
            have HB0'' := kept (Blk.far HB0'.out (p := ⟨w2.heap.size, 1, none⟩) (by show w.heap.size ≠ w2.heap.size; omega) (.slice A7 n7 c7))
            have HM6'' := kept (show MemS (W5.setCell ⟨w2.heap.size, 1, none⟩ (.slice A7 n7 c7)) q6 (some ⟨q6, o6, none⟩) (Q.map strOf) from HM6'.out.keep fun _ => Below.heap_setCell W5 ⟨w2.heap.size, 1, none⟩ (.slice A7 n7 c7) q6 HQ6.out)
            have HO5'' := kept (show OwnS 9 (W5.setCell ⟨w2.heap.size, 1, none⟩ (.slice A7 n7 c7)) W4.heap.size (.slice A7 n7 c7) ((Q.take (k + 1)).map fun x => strOf (plainL x)) from HO5.out.keep fun j hj => Below.heap_setCell W5 ⟨w2.heap.size, 1, none⟩ (.slice A7 n7 c7) j (hne5 j hj))
            have HW'' := kept (HW'.out.setCell (p := ⟨w2.heap.size, 1, none⟩) (by show w.heap.size ≤ w2.heap.size; omega) (.slice A7 n7 c7))
            refine hK.out _ _ (kept (HSX.out _ HM6''.out)).out (fun _ => ?_)
            clear hK K
            try simp only [Act.put, List.getElem_toArray, List.getElem_cons_zero, List.getElem_cons_succ, List.setIfInBounds_toArray, List.set_cons_zero, List.set_cons_succ]
            refine wpAnyH_done (by kernel_rfl) ?_ _
            go_wp2
            go_roundw
            case rel => exact ⟨k + 1, (.slice A7 n7 c7), by omega, by go_num, HB5'', HO5'', HB0'', HM6'', HW'', by simp; omega⟩
            case measure => simp [intOf]; omega
      · obtain rfl : k = Q.length := by omega
        rw [List.take_length] at HO
        have hLS : ∀ t ∈ Q.map (fun x => strOf (plainL x)), t.size ≤ 500 := by
          intro t ht
          obtain ⟨x, hx, rfl⟩ := List.mem_map.1 ht
          have h1 := plainL_len _ x (Nat.le_refl _)
          have h2 := HQS.out.2 x hx
          have h3 := HAS.out.1
          show (strOf (plainL x)).size ≤ 500
          rw [strOf_size]
          omega
        have hLL : (Q.map (fun x => strOf (plainL x))).length ≤ 501 := by rw [List.length_map]; exact hQL
        obtain ⟨Lp, hLp⟩ : ∃ Lp, Q.map (fun x => strOf (plainL x)) = Lp := ⟨_, rfl⟩
        rw [hLp] at HO HZQ hLS hLL
        have HRS := kept (show RR.size ≤ maxLen by
          rw [← HRR.out, strOf_size]
          have h1 := plainL_len _ b (Nat.le_refl _)
          have h2 := HAS.out.2
          unfold maxLen
          omega)
        have HLS := kept (show ∀ t ∈ Lp, t.size ≤ maxLen from fun t ht => by have := hLS t ht; unfold maxLen; omega)
        clear hLp hLS
        obtain ⟨A7, q7, c7, hv7, hc7, hcm7, hm7⟩ := HO.out.form
        subst hv7
        have HM7 := kept hm7
        clear hm7
        go_wp2_with fail
        refine (revalid_any _ RR Lp q7 A7 c7 HRS.out HLS.out (by omega) HM7.out).mono ?_
        rintro e W6 ⟨rfl, k6⟩
        clear hn0 hn1 hnf
        replace HB0 := kept (HB0.out.below k6 HB0.out.lt)
        replace HB5 := kept (HB5.out.below k6 HB5.out.lt)
        replace HM7 := kept (HM7.out.below0 k6)
        replace HO := kept (OwnS.below HO.out k6)
        replace HW := kept (below_next HW.out k6)
        clear k6
        have hn0 : W6.cell? ⟨w2.heap.size, 0, none⟩ = some (.string RR) := by rw [HB5.out.cell]; rfl
        have hn1 : W6.cell? ⟨w2.heap.size, 1, none⟩ = some (.slice A7 Lp.length c7) := by rw [HB5.out.cell]; rfl
        cases hN : isN (RR, Lp) with
        | false =>
          obtain rfl : Z = none := HZQ.out.symm.trans (by rw [hN]; rfl)
          have hz1 : W6.cell? ⟨w.heap.size, 0, none⟩ = some (.string ⟨#[]⟩) := by rw [HB0.out.cell]; rfl
          have hz2 : W6.cell? ⟨w.heap.size, 1, none⟩ = some (.slice none 0 0) := by rw [HB0.out.cell]; rfl
          have hf0 := HB0.out.frozen 0
          have hf1 := HB0.out.frozen 1
          have HB9 := kept ((HB0.out.put 0 (.string ⟨#[]⟩)).put 1 (.slice none 0 0))
          have HW9 := kept ((HW.out.setCell (p := ⟨w.heap.size, 0, none⟩) (Nat.le_refl _) (.string ⟨#[]⟩)).setCell (p := ⟨w.heap.size, 1, none⟩) (Nat.le_refl _) (.slice none 0 0))
          have x0 : ((W6.setCell ⟨w.heap.size, 0, none⟩ (.string ⟨#[]⟩)).setCell ⟨w.heap.size, 1, none⟩ (.slice none 0 0)).cell? ⟨w.heap.size, 0, none⟩ = some (.string ⟨#[]⟩) := by rw [HB9.out.cell]; rfl
          have x1 : ((W6.setCell ⟨w.heap.size, 0, none⟩ (.string ⟨#[]⟩)).setCell ⟨w.heap.size, 1, none⟩ (.slice none 0 0)).cell? ⟨w.heap.size, 1, none⟩ = some (.slice none 0 0) := by rw [HB9.out.cell]; rfl
          go_wp2
          refine bodyPost_ret (v := .tuple #[.agg #[.string ⟨#[]⟩, .slice none 0 0], .bool false]) (by simp [results, Try.results21, go_sem, x0, x1]) rfl ⟨_, rfl, OwnS.nil_ _ _ _, HW9.out⟩
        | true =>
          have HRT := kept (fun (W : World) (hm : MemS W q7 A7 Lp) => retext_any W RR Lp q7 A7 c7 HRS.out HLS.out (by omega) hm)
          obtain ⟨TX, hTX⟩ : ∃ TX, strOf (textL (RR, Lp)) = TX := ⟨_, rfl⟩
          rw [hTX] at HRT
          have HTX := kept hTX
          clear hTX
          go_wp2_with fail
          refine (HRT.out _ HM7.out).mono ?_
          rintro e W7 ⟨rfl, k7⟩
          clear hn0 hn1
          replace HB0 := kept (HB0.out.below k7 HB0.out.lt)
          replace HB5 := kept (HB5.out.below k7 HB5.out.lt)
          replace HM7 := kept (HM7.out.below0 k7)
          replace HO := kept (OwnS.below HO.out k7)
          replace HW := kept (below_next HW.out k7)
          clear k7
          have hn0 : W7.cell? ⟨w2.heap.size, 0, none⟩ = some (.string RR) := by rw [HB5.out.cell]; rfl
          have hn1 : W7.cell? ⟨w2.heap.size, 1, none⟩ = some (.slice A7 Lp.length c7) := by rw [HB5.out.cell]; rfl
          by_cases hT : TX = s
          · obtain rfl : Z = some (RR, Lp) := HZQ.out.symm.trans (by rw [hN, decide_eq_true (by rw [← hT, ← HTX.out, strOf_list])]; rfl)
            have hbb := strb_eq hT
            subst hT
            have hz1 : W7.cell? ⟨w.heap.size, 0, none⟩ = some (.string ⟨#[]⟩) := by rw [HB0.out.cell]; rfl
            have hz2 : W7.cell? ⟨w.heap.size, 1, none⟩ = some (.slice none 0 0) := by rw [HB0.out.cell]; rfl
            have hf0 := HB0.out.frozen 0
            have hf1 := HB0.out.frozen 1
            have HB9 := kept ((HB0.out.put 0 (.string RR)).put 1 (.slice A7 Lp.length c7))
            have HW9 := kept ((HW.out.setCell (p := ⟨w.heap.size, 0, none⟩) (Nat.le_refl _) (.string RR)).setCell (p := ⟨w.heap.size, 1, none⟩) (Nat.le_refl _) (.slice A7 Lp.length c7))
            have x0 : ((W7.setCell ⟨w.heap.size, 0, none⟩ (.string RR)).setCell ⟨w.heap.size, 1, none⟩ (.slice A7 Lp.length c7)).cell? ⟨w.heap.size, 0, none⟩ = some (.string RR) := by rw [HB9.out.cell]; rfl
            have x1 : ((W7.setCell ⟨w.heap.size, 0, none⟩ (.string RR)).setCell ⟨w.heap.size, 1, none⟩ (.slice A7 Lp.length c7)).cell? ⟨w.heap.size, 1, none⟩ = some (.slice A7 Lp.length c7) := by rw [HB9.out.cell]; rfl
            have HO9 := kept (show OwnS 9 ((W7.setCell ⟨w.heap.size, 0, none⟩ (.string RR)).setCell ⟨w.heap.size, 1, none⟩ (.slice A7 Lp.length c7)) w.heap.size (.slice A7 Lp.length c7) Lp from OwnS.mono (OwnS.keep HO.out fun j hj => by
              have hj1 := (OwnS.lt HO.out j hj).1
              exact (Below.heap_setCell _ ⟨w.heap.size, 1, none⟩ _ j (by show j ≠ w.heap.size; omega)).trans (Below.heap_setCell _ ⟨w.heap.size, 0, none⟩ _ j (by show j ≠ w.heap.size; omega))) (by omega))
            go_wp2
            refine bodyPost_ret (v := .tuple #[.agg #[.string RR, .slice A7 Lp.length c7], .bool true]) (by simp [results, Try.results21, go_sem, x0, x1]) rfl ⟨_, rfl, HO9.out, HW9.out⟩
          · obtain rfl : Z = none := HZQ.out.symm.trans (by rw [hN, decide_eq_false (fun e => hT (by rw [← HTX.out, e, strOf_of]))]; rfl)
            have hbb := strb_ne hT
            clear hT
            have hz1 : W7.cell? ⟨w.heap.size, 0, none⟩ = some (.string ⟨#[]⟩) := by rw [HB0.out.cell]; rfl
            have hz2 : W7.cell? ⟨w.heap.size, 1, none⟩ = some (.slice none 0 0) := by rw [HB0.out.cell]; rfl
            have hf0 := HB0.out.frozen 0
            have hf1 := HB0.out.frozen 1
            have HB9 := kept ((HB0.out.put 0 (.string ⟨#[]⟩)).put 1 (.slice none 0 0))
            have HW9 := kept ((HW.out.setCell (p := ⟨w.heap.size, 0, none⟩) (Nat.le_refl _) (.string ⟨#[]⟩)).setCell (p := ⟨w.heap.size, 1, none⟩) (Nat.le_refl _) (.slice none 0 0))
            have x0 : ((W7.setCell ⟨w.heap.size, 0, none⟩ (.string ⟨#[]⟩)).setCell ⟨w.heap.size, 1, none⟩ (.slice none 0 0)).cell? ⟨w.heap.size, 0, none⟩ = some (.string ⟨#[]⟩) := by rw [HB9.out.cell]; rfl
            have x1 : ((W7.setCell ⟨w.heap.size, 0, none⟩ (.string ⟨#[]⟩)).setCell ⟨w.heap.size, 1, none⟩ (.slice none 0 0)).cell? ⟨w.heap.size, 1, none⟩ = some (.slice none 0 0) := by rw [HB9.out.cell]; rfl
            go_wp2
            refine bodyPost_ret (v := .tuple #[.agg #[.string ⟨#[]⟩, .slice none 0 0], .bool false]) (by simp [results, Try.results21, go_sem, x0, x1]) rfl ⟨_, rfl, OwnS.nil_ _ _ _, HW9.out⟩
  · have hne : ((P.length : Int) != 2) = true := by
      rw [bne_iff_ne]
      omega
    obtain rfl : Z = none := HZ.out.symm.trans (by
      unfold parseL
      rw [HPL.out]
      match P, h2 with
      | [], _ => rfl
      | [_], _ => rfl
      | _ :: _ :: _ :: _, _ => rfl)
    have HB1 := kept ((HB0.out.put 0 (.string ⟨#[]⟩)).put 1 (.slice none 0 0))
    have HW1 := kept ((HW.out.setCell (p := ⟨w.heap.size, 0, none⟩) (Nat.le_refl _) (.string ⟨#[]⟩)).setCell (p := ⟨w.heap.size, 1, none⟩) (Nat.le_refl _) (.slice none 0 0))
    have x0 : ((W1.setCell ⟨w.heap.size, 0, none⟩ (.string ⟨#[]⟩)).setCell ⟨w.heap.size, 1, none⟩ (.slice none 0 0)).cell? ⟨w.heap.size, 0, none⟩ = some (.string ⟨#[]⟩) := by rw [HB1.out.cell]; rfl
    have x1 : ((W1.setCell ⟨w.heap.size, 0, none⟩ (.string ⟨#[]⟩)).setCell ⟨w.heap.size, 1, none⟩ (.slice none 0 0)).cell? ⟨w.heap.size, 1, none⟩ = some (.slice none 0 0) := by rw [HB1.out.cell]; rfl
    go_wp2
    refine bodyPost_ret (v := .tuple #[.agg #[.string ⟨#[]⟩, .slice none 0 0], .bool false]) (by simp [results, Try.results21, go_sem, x0, x1]) rfl ⟨_, rfl, OwnS.nil_ _ _ _, HW1.out⟩
end Go.Proofs.Ytnejidaplbonoaa
