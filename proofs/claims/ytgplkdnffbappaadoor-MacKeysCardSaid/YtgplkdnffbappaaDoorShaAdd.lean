/-
  The digester's add, by a contract.
-/
import Derived.Test.YtgplkdnffbappaaDoorShaDgM
import Derived.StillTailTactics
namespace Go.Proofs.YtgplkdnffbappaaDoor
open Go.RowKit
set_option linter.unusedVariables false
set_option linter.unusedSimpArgs false

/-- The loads and stores of whole arrays as steps of a region that draws its order. -/
theorem step_load_mid {P : Program} {ops : Array Oper} {op : Oper} {a : Act} {w : World} {K : Act → World → Prop} {Q : Exit → Act → World → Prop} {E : Prop} (hgd : op.guard = none) (ty : TypeId) (x : Operand) (ho : op.op = .load ty x)
    (b o : Nat) (hx : a.eval x = .pointer (some ⟨b, o, none⟩)) (cs : List Value) (d : TypeDesc) (hc : w.rangeAt b o cs)
    (hu : P.underlying ty = some d) (hd : d.isRow = true) (hi : (P.info? ty).map (·.size) = some cs.length)
    (h : K (a.put op.dst (.agg cs.toArray)) w) : if Region.wanted op (yielded ops a.tmps) = true then Oper.wp P op a w K Q else E := by
  have hw : Region.wanted op (yielded ops a.tmps) = true := by simp [Region.wanted, hgd]
  rw [if_pos hw]
  exact wp_load_mid ty x ho b o hx cs d hc hu hd hi h
theorem step_store_mid {P : Program} {ops : Array Oper} {op : Oper} {a : Act} {w : World} {K : Act → World → Prop} {Q : Exit → Act → World → Prop} {E : Prop} (hgd : op.guard = none) (ty : TypeId) (x y : Operand) (ho : op.op = .store ty x y)
    (b o : Nat) (cells : Array Value) (hx : a.eval x = .pointer (some ⟨b, o, none⟩)) (hy : a.eval y = .agg cells)
    (ht : w.there b o cells.size) (hi : (P.info? ty).map (·.size) = some cells.size) (h1 : cells.all (·.oneCell') = true)
    (h : K (a.put op.dst undef) (w.setCells b o cells.toList)) : if Region.wanted op (yielded ops a.tmps) = true then Oper.wp P op a w K Q else E := by
  have hw : Region.wanted op (yielded ops a.tmps) = true := by simp [Region.wanted, hgd]
  rw [if_pos hw]
  exact wp_store_mid ty x y ho b o cells hx hy ht hi h1 h
theorem gb_state {w w' : World} {g : Nat} (h : w.grownBy w' (some g)) (s : St) : w.grownBy (w'.setCells g 0 (stA s).toList) (some g) :=
  gb_setCell (p := ⟨g, 7, none⟩) (gb_setCell (p := ⟨g, 6, none⟩) (gb_setCell (p := ⟨g, 5, none⟩) (gb_setCell (p := ⟨g, 4, none⟩) (gb_setCell (p := ⟨g, 3, none⟩) (gb_setCell (p := ⟨g, 2, none⟩) (gb_setCell (p := ⟨g, 1, none⟩) (gb_setCell (p := ⟨g, 0, none⟩) h (.inl rfl) _) (.inl rfl) _) (.inl rfl) _) (.inl rfl) _) (.inl rfl) _) (.inl rfl) _) (.inl rfl) _) (.inl rfl) _
theorem mem_state {w : World} {g q : Nat} {A : Option Addr} {l : List UInt8} (h : Mem w q A l) (hq : q ≠ g) (s : St) : Mem (w.setCells g 0 (stA s).toList) q A l :=
  (((((((h.setCell (p := ⟨g, 0, none⟩) hq _).setCell (p := ⟨g, 1, none⟩) hq _).setCell (p := ⟨g, 2, none⟩) hq _).setCell (p := ⟨g, 3, none⟩) hq _).setCell (p := ⟨g, 4, none⟩) hq _).setCell (p := ⟨g, 5, none⟩) hq _).setCell (p := ⟨g, 6, none⟩) hq _).setCell (p := ⟨g, 7, none⟩) hq _
set_option maxHeartbeats 8000000 in
set_option maxRecDepth 100000 in
theorem dadd_any (w : World) (g q : Nat) (m l : List UInt8) (A : Option Addr) (n c : Nat) (hD : Dg w g m) (hK : KAt w) (hgK : g ≠ 0) (hn : n = l.length) (hc : l.length ≤ c) (hl : l.length ≤ 140737488355328) (hm : Mem w q A l) (hq : q ≠ g) :
    Calls Tryd.prog 31 #[.pointer (some ⟨g, 0, none⟩), .slice A n c] w fun e w' => e = .returned (.tuple #[]) ∧ Dg w' g (m ++ l) ∧ w.grownBy w' (some g) := by
  subst hn
  have HK := kept hK
  have hgl : g < w.heap.size := by obtain ⟨_, _, hb, _⟩ := hD; exact hb.lt
  have HD := kept hD
  have HM := kept hm
  clear hK hD hm
  go_enter Tryd.func31, Tryd.ntmps31
  go_wp2_with fail
  go_loopw [1] (fun v wr => ∃ (p r : List UInt8) (A' : Option Addr) (c' : Nat), p ++ r = l ∧ v = .slice A' r.length c' ∧ r.length ≤ c' ∧ Kept (Mem wr q A' r) ∧ Kept (Dg wr g (m ++ p)) ∧ Kept (w.grownBy wr (some g))) (fun v _ => lenV v)
  case atStart => exact ⟨[], l, A, c, rfl, rfl, hc, HM, kept (by rw [List.append_nil]; exact HD.out), kept (World.grownBy.refl w _)⟩
  case round =>
    obtain ⟨p, r, A', c', hpr, rfl, hc', HM1, HD1, HG1⟩ := hrel
    rename World => W1
    clear HD HM
    by_cases hr : r.length = 0
    · have hre : r = [] := List.length_eq_zero_iff.1 hr
      subst hre
      have hpl : p = l := by rw [List.append_nil] at hpr; exact hpr
      subst hpl
      go_wp2
      go_end0
      exact ⟨rfl, HD1.out, HG1.out⟩
    · obtain ⟨M, hM⟩ : ∃ M, m ++ p = M := ⟨_, rfl⟩
      have HPR := kept hpr
      rw [hM] at HD1
      have HMM := kept hM
      clear hpr hM
      obtain ⟨buf, hbuf, hblk, htk⟩ := HD1.out
      obtain ⟨S, hS⟩ : ∃ S, foldB startS M (M.length / 64) = S := ⟨_, rfl⟩
      obtain ⟨u, hu⟩ : ∃ u, M.length % 64 = u := ⟨_, rfl⟩
      have hu64 : u < 64 := by omega
      rw [hS, hu] at hblk
      rw [hu] at htk
      have HS := kept hS
      have HU := kept hu
      have HBUF := kept hbuf
      have HTK := kept htk
      have HB := kept hblk
      clear hS hu hbuf htk hblk HD1
      have c72 : W1.cell? ⟨g, 72, none⟩ = some (.int .i64 (u : Int)) := by rw [HB.out.cell]; exact dgA_used S buf u HBUF.out
      have u0 : (0 : Int) ≤ (u : Int) := by omega
      have u1 : (u : Int) ≤ 64 := by omega
      have u2 : ¬ (64 = u) := by omega
      go_wp2
      go_still_tail 9, (by kernel_rfl)
      change wpList _ _ _ _ _ W1.drew
      have hrne : r ≠ [] := fun e => hr (by rw [e]; rfl)
      have hadr : ∃ o, A' = some ⟨q, o, none⟩ ∧ ∀ j b, r[j]? = some b → W1.cell? ⟨q, o + j, none⟩ = some (bv b) := by
        rcases HM1.out with h | ⟨o, h1, h2⟩
        · exact absurd h hrne
        · exact ⟨o, h1, h2⟩
      obtain ⟨o, rfl, hcell⟩ := hadr
      obtain ⟨x, hx⟩ : ∃ x, r.take (64 - u) = x := ⟨_, rfl⟩
      have hxl : x.length = min r.length (64 - u) := by rw [← hx, List.length_take, Nat.min_comm]
      have HX := kept hx
      have HXL := kept hxl
      have HC := kept hcell
      clear hx hxl hcell hrne u0 u1 u2
      refine wpList_copy_own rfl (.tmp 15) (.tmp 16) 22 22 rfl 5 Tryd.underlying22 u8_size g (8 + u) (64 - u) (64 - u) ⟨q, o, none⟩ r.length c' rfl rfl (dgA S buf u) 56 HB.out (x.map bv) (by rw [List.length_map, HXL.out]) ?hsrc ?hfit (oneCell_bv x) ?_
      case hsrc =>
        intro j v hv
        rw [List.getElem?_map, ← HX.out, List.getElem?_take] at hv
        split at hv
        · cases hj : r[j]? with
          | none => rw [hj] at hv; cases hv
          | some b =>
            rw [hj] at hv
            injection hv with hv
            subst hv
            rw [Addr.add_mid]
            exact HC.out j b hj
        · cases hv
      case hfit =>
        have : (dgA S buf (u : Int)).size = 73 := by unfold dgA; rw [List.size_toArray, dgL_len _ _ _ HBUF.out]
        rw [this, List.length_map, HXL.out]
        omega
      rw [dgA_splice S buf x u u HBUF.out (by rw [HXL.out]; omega), List.length_map]
      obtain ⟨buf2, hbuf2⟩ : ∃ b, splice buf u x = b := ⟨_, rfl⟩
      rw [hbuf2]
      have hlb2 : buf2.length = 64 := by rw [← hbuf2]; exact splice_len _ _ _ HBUF.out (by rw [HXL.out]; omega)
      have HB2 := kept (show Blk (W1.drew.setRow g (dgA S buf2 u)) g 56 (dgA S buf2 u) from setRow_heap _ _ _ _ _ _ HB.out)
      have HG2 := kept (show w.grownBy (W1.drew.setRow g (dgA S buf2 u)) (some g) from
        ⟨HG1.out.os, HG1.out.tape, HG1.out.output, by rw [setRow_size]; exact HG1.out.size, fun i hi hne => (setRow_other _ g i _ (fun e => hne (by rw [e]))).trans (HG1.out.block i hi hne)⟩)
      have HM2 := kept (show Mem (W1.drew.setRow g (dgA S buf2 u)) q (some ⟨q, o, none⟩) r from HM1.out.keep fun hq' => setRow_other _ g q _ hq)
      have HBUF2 := kept hbuf2
      have HLB2 := kept hlb2
      clear hbuf2 hlb2 HB HG1 HM1 HC c72
      generalize W1.drew.setRow g (dgA S buf2 u) = W2 at HB2 HG2 HM2 ⊢
      have c72 : W2.cell? ⟨g, 72, none⟩ = some (.int .i64 (u : Int)) := by rw [HB2.out.cell]; exact dgA_used S buf2 u HLB2.out
      have f72 := HB2.out.frozen 72
      have hxle : x.length ≤ r.length := by rw [HXL.out]; omega
      have hxle2 : x.length ≤ 64 := by rw [HXL.out]; omega
      have hxc : x.length ≤ c' := by omega
      have hxp : 0 < x.length := by rw [HXL.out]; omega
      obtain ⟨A2, hA2⟩ : ∃ A2, (if c' = x.length then some (⟨q, o, none⟩ : Addr) else some ⟨q, o + x.length, none⟩) = A2 := ⟨_, rfl⟩
      have hm2 : Mem W2 q A2 (r.drop x.length) := by
        have := HM2.out.cut (k := x.length) (cap := c') hxle hc'
        rw [← hA2]
        have e : (if c' = x.length then some (⟨q, o, none⟩ : Addr) else some ⟨q, o + x.length, none⟩) = (if c' = x.length then some (⟨q, o, none⟩ : Addr) else (some (⟨q, o, none⟩ : Addr)).map (·.add x.length)) := by
          rw [Option.map_some, Addr.add_mid]
        rw [e]
        exact this
      have HM3 := kept hm2
      have hrl : (r.drop x.length).length = r.length - x.length := List.length_drop
      have HRL := kept hrl
      have hpr2 : (p ++ x) ++ r.drop x.length = l := by
        have e : x ++ r.drop x.length = r := by
          have h1 : x = r.take x.length := by
            rw [HXL.out, ← HX.out]
            by_cases h : r.length ≤ 64 - u
            · rw [Nat.min_eq_left h, List.take_of_length_le h, List.take_of_length_le (Nat.le_refl _)]
            · rw [Nat.min_eq_right (by omega)]
          conv => lhs; lhs; rw [h1]
          exact List.take_append_drop _ _
        rw [List.append_assoc, e, HPR.out]
      have HPR2 := kept hpr2
      clear hm2 hrl hpr2 HM2
      by_cases h64 : u + x.length = 64
      · have ht : ((u : Int) + (x.length : Int) == 64) = true := by rw [beq_iff_eq]; omega
        have H64 := kept h64
        clear h64
        go_wp2
        have HB3 := kept (show Blk (W2.setCell ⟨g, 72, none⟩ (.int .i64 ((u : Int) + (x.length : Int)))) g 56 (dgA S buf2 ((u : Int) + (x.length : Int))) by
          have := HB2.out.put 72 (.int .i64 ((u : Int) + (x.length : Int)))
          rw [dgA_set _ _ _ _ HLB2.out] at this
          exact this)
        have HG3 := kept (gb_setCell (p := ⟨g, 72, none⟩) HG2.out (.inl rfl) (.int .i64 ((u : Int) + (x.length : Int))))
        have HM4 := kept (HM3.out.setCell (p := ⟨g, 72, none⟩) hq (.int .i64 ((u : Int) + (x.length : Int))))
        clear HB2 HG2 HM3 c72 f72
        generalize W2.setCell ⟨g, 72, none⟩ (.int .i64 ((u : Int) + (x.length : Int))) = W3 at HB3 HG3 HM4 ⊢
        have HK3 := kept (show KAt W3 from HK.out.keep (HG3.out.block _ HK.out.lt (fun e => hgK (by injection e with e; exact e.symm))))
        have HSB := kept (fun w' hk => sblock_any w' S buf2 HLB2.out hk)
        have n33 : (Tryd.prog.info? 44).map (·.size) = some (buf2.map bv).length := by rw [b64_size, List.length_map, HLB2.out]
        have n32 : (Tryd.prog.info? 50).map (·.size) = some (stA S).toList.length := s8_size
        have r0 := kept (show W3.drew.rangeAt g 0 (stA S).toList from dg_state HB3.out)
        have r8 := kept (show W3.drew.rangeAt g 8 (buf2.map bv) from dg_block HB3.out)
        refine wp_region_any (by kernel_rfl) ?_
        change wpAny _ _ _ _ _ _ _ (World.drew _)
        refine wpAny_take (i := 0) (v := ?_) rfl (by kernel_rfl) (by kernel_rfl) (by kernel_rfl) (fun _ _ _ h => h) (Or.inl ⟨by rfl, ?_⟩) ?_
        rotate_left
        · intro w; go_simp; with_reducible rfl
        simp only [Act.put, List.getElem_toArray, List.getElem_cons_zero, List.getElem_cons_succ, List.setIfInBounds_toArray, List.set_cons_zero, List.set_cons_succ]
        refine wpAny_take (i := 1) (v := ?_) rfl (by kernel_rfl) (by kernel_rfl) (by kernel_rfl) (fun _ _ _ h => h) (Or.inl ⟨by rfl, ?_⟩) ?_
        rotate_left
        · intro w; go_simp; with_reducible rfl
        simp only [Act.put, List.getElem_toArray, List.getElem_cons_zero, List.getElem_cons_succ, List.setIfInBounds_toArray, List.set_cons_zero, List.set_cons_succ]
        refine wpAny_take (i := 2) (v := ?_) rfl (by kernel_rfl) (by kernel_rfl) (by kernel_rfl) (fun _ _ _ h => h) (Or.inl ⟨by rfl, ?_⟩) ?_
        rotate_left
        · intro w; go_simp; with_reducible rfl
        simp only [Act.put, List.getElem_toArray, List.getElem_cons_zero, List.getElem_cons_succ, List.setIfInBounds_toArray, List.set_cons_zero, List.set_cons_succ]
        refine wpAny_take (i := 3) (v := ?_) rfl (by kernel_rfl) (by kernel_rfl) (by kernel_rfl) (fun _ _ _ h => h) (Or.inl ⟨by rfl, ?_⟩) ?_
        rotate_left
        · intro w; go_simp; with_reducible rfl
        simp only [Act.put, List.getElem_toArray, List.getElem_cons_zero, List.getElem_cons_succ, List.setIfInBounds_toArray, List.set_cons_zero, List.set_cons_succ]
        refine wpAny_take (i := 5) (v := ?_) rfl (by kernel_rfl) (by kernel_rfl) (by kernel_rfl) (fun _ _ _ h => h) (Or.inl ⟨by rfl, ?_⟩) ?_
        rotate_left
        · intro w; go_simp; with_reducible rfl
        simp only [Act.put, List.getElem_toArray, List.getElem_cons_zero, List.getElem_cons_succ, List.setIfInBounds_toArray, List.set_cons_zero, List.set_cons_succ]
        refine wpAny_take (i := 6) (v := ?_) rfl (by kernel_rfl) (by kernel_rfl) (by kernel_rfl) (fun _ _ _ h => h) (Or.inl ⟨by rfl, ?_⟩) ?_
        rotate_left
        · intro w; go_simp; with_reducible rfl
        simp only [Act.put, List.getElem_toArray, List.getElem_cons_zero, List.getElem_cons_succ, List.setIfInBounds_toArray, List.set_cons_zero, List.set_cons_succ]
        refine wpAny_take (i := 7) (v := ?_) rfl (by kernel_rfl) (by kernel_rfl) (by kernel_rfl) (fun _ _ _ h => h) (Or.inl ⟨by rfl, ?_⟩) ?_
        rotate_left
        · intro w; go_simp; with_reducible rfl
        simp only [Act.put, List.getElem_toArray, List.getElem_cons_zero, List.getElem_cons_succ, List.setIfInBounds_toArray, List.set_cons_zero, List.set_cons_succ]
        have HK4 := kept (show KAt W3.drew from HK3.out)
        refine wpAny_ready (rs := [4, 8]) (by kernel_rfl) (by simp) ?_
        refine AllReady.cons rfl (fun K hK => ?_) (AllReady.cons rfl (fun K hK => ?_) AllReady.nil)
        · refine step_load_mid rfl 50 (.tmp 37) rfl g 0 rfl (stA S).toList _ r0.out Tryd.underlying50 rfl n32 ?_
          refine hK _ _ ?_
          clear hK K
          simp only [Act.put, List.getElem_toArray, List.getElem_cons_zero, List.getElem_cons_succ, List.setIfInBounds_toArray, List.set_cons_zero, List.set_cons_succ]
          refine wpAny_ready (rs := [8]) (by kernel_rfl) (by simp) ?_
          refine AllReady.cons rfl (fun K hK => ?_) AllReady.nil
          refine step_load_mid rfl 44 (.tmp 41) rfl g 8 rfl (buf2.map bv) _ r8.out Tryd.underlying44 rfl n33 ?_
          refine hK _ _ ?_
          clear hK K
          simp only [Act.put, List.getElem_toArray, List.getElem_cons_zero, List.getElem_cons_succ, List.setIfInBounds_toArray, List.set_cons_zero, List.set_cons_succ]
          refine wpAny_ready (rs := [9]) (by kernel_rfl) (by simp) ?_
          refine AllReady.cons rfl (fun K hK => ?_) AllReady.nil
          go_simp
          refine (HSB.out _ HK4.out).mono ?_
          rintro e W4 ⟨rfl, hb4⟩
          refine hK _ _ ?_
          clear hK K
          have hb4' : Below W3.heap.size W3 W4 := ⟨hb4.os, hb4.tape, hb4.output, hb4.size, hb4.block⟩
          have HB4 := kept (HB3.out.below hb4' HB3.out.lt)
          refine wpAny_take (i := 10) (v := ?_) rfl (by kernel_rfl) (by kernel_rfl) (by kernel_rfl) (fun _ _ _ h => h) (Or.inl ⟨by rfl, ?_⟩) ?_
          rotate_left
          · intro w; go_simp; with_reducible rfl
          simp only [Act.put, List.getElem_toArray, List.getElem_cons_zero, List.getElem_cons_succ, List.setIfInBounds_toArray, List.set_cons_zero, List.set_cons_succ]
          refine wpAny_take (i := 11) (v := ?_) rfl (by kernel_rfl) (by kernel_rfl) (by kernel_rfl) (fun _ _ _ h => h) (Or.inl ⟨by rfl, ?_⟩) ?_
          rotate_left
          · intro w; go_simp; with_reducible rfl
          simp only [Act.put, List.getElem_toArray, List.getElem_cons_zero, List.getElem_cons_succ, List.setIfInBounds_toArray, List.set_cons_zero, List.set_cons_succ]
          refine wpAny_ready (rs := [12]) (by kernel_rfl) (by simp) ?_
          refine AllReady.cons rfl (fun K hK => ?_) AllReady.nil
          refine step_store_mid rfl 50 (.tmp 45) (.tmp 43) rfl g 0 (stA (blockS kList S buf2)) rfl rfl (dg_there HB4.out) (by rw [s8_size, stA_size]) (stA_one _) ?_
          refine hK _ _ ?_
          clear hK K
          simp only [Act.put, List.getElem_toArray, List.getElem_cons_zero, List.getElem_cons_succ, List.setIfInBounds_toArray, List.set_cons_zero, List.set_cons_succ]
          refine wpAny_done (by kernel_rfl) ?_ _
          have HB5 := kept (dg_store HB4.out (blockS kList S buf2))
          have HG5 := kept (gb_state (gb_then HG3.out (gb_of_below hb4' none) (.inr fun j h => by cases h)) (blockS kList S buf2))
          have HM5 := kept (mem_state (HM4.out.below0 hb4') hq (blockS kList S buf2))
          clear hb4 hb4' HB4 HB3 HG3 HM4 HK3 HK4 HSB r0 r8
          generalize W4.setCells g 0 (stA (blockS kList S buf2)).toList = W5 at HB5 HG5 HM5 ⊢
          have c72 : W5.cell? ⟨g, 72, none⟩ = some (.int .i64 ((u : Int) + (x.length : Int))) := by rw [HB5.out.cell]; exact dgA_used _ _ _ HLB2.out
          have f72 := HB5.out.frozen 72
          go_wp2
          go_roundw
          case rel =>
            refine ⟨p ++ x, r.drop x.length, A2, c' - x.length, HPR2.out, by rw [HRL.out], by rw [HRL.out]; omega, kept (HM5.out.setCell hq _), kept ?_, kept ?_⟩
            · rw [← List.append_assoc, HMM.out]
              refine dg_full (buf := buf) HBUF.out (by rw [HU.out]; exact HTK.out) (by rw [HU.out]; exact H64.out) ?_
              rw [HU.out, HS.out, HBUF2.out]
              have := HB5.out.put 72 (.int .i64 0)
              rw [dgA_set _ _ _ _ HLB2.out] at this
              exact this
            · exact gb_setCell (p := ⟨g, 72, none⟩) HG5.out (.inl rfl) _
          case measure => simp [lenV]; omega
        · refine step_load_mid rfl 44 (.tmp 41) rfl g 8 rfl (buf2.map bv) _ r8.out Tryd.underlying44 rfl n33 ?_
          refine hK _ _ ?_
          clear hK K
          simp only [Act.put, List.getElem_toArray, List.getElem_cons_zero, List.getElem_cons_succ, List.setIfInBounds_toArray, List.set_cons_zero, List.set_cons_succ]
          refine wpAny_ready (rs := [4]) (by kernel_rfl) (by simp) ?_
          refine AllReady.cons rfl (fun K hK => ?_) AllReady.nil
          refine step_load_mid rfl 50 (.tmp 37) rfl g 0 rfl (stA S).toList _ r0.out Tryd.underlying50 rfl n32 ?_
          refine hK _ _ ?_
          clear hK K
          simp only [Act.put, List.getElem_toArray, List.getElem_cons_zero, List.getElem_cons_succ, List.setIfInBounds_toArray, List.set_cons_zero, List.set_cons_succ]
          refine wpAny_ready (rs := [9]) (by kernel_rfl) (by simp) ?_
          refine AllReady.cons rfl (fun K hK => ?_) AllReady.nil
          go_simp
          refine (HSB.out _ HK4.out).mono ?_
          rintro e W4 ⟨rfl, hb4⟩
          refine hK _ _ ?_
          clear hK K
          have hb4' : Below W3.heap.size W3 W4 := ⟨hb4.os, hb4.tape, hb4.output, hb4.size, hb4.block⟩
          have HB4 := kept (HB3.out.below hb4' HB3.out.lt)
          refine wpAny_take (i := 10) (v := ?_) rfl (by kernel_rfl) (by kernel_rfl) (by kernel_rfl) (fun _ _ _ h => h) (Or.inl ⟨by rfl, ?_⟩) ?_
          rotate_left
          · intro w; go_simp; with_reducible rfl
          simp only [Act.put, List.getElem_toArray, List.getElem_cons_zero, List.getElem_cons_succ, List.setIfInBounds_toArray, List.set_cons_zero, List.set_cons_succ]
          refine wpAny_take (i := 11) (v := ?_) rfl (by kernel_rfl) (by kernel_rfl) (by kernel_rfl) (fun _ _ _ h => h) (Or.inl ⟨by rfl, ?_⟩) ?_
          rotate_left
          · intro w; go_simp; with_reducible rfl
          simp only [Act.put, List.getElem_toArray, List.getElem_cons_zero, List.getElem_cons_succ, List.setIfInBounds_toArray, List.set_cons_zero, List.set_cons_succ]
          refine wpAny_ready (rs := [12]) (by kernel_rfl) (by simp) ?_
          refine AllReady.cons rfl (fun K hK => ?_) AllReady.nil
          refine step_store_mid rfl 50 (.tmp 45) (.tmp 43) rfl g 0 (stA (blockS kList S buf2)) rfl rfl (dg_there HB4.out) (by rw [s8_size, stA_size]) (stA_one _) ?_
          refine hK _ _ ?_
          clear hK K
          simp only [Act.put, List.getElem_toArray, List.getElem_cons_zero, List.getElem_cons_succ, List.setIfInBounds_toArray, List.set_cons_zero, List.set_cons_succ]
          refine wpAny_done (by kernel_rfl) ?_ _
          have HB5 := kept (dg_store HB4.out (blockS kList S buf2))
          have HG5 := kept (gb_state (gb_then HG3.out (gb_of_below hb4' none) (.inr fun j h => by cases h)) (blockS kList S buf2))
          have HM5 := kept (mem_state (HM4.out.below0 hb4') hq (blockS kList S buf2))
          clear hb4 hb4' HB4 HB3 HG3 HM4 HK3 HK4 HSB r0 r8
          generalize W4.setCells g 0 (stA (blockS kList S buf2)).toList = W5 at HB5 HG5 HM5 ⊢
          have c72 : W5.cell? ⟨g, 72, none⟩ = some (.int .i64 ((u : Int) + (x.length : Int))) := by rw [HB5.out.cell]; exact dgA_used _ _ _ HLB2.out
          have f72 := HB5.out.frozen 72
          go_wp2
          go_roundw
          case rel =>
            refine ⟨p ++ x, r.drop x.length, A2, c' - x.length, HPR2.out, by rw [HRL.out], by rw [HRL.out]; omega, kept (HM5.out.setCell hq _), kept ?_, kept ?_⟩
            · rw [← List.append_assoc, HMM.out]
              refine dg_full (buf := buf) HBUF.out (by rw [HU.out]; exact HTK.out) (by rw [HU.out]; exact H64.out) ?_
              rw [HU.out, HS.out, HBUF2.out]
              have := HB5.out.put 72 (.int .i64 0)
              rw [dgA_set _ _ _ _ HLB2.out] at this
              exact this
            · exact gb_setCell (p := ⟨g, 72, none⟩) HG5.out (.inl rfl) _
          case measure => simp [lenV]; omega
      · have ht : ((u : Int) + (x.length : Int) == 64) = false := by rw [beq_eq_false_iff_ne]; omega
        have H64 := kept h64
        clear h64
        go_wp2
        go_roundw
        case rel =>
          refine ⟨p ++ x, r.drop x.length, A2, c' - x.length, HPR2.out, by rw [HRL.out], by rw [HRL.out]; omega, kept (HM3.out.setCell hq _), kept ?_, kept ?_⟩
          · rw [← List.append_assoc, HMM.out]
            refine dg_more (buf := buf) HBUF.out (by rw [HU.out]; exact HTK.out) (by rw [HU.out]; have := H64.out; have := HXL.out; omega) ?_
            rw [HU.out, HS.out, HBUF2.out]
            have := HB2.out.put 72 (.int .i64 ((u + x.length : Nat) : Int))
            rw [dgA_set _ _ _ _ HLB2.out] at this
            exact this
          · exact gb_setCell (p := ⟨g, 72, none⟩) HG2.out (.inl rfl) _
        case measure => simp [lenV]; omega
end Go.Proofs.YtgplkdnffbappaaDoor
