/-
  The reference's Read of package name, by a contract.
-/
import Derived.Test.YtnejidaplbonoaaNameB
import Derived.Test.YtnejidaplbonoaaRefsB
import Derived.Test.YtnejidaplbonoaaStrs
import Derived.Test.YtnejidaplbonoaaNameV
import Derived.Test.YtnejidaplbonoaaOwn
import Derived.Lib.BufferRead
import Derived.Laws.CopyOwn
namespace Go.Proofs.Ytnejidaplbonoaa
open Go.RowKit
set_option linter.unusedVariables false
set_option linter.unusedSimpArgs false

theorem conv_str {w : World} {q : Nat} {A : Option Addr} {l : List UInt8} (h : Mem w q A l) (n c : Nat) (hn : n = l.length) : (convert 28 9 (.slice A n c)).run Try.prog w = .ok (.string (strOf l)) w := by
  subst hn
  cases A with
  | none =>
    have hl : l = [] := by
      rcases h with h | ⟨o, h, _⟩
      · exact h
      · cases h
    subst hl
    exact Lib.run_convert_nil_bytes w 28 9 5 c Try.underlying28 Try.underlying5 Try.underlying9
  | some ad =>
    refine run_convert_bytes_back w 28 9 5 ad c l Try.underlying28 Try.underlying5 Try.underlying9 fun j hj => ?_
    obtain ⟨o, ho, hc⟩ := h.at_ hj
    injection ho with ho
    subst ho
    rw [Addr.add_mid]
    exact hc
theorem rParts_snoc : ∀ (k : Nat) (s : RS), rParts (k + 1) s = ((rStr (rParts k s).1 1).1, (rParts k s).2 ++ [(rStr (rParts k s).1 1).2])
  | 0, s => rfl
  | k + 1, s => by
    have ih := rParts_snoc k (rStr s 1).1
    show ((rParts (k + 1) (rStr s 1).1).1, (rStr s 1).2 :: (rParts (k + 1) (rStr s 1).1).2) = _
    rw [ih]
    rfl
theorem rParts_len (k : Nat) (s : RS) : (rParts k s).2.length = k := by
  induction k generalizing s with
  | zero => rfl
  | succ k ih => rw [rParts, List.length_cons, ih]
theorem rStr_rest (s : RS) (k : Int) : (rStr s k).1.2.length ≤ s.2.length ∧ (rStr s k).2.length ≤ s.2.length := by
  unfold rStr
  have h := rNum_len s k
  split
  · exact ⟨Nat.le_trans (rTake_len _ _) h, Nat.le_trans (rTake_out _ _) h⟩
  · simp
theorem rParts_rest (k : Nat) (s : RS) : (rParts k s).1.2.length ≤ s.2.length ∧ ∀ x ∈ (rParts k s).2, x.length ≤ s.2.length := by
  induction k generalizing s with
  | zero => exact ⟨Nat.le_refl _, fun x hx => by cases hx⟩
  | succ k ih =>
    have h1 := rStr_rest s 1
    have h2 := ih (rStr s 1).1
    refine ⟨Nat.le_trans h2.1 h1.1, fun x hx => ?_⟩
    rw [rParts] at hx
    rcases List.mem_cons.1 hx with e | e
    · rw [e]; exact h1.2
    · exact Nat.le_trans (h2.2 x e) h1.1
theorem rd_size : (Try.prog.info? 41).map (·.size) = some 2 := by kernel_rfl
theorem nm_size : (Try.prog.info? 24).map (·.size) = some 2 := by kernel_rfl
theorem rd_one (A : Option Addr) (n c : Nat) (b : Bool) : (#[.slice A n c, .bool b] : Array Value).all (·.oneCell') = true := by simp [Value.oneCell']
theorem nm_one (s : ByteArray) (A : Option Addr) (n c : Nat) : (#[.string s, .slice A n c] : Array Value).all (·.oneCell') = true := by simp [Value.oneCell']
theorem results_row_row_tmp {P : Program} {fn : Func} {p u x : Tmp} {ty tz : TypeId} (h : fn.results = #[.cell p ty, .cell u tz, .tmp x]) (tmps : Array Value) (w : World) (g k : Nat) (t t' : TypeId) (cs ds : Array Value) (fr fr' : Nat × Nat) (d d' : TypeDesc)
    (hp : tmps.getD p undef = .pointer (some ⟨g, 0, none⟩)) (hg : w.heap[g]? = some (.cells cs t fr)) (hu : P.underlying ty = some d) (hd : (match d with | .struct _ | .array _ _ => true | _ => false) = true) (hi : (P.info? ty).map (·.size) = some cs.size)
    (hp2 : tmps.getD u undef = .pointer (some ⟨k, 0, none⟩)) (hg2 : w.heap[k]? = some (.cells ds t' fr')) (hu2 : P.underlying tz = some d') (hd2 : (match d' with | .struct _ | .array _ _ => true | _ => false) = true) (hi2 : (P.info? tz).map (·.size) = some ds.size) :
    (results fn tmps).run P w = .ok (.tuple #[.agg cs, .agg ds, tmps.getD x undef]) w := by
  have hp' : tmps[p]?.getD undef = .pointer (some ⟨g, 0, none⟩) := by simpa using hp
  have hp2' : tmps[u]?.getD undef = .pointer (some ⟨k, 0, none⟩) := by simpa using hp2
  simp [results, h, hp', hp2', asAddr, run_loadVar_row w g t ty cs fr d hg hu hd hi, run_loadVar_row w k t' tz ds fr' d' hg2 hu2 hd2 hi2]
theorem blk_range {w : World} {g : Nat} {t : TypeId} {cs : Array Value} (h : Blk w g t cs) : w.rangeAt g 0 cs.toList := fun j v hv => by
  rw [Nat.zero_add]
  exact (h.cell j).trans (by simpa using hv)
/-- The name that is read; nothing if there is none. -/
def rNameO (s : RS) : Nm := if rNameB s then (rName s).2 else (⟨#[]⟩, [])
theorem Blk.off_row {W : World} {g k : Nat} {t : TypeId} {cs ds : Array Value} (h : Blk W k t cs) (hk : k ≠ g) : Blk (W.setRow g ds) k t cs := (setRow_other W g k ds hk).trans h
theorem Mem.row' {w : World} {q g : Nat} {A : Option Addr} {l : List UInt8} (h : Mem w q A l) (hne : l ≠ [] → q ≠ g) (cs : Array Value) : Mem (w.setRow g cs) q A l := by
  by_cases e : l = []
  · exact .inl e
  · rcases h with h | ⟨o, ho, hc⟩
    · exact .inl h
    · exact .inr ⟨o, ho, fun j b hj => (World.cell?_of_block (a := ⟨q, o + j, none⟩) (setRow_other w g q cs (hne e))).trans (hc j b hj)⟩
set_option maxHeartbeats 4000000 in
set_option maxRecDepth 100000 in
theorem reread_any (w : World) (q : Nat) (A : Option Addr) (n c : Nat) (bad : Bool) (l : List UInt8) (hn : n = l.length) (hc : l.length ≤ c) (hl : l.length ≤ 1000000) (hm : Mem w q A l) :
    Calls Try.prog 22 #[.agg #[.slice A n c, .bool bad]] w fun e w' => ∃ A' c' v, e = .returned (.tuple #[.agg #[.slice A' (rName (bad, l)).1.2.length c', .bool (rName (bad, l)).1.1], .agg #[.string (rNameO (bad, l)).1, v], .bool (rNameB (bad, l))]) ∧ OwnS 9 w' w.heap.size v (rNameO (bad, l)).2 ∧ Below w.heap.size w w' := by
  subst hn
  obtain ⟨QN, hQN⟩ : ∃ QN, rName (bad, l) = QN := ⟨_, rfl⟩
  obtain ⟨ZB, hZB⟩ : ∃ ZB, rNameB (bad, l) = ZB := ⟨_, rfl⟩
  obtain ⟨ON, hON⟩ : ∃ ON, rNameO (bad, l) = ON := ⟨_, rfl⟩
  have HON := kept (show ON = if ZB then QN.2 else (⟨#[]⟩, []) by rw [← hON, ← hZB, ← hQN]; rfl)
  rw [hQN, hZB, hON]
  have HZB := kept (show ZB = (!QN.1.1 && isN QN.2) by rw [← hZB, ← hQN]; rfl)
  obtain ⟨i0, hi0, hz0, hs0, hb0⟩ := str_parts
  obtain ⟨s1, hs1⟩ : ∃ s1, rStr (bad, l) 1 = s1 := ⟨_, rfl⟩
  obtain ⟨s2, hs2⟩ : ∃ s2, rNum s1.1 1 = s2 := ⟨_, rfl⟩
  have h1 := rStr_rest (bad, l) 1
  have h2 := rNum_len s1.1 1
  have h3 := rNum_lt s1.1 1
  have HC1 := kept (fun (w' : World) (h : Mem w' q A l) => restr_any w' 1 q A l.length c bad l rfl hc (by omega) h)
  rw [hs1] at h1 HC1
  rw [hs2] at h2 h3
  have HRN := kept (show QN = ((rParts (min s2.2 9) s2.1).1, (strOf s1.2, (rParts (min s2.2 9) s2.1).2.map strOf)) by rw [← hQN]; unfold rName; rw [hs1, hs2])
  have HM := kept hm
  clear hm hs1 hQN hZB hON
  go_enter Try.func22, Try.ntmps22
  go_upto_region 1 with (fail)
  go_name_world W0 hW0
  have HB1 := kept (show Blk W0 w.heap.size 41 #[.slice A l.length c, .bool bad] by rw [← hW0]; exact ((Blk.new w _ _).alloc _).alloc _)
  have HB2 := kept (show Blk W0 (w.heap.size + 1) 41 #[.slice none 0 0, .bool false] by
    rw [← hW0]
    have n1 := Blk.new (w.alloc (.cells #[.slice A l.length c, .bool bad] 41)) 41 #[.slice none 0 0, .bool false]
    rw [World.size_alloc] at n1
    exact n1.alloc _)
  have HB3 := kept (show Blk W0 (w.heap.size + 1 + 1) 24 #[.string ⟨#[]⟩, .slice none 0 0] by
    rw [← hW0]
    have n1 := Blk.new ((w.alloc (.cells #[.slice A l.length c, .bool bad] 41)).alloc (.cells #[.slice none 0 0, .bool false] 41)) 24 #[.string ⟨#[]⟩, .slice none 0 0]
    rw [World.size_alloc, World.size_alloc] at n1
    exact n1)
  have HW := kept (show Below w.heap.size w W0 by rw [← hW0]; exact (((Below.refl _ w).alloc (Nat.le_refl _) _).alloc (by simp) _).alloc (by simp only [World.size_alloc]; omega) _)
  have HMQ := kept (show l ≠ [] → q < w.heap.size from fun h => HM.out.lt h)
  replace HM := kept (HM.out.below0 HW.out)
  have hg0 : w.heap.size + 1 + 1 < W0.heap.size := HB3.out.lt
  clear hW0
  go_wp2_with (refine wpList_load_row rfl 41 (.tmp 1) rfl w.heap.size rfl 41 #[.slice A l.length c, .bool bad] (0, 0) _ HB1.out Try.underlying41 rfl (by rw [rd_size]; rfl) ?_)
  refine (HC1.out W0 HM.out).mono ?_
  rintro e W1 ⟨A1, c1, v1, rfl, hm1, hcc1, ho1, k1⟩
  obtain ⟨Av, qv, cv, hvv, hcv, _, hmv, hSQV, _⟩ := ho1.form
  subst hvv
  obtain ⟨⟨b1, l1⟩, S1⟩ := s1
  simp only at hs2 h1 h2 HC1 HRN hm1 hcc1 hcv hmv ⊢
  have HB1w := kept (HB1.out.below k1 HB1.out.lt)
  have HMV := kept hmv
  have HM1 := kept hm1
  have HB2w := kept (HB2.out.below k1 HB2.out.lt)
  have HB3w := kept (HB3.out.below k1 HB3.out.lt)
  have HWw := kept (below_next HW.out k1)
  have hs01 := k1.size
  clear HB1 HB2 HB3 HM ho1 k1 hm1 hmv HC1
  go_upto_region 2 with (refine wpList_store_row rfl 41 (.tmp 1) (.tmp 14) rfl w.heap.size #[.slice A1 l1.length c1, .bool b1] rfl rfl 41 #[.slice A l.length c, .bool bad] HB1w.out (by rw [rd_size]; rfl) rfl (rd_one _ _ _ _) ?_)
  go_name_world W2 hW2
  have HSQ := kept (show S1 ≠ [] → W0.heap.size ≤ qv from fun h => (hSQV h).1)
  replace HB1 := kept (show Blk W2 w.heap.size 41 #[.slice A1 l1.length c1, .bool b1] by rw [← hW2]; exact setRow_heap _ _ _ _ _ _ HB1w.out)
  have HB2 := kept (show Blk W2 (w.heap.size + 1) 41 #[.slice none 0 0, .bool false] by rw [← hW2]; exact HB2w.out.off_row (by omega))
  have HB3 := kept (show Blk W2 (w.heap.size + 1 + 1) 24 #[.string ⟨#[]⟩, .slice none 0 0] by rw [← hW2]; exact HB3w.out.off_row (by omega))
  have hq1 : l1 ≠ [] → q < w.heap.size := fun h => HMQ.out (fun e => h (List.length_eq_zero_iff.1 (by rw [e] at h1; simpa using h1.1)))
  have HQ1 := kept hq1
  have HM := kept (show Mem W2 q A1 l1 by rw [← hW2]; exact HM1.out.row' (fun h e => by have := hq1 h; omega) _)
  replace HMV := kept (show Mem W2 qv Av S1 by rw [← hW2]; exact HMV.out.row' (fun h e => by have := HSQ.out h; omega) _)
  replace HW := kept (show Below w.heap.size w W2 by rw [← hW2]; exact below_setRow HWw.out (Nat.le_refl _) _)
  have hs2' : W1.heap.size ≤ W2.heap.size := by rw [← hW2]; simp [World.setRow]
  have HC2 := kept (fun (w' : World) (h : Mem w' q A1 l1) => renum_any w' 1 q A1 l1.length c1 b1 l1 rfl hcc1 (by omega) h)
  rw [hs2] at HC2
  clear hW2 HB1w HB2w HB3w HWw HM1 HMQ hcc1 hs2 hq1
  go_wp2_with (refine wpList_load_row rfl 41 (.tmp 1) rfl w.heap.size rfl 41 #[.slice A1 l1.length c1, .bool b1] (0, 0) _ HB1.out Try.underlying41 rfl (by rw [rd_size]; rfl) ?_)
  refine (HC2.out W2 HM.out).mono ?_
  obtain ⟨⟨b2, l2⟩, N2⟩ := s2
  simp only at h2 h3 HC2 HRN ⊢
  rintro e W3 ⟨A2, c2, rfl, hm3, hcc2, k3⟩
  have HB1w := kept (HB1.out.below k3 HB1.out.lt)
  have HM3 := kept hm3
  have HB2w := kept (HB2.out.below k3 HB2.out.lt)
  have HB3w := kept (HB3.out.below k3 HB3.out.lt)
  have HMVw := kept (HMV.out.below0 k3)
  have HWw := kept (below_next HW.out k3)
  have hs3 := k3.size
  have HQ2 := kept (show l2 ≠ [] → q < w.heap.size from fun h => HQ1.out (fun e => h (List.length_eq_zero_iff.1 (by rw [e] at h2; simpa using h2))))
  clear HB1 HB2 HB3 HM k3 hm3 HC2 HMV HQ1
  go_upto_region 3 with (refine wpList_store_row rfl 41 (.tmp 1) (.tmp 19) rfl w.heap.size #[.slice A2 l2.length c2, .bool b2] rfl rfl 41 #[.slice A1 l1.length c1, .bool b1] HB1w.out (by rw [rd_size]; rfl) rfl (rd_one _ _ _ _) ?_)
  go_name_world W4 hW4
  have HB1 := kept (show Blk W4 w.heap.size 41 #[.slice A2 l2.length c2, .bool b2] by rw [← hW4]; exact setRow_heap _ _ _ _ _ _ HB1w.out)
  have HB2 := kept (show Blk W4 (w.heap.size + 1) 41 #[.slice none 0 0, .bool false] by rw [← hW4]; exact HB2w.out.off_row (by omega))
  have HB3 := kept (show Blk W4 (w.heap.size + 1 + 1) 24 #[.string ⟨#[]⟩, .slice none 0 0] by rw [← hW4]; exact HB3w.out.off_row (by omega))
  have HM := kept (show Mem W4 q A2 l2 by rw [← hW4]; exact HM3.out.row' (fun h e => by have := HQ2.out h; omega) _)
  have HMV := kept (show Mem W4 qv Av S1 by rw [← hW4]; exact HMVw.out.row' (fun h e => by have := HSQ.out h; omega) _)
  replace HW := kept (show Below w.heap.size w W4 by rw [← hW4]; exact below_setRow HWw.out (Nat.le_refl _) _)
  have hs4 : W3.heap.size ≤ W4.heap.size := by rw [← hW4]; simp [World.setRow]
  clear hW4 HB1w HB2w HB3w HWw HM3 HMVw
  obtain ⟨RR, hRR⟩ : ∃ RR, strOf S1 = RR := ⟨_, rfl⟩
  have HRS := kept (show RR.size ≤ 1000000 by rw [← hRR, strOf_size]; omega)
  have hcv1 := conv_str HMV.out S1.length cv rfl
  rw [hRR] at hcv1 HRN
  go_upto_region 4 with (refine wpList_store_row rfl 24 (.tmp 7) (.tmp 23) rfl W4.heap.size #[.string RR, .slice none 0 0] rfl rfl 24 #[.string ⟨#[]⟩, .slice none 0 0] (Blk.new W4 _ _) (by rw [nm_size]; rfl) rfl (nm_one _ _ _ _) ?_)
  go_name_world W5 hW5
  have HB7 := kept (show Blk W5 W4.heap.size 24 #[.string RR, .slice none 0 0] by rw [← hW5]; exact setRow_heap _ _ _ _ _ _ (Blk.new W4 _ _))
  have hb5 : Below W4.heap.size W4 W5 := by rw [← hW5]; exact below_setRow ((Below.refl _ W4).alloc (Nat.le_refl _) _) (Nat.le_refl _) _
  replace HB1 := kept (HB1.out.below hb5 HB1.out.lt)
  replace HB2 := kept (HB2.out.below hb5 HB2.out.lt)
  replace HB3 := kept (HB3.out.below hb5 HB3.out.lt)
  replace HM := kept (HM.out.below0 hb5)
  replace HW := kept (below_next HW.out hb5)
  have hg7 : W4.heap.size < W5.heap.size := HB7.out.lt
  have hg7' : W0.heap.size ≤ W4.heap.size := by omega
  clear hW5 hb5 hcv1 HMV hSQV HSQ hRR hs4 hs3 hs2' hs01
  generalize W4.heap.size = g7 at HB7 hg7 hg7' ⊢
  obtain ⟨m, hm9⟩ : ∃ m, min N2 9 = m := ⟨_, rfl⟩
  rw [hm9] at HRN
  have HM9 := kept hm9
  go_wp2_with fail
  go_loopw [8, 9, 10] (fun i _ _ wr => ∃ (k : Nat) (A' : Option Addr) (c' : Nat) (v : Value), k ≤ m ∧ i = .int .u64 k ∧ Kept ((rParts k (b2, l2)).1.2.length ≤ c') ∧ Kept (Blk wr w.heap.size 41 #[.slice A' (rParts k (b2, l2)).1.2.length c', .bool (rParts k (b2, l2)).1.1]) ∧ Kept (Mem wr q A' (rParts k (b2, l2)).1.2) ∧ Kept (Blk wr g7 24 #[.string RR, v]) ∧ Kept (OwnS 9 wr W5.heap.size v ((rParts k (b2, l2)).2.map strOf)) ∧ Kept (Blk wr (w.heap.size + 1) 41 #[.slice none 0 0, .bool false]) ∧ Kept (Blk wr (w.heap.size + 1 + 1) 24 #[.string ⟨#[]⟩, .slice none 0 0]) ∧ Kept (Below w.heap.size w wr) ∧ W5.heap.size ≤ wr.heap.size) (fun i _ _ _ => m - (intOf i).toNat)
  case atStart => exact ⟨0, A2, c2, _, Nat.zero_le _, rfl, kept hcc2, HB1, HM, HB7, kept (OwnS.nil_ _ _ _), HB2, HB3, HW, Nat.le_refl _⟩
  case round =>
    obtain ⟨k, A', c', v, hk, rfl, HC, hB1, hM, hB7, hO, hB2, hB3, hWr, hsr⟩ := hrel
    rename World => wr
    clear HB1 HM HB7 HB2 HB3 HW hcc2
    have hst := rParts_rest k (b2, l2)
    have hsn := rParts_snoc k (b2, l2)
    have hpl := rParts_len k (b2, l2)
    obtain ⟨⟨⟨b3, l3⟩, P⟩, hP⟩ : ∃ p, rParts k (b2, l2) = p := ⟨_, rfl⟩
    rw [hP] at HC hB1 hM hO hst hsn hpl
    simp only at HC hB1 hM hO hst hsn hpl
    have HSN := kept hsn
    have HST := kept hst
    have HP := kept hP
    clear hsn hst hP
    by_cases hlt : k < m
    · have t1 : k < N2 := by omega
      have t2 : (k : Int) < 9 := by omega
      clear hm9
      have HR := kept (fun (w' : World) (h : Mem w' q A' l3) => restr_any w' 1 q A' l3.length c' b3 l3 rfl HC.out (by have := HST.out.1; omega) h)
      have hR1 := rStr_rest (b3, l3) 1
      obtain ⟨⟨⟨b4, l4⟩, S4⟩, hS4⟩ : ∃ p, rStr (b3, l3) 1 = p := ⟨_, rfl⟩
      rw [hS4] at HR HSN hR1
      simp only at HR HSN hR1
      have HS4 := kept hS4
      clear hS4
      go_upto_region 7 with (fail)
      go_wp2_with (refine wpList_load_row rfl 41 (.tmp 1) rfl w.heap.size rfl 41 #[.slice A' l3.length c', .bool b3] (0, 0) _ hB1.out Try.underlying41 rfl (by rw [rd_size]; rfl) ?_)
      refine (HR.out wr hM.out).mono ?_
      rintro e W7 ⟨A4, c4, v4, rfl, hm4, hcc4, ho4, k4⟩
      obtain ⟨Ax, qx, cx, hvx, hcx, _, hmx, _, _⟩ := ho4.form
      subst hvx
      go_upto_region 8 with (refine wpList_store_row rfl 41 (.tmp 9) (.tmp 36) rfl W7.heap.size #[.slice A4 l4.length c4, .bool b4] rfl rfl 41 #[.slice none 0 0, .bool false] (Blk.new W7 _ _) (by rw [rd_size]; rfl) rfl (rd_one _ _ _ _) ?_)
      go_name_world W8 hW8
      have HB9 := kept (show Blk W8 W7.heap.size 41 #[.slice A4 l4.length c4, .bool b4] by rw [← hW8]; exact setRow_heap _ _ _ _ _ _ (Blk.new W7 _ _))
      have k8 : Below W7.heap.size W7 W8 := by rw [← hW8]; exact below_setRow ((Below.refl _ W7).alloc (Nat.le_refl _) _) (Nat.le_refl _) _
      have k48 : Below wr.heap.size wr W8 := below_next k4 k8
      have HB1 := kept (hB1.out.below k48 hB1.out.lt)
      have HB2 := kept (hB2.out.below k48 hB2.out.lt)
      have HB3 := kept (hB3.out.below k48 hB3.out.lt)
      have HB7 := kept (hB7.out.below k48 hB7.out.lt)
      have HO8 := kept (OwnS.below hO.out k48)
      have HW8 := kept (below_next hWr.out k48)
      have HM4 := kept (hm4.below0 k8)
      have hcv8 := conv_str (hmx.below0 k8) S4.length cx rfl
      have hs8 := k48.size
      have hvk2 : ∀ j, v.ownBlock = some j → j < wr.heap.size := fun j hj => (OwnS.lt hO.out j hj).2
      have hg9 : wr.heap.size ≤ W7.heap.size := k4.size
      have hg9' : W7.heap.size < W8.heap.size := HB9.out.lt
      clear hB1 hB2 hB3 hB7 hO hWr hM hm4 ho4 hmx k4 k8 k48 hW8 HR
      generalize W7.heap.size = g9 at HB9 hg9 hg9' ⊢
      obtain ⟨Y, hY⟩ : ∃ Y, strOf S4 = Y := ⟨_, rfl⟩
      rw [hY] at hcv8
      have hc7 : W8.cell? ⟨g7, 1, none⟩ = some v := by rw [HB7.out.cell]; rfl
      have HX := kept (show OwnS 9 (W8.alloc (.cells #[.string Y] 9)) W5.heap.size v (P.map strOf) ∧ MemS (W8.alloc (.cells #[.string Y] 9)) W8.heap.size (some ⟨W8.heap.size, 0, none⟩) [Y] from ⟨OwnS.alloc HO8.out _, memS_lit (l := [Y]) rfl⟩)
      have hvk : ∀ j, v.ownBlock = some j → W5.heap.size ≤ j := fun j hj => (OwnS.lt HO8.out j hj).1
      have hP9 : P.length ≤ 9 := by have := HM9.out; omega
      have HROW := kept (show some g7 ≠ v.ownBlock from fun e => by have := hvk _ e.symm; omega)
      go_upto_region 9 with (at_builtin; refine wpList_append_strs rfl (.tmp 39) (.tmp 42) 22 rfl W5.heap.size i0 Try.underlying22 hi0 hz0 hs0 hb0 v (P.map strOf) rfl HX.out.1 W8.heap.size (some ⟨W8.heap.size, 0, none⟩) 1 1 [Y] rfl rfl HX.out.2 (by rw [List.length_map]; simp; omega) (by simp; omega) ?_; intro v9 W9 ho9 hg99; obtain ⟨A9, q9, c9, hv9, _, _, _⟩ := ho9.form; obtain ⟨n9, hn9⟩ : ∃ n9, (P.map strOf ++ [Y]).length = n9 := ⟨_, rfl⟩; rw [hn9] at hv9; subst hv9; have hg89 := kept ((World.grownBy_alloc W8 _ _).trans hg99); have HB79 := kept (HB7.out.grown hg89.out HROW.out); have HO9 := kept ho9; clear ho9 hg99; have hc9 : W9.cell? ⟨g7, 1, none⟩ = some v := (by rw [HB79.out.cell]; rfl); have hf9 := HB79.out.frozen 1)
      go_name_world W10 hW10
      have hj9 : ∀ j, (Value.slice A9 n9 c9).ownBlock = some j → W5.heap.size ≤ j := fun j hj => (OwnS.lt HO9.out j hj).1
      have hs9 := hg89.out.size
      have hgK : ∀ {g : Nat} {t : TypeId} {cs : Array Value}, Blk W8 g t cs → g < W5.heap.size → g ≠ g7 → Blk W10 g t cs := fun hb h1 h2 => by
        rw [← hW10]
        exact (hb.grown hg89.out (fun e => by have := hvk _ e.symm; omega)).far (p := ⟨g7, 1, none⟩) h2 _
      have HB1' := kept (hgK HB1.out (by omega) (by omega))
      have HB2' := kept (hgK HB2.out (by omega) (by omega))
      have HB3' := kept (hgK HB3.out (by omega) (by omega))
      have HB9' := kept (show Blk W10 g9 41 #[.slice A4 l4.length c4, .bool b4] by
        rw [← hW10]
        exact (HB9.out.grown hg89.out (fun e => by have := hvk2 _ e.symm; omega)).far (p := ⟨g7, 1, none⟩) (by show g9 ≠ g7; omega) _)
      have HB7' := kept (show Blk W10 g7 24 #[.string RR, .slice A9 n9 c9] by rw [← hW10]; exact HB79.out.put 1 _)
      have HQ4 := kept (show l4 ≠ [] → q < w.heap.size from fun h => HQ2.out (fun e => h (List.length_eq_zero_iff.1 (by have := HST.out.1; rw [e] at this; simp at this; have := hR1.1; rw [‹l3 = []›] at this; simpa using this))))
      have HM' := kept (show Mem W10 q A4 l4 by
        rw [← hW10]
        by_cases hne : l4 = []
        · exact .inl hne
        · have := HQ4.out hne
          exact ((HM4.out.grown hg89.out (fun e => by have := hvk _ e.symm; omega)).setCell (p := ⟨g7, 1, none⟩) (by show q ≠ g7; omega) _))
      have HO' := kept (show OwnS 9 W10 W5.heap.size (.slice A9 n9 c9) ((P ++ [S4]).map strOf) by
        rw [List.map_append, List.map_singleton, hY, ← hW10]
        exact OwnS.keep HO9.out fun j hj => Below.heap_setCell W9 ⟨g7, 1, none⟩ _ j (by show j ≠ g7; have := hj9 j hj; omega))
      have HW' := kept (show Below w.heap.size w W10 by
        rw [← hW10]
        exact ((HW8.out.grown hg89.out HW8.out.size (fun j hj => by have := hvk j hj; omega)).setCell (p := ⟨g7, 1, none⟩) (by show w.heap.size ≤ g7; omega) _))
      have hs10 : W9.heap.size ≤ W10.heap.size := by rw [← hW10]; simp
      clear hW10 hgK HB1 HB2 HB3 HB7 HO8 HW8 HM4 HB9 HX hcv8 hg89 HB79 HO9 hc9 hf9 hc7 HROW
      go_upto_region 6 with (first | (refine wpList_load_row rfl 41 (.tmp 9) rfl g9 rfl 41 #[.slice A4 l4.length c4, .bool b4] (0, 0) _ HB9'.out Try.underlying41 rfl (by rw [rd_size]; rfl) ?_) | (refine wpList_store_row rfl 41 (.tmp 1) (.tmp 45) rfl w.heap.size #[.slice A4 l4.length c4, .bool b4] rfl rfl 41 #[.slice A' l3.length c', .bool b3] HB1'.out (by rw [rd_size]; rfl) rfl (rd_one _ _ _ _) ?_))
      go_name_world W11 hW11
      have HB1'' := kept (show Blk W11 w.heap.size 41 #[.slice A4 l4.length c4, .bool b4] by rw [← hW11]; exact setRow_heap _ _ _ _ _ _ HB1'.out)
      have HB2'' := kept (show Blk W11 (w.heap.size + 1) 41 #[.slice none 0 0, .bool false] by rw [← hW11]; exact HB2'.out.off_row (by omega))
      have HB3'' := kept (show Blk W11 (w.heap.size + 1 + 1) 24 #[.string ⟨#[]⟩, .slice none 0 0] by rw [← hW11]; exact HB3'.out.off_row (by omega))
      have HB7'' := kept (show Blk W11 g7 24 #[.string RR, .slice A9 n9 c9] by rw [← hW11]; exact HB7'.out.off_row (by omega))
      have HM'' := kept (show Mem W11 q A4 l4 by rw [← hW11]; exact HM'.out.row' (fun h e => by have := HQ4.out h; omega) _)
      have HO'' := kept (show OwnS 9 W11 W5.heap.size (.slice A9 n9 c9) ((P ++ [S4]).map strOf) by rw [← hW11]; exact OwnS.keep HO'.out fun j hj => setRow_other _ _ _ _ (by have := hj9 j hj; omega))
      have HW'' := kept (show Below w.heap.size w W11 by rw [← hW11]; exact below_setRow HW'.out (Nat.le_refl _) _)
      have hs11 : W10.heap.size ≤ W11.heap.size := by rw [← hW11]; simp [World.setRow]
      have hk11 : k < 9 := by omega
      clear hW11 HB1' HB2' HB3' HB7' HM' HO' HW' HB9'
      go_wp2
      go_roundw
      case rel => exact ⟨k + 1, A4, c4, .slice A9 n9 c9, by omega, by go_num, by rw [HSN.out]; exact kept hcc4, by rw [HSN.out]; exact HB1'', by rw [HSN.out]; exact HM'', HB7'', by rw [HSN.out]; exact HO'', HB2'', HB3'', HW'', by omega⟩
      case measure => simp [intOf]; omega
    · obtain rfl : k = m := by omega
      have HRN2 := HRN.out
      rw [HP.out] at HRN2
      simp only at HRN2
      have HNB := kept (show ZB = (!b3 && isN (RR, P.map strOf)) by rw [HZB.out, HRN2])
      have HRQ := kept HRN2
      have hk9 := HM9.out
      obtain ⟨Ap, qp, cp, hvp, hcp, _, hmp⟩ := hO.out.form
      obtain ⟨np, hnp⟩ : ∃ np, (P.map strOf).length = np := ⟨_, rfl⟩
      have HVAL := kept (revalid_any wr RR (P.map strOf) qp Ap cp (by have := HRS.out; unfold maxLen; omega) (fun s hs => by
        obtain ⟨x, hx, rfl⟩ := List.mem_map.1 hs
        rw [strOf_size]
        have := HST.out.2 x hx
        unfold maxLen
        omega) (by rw [List.length_map]; omega) hmp)
      rw [hnp] at hvp hcp HVAL
      subst hvp
      have hb0 : wr.cell? ⟨w.heap.size, 1, none⟩ = some (.bool b3) := by rw [hB1.out.cell]; rfl
      have HNN := kept (show N2 ≤ k ∨ (9 ≤ k ∧ k < N2) by omega)
      clear HRN HRN2 hm9 HM9 hk9 hnp hmp hk hlt HP
      rcases HNN.out with t1 | ⟨t2, t1⟩
      · have t1' : ¬ k < N2 := by omega
        clear t1
        go_upto_region 10 with (fail)
        cases b3 with
        | true =>
          have HZ := kept (show ZB = false by rw [HNB.out]; rfl)
          have HR2 := kept (show Blk (wr.setRow (w.heap.size + 1) #[.slice A' l3.length c', .bool true]) (w.heap.size + 1) 41 #[.slice A' l3.length c', .bool true] from setRow_heap _ _ _ _ _ _ hB2.out)
          have HR3 := kept (show Blk (wr.setRow (w.heap.size + 1) #[.slice A' l3.length c', .bool true]) (w.heap.size + 1 + 1) 24 #[.string ⟨#[]⟩, .slice none 0 0] from hB3.out.off_row (by omega))
          go_wp2_with (first | (refine wpList_load_row rfl 41 (.tmp 1) rfl w.heap.size rfl 41 #[.slice A' l3.length c', .bool true] (0, 0) _ hB1.out Try.underlying41 rfl (by rw [rd_size]; rfl) ?_) | (refine wpList_store_row rfl 41 (.tmp 2) (.tmp 53) rfl (w.heap.size + 1) #[.slice A' l3.length c', .bool true] rfl rfl 41 #[.slice none 0 0, .bool false] hB2.out (by rw [rd_size]; rfl) rfl (rd_one _ _ _ _) ?_) | (refine wpList_store_row rfl 24 (.tmp 3) (.tmp 54) rfl (w.heap.size + 1 + 1) #[.string ⟨#[]⟩, .slice none 0 0] rfl rfl 24 #[.string ⟨#[]⟩, .slice none 0 0] HR3.out (by rw [nm_size]; rfl) rfl (nm_one _ _ _ _) ?_))
          (try simp only [Exit.inBlock, Exit.then])
          refine bodyPost_ret (v := .tuple #[.agg #[.slice A' l3.length c', .bool true], .agg #[.string ⟨#[]⟩, .slice none 0 0], .bool false]) (results_row_row_tmp Try.results22 _ _ (w.heap.size + 1) (w.heap.size + 1 + 1) 41 24 #[.slice A' l3.length c', .bool true] #[.string ⟨#[]⟩, .slice none 0 0] (0, 0) (0, 0) _ _ rfl (HR2.out.off_row (by omega)) Try.underlying41 rfl (by rw [rd_size]; rfl) rfl (setRow_heap _ _ _ _ _ _ HR3.out) Try.underlying24 rfl (by rw [nm_size]; rfl)) rfl ?_
          rw [HON.out, HZ.out, HRQ.out]
          exact ⟨A', c', _, rfl, OwnS.nil_ _ _ _, below_setRow (below_setRow hWr.out (by omega) _) (by omega) _⟩
        | false =>
          go_wp2_with (refine wpList_load_row_w (by rfl) 24 (.tmp 7) rfl g7 rfl 24 #[.string RR, .slice Ap np cp] (0, 0) _ hB7.out Try.underlying24 rfl (by rw [nm_size]; rfl) ?_)
          refine (HVAL.out).mono ?_
          rintro e w1 ⟨rfl, k1⟩
          replace hB1 := kept (hB1.out.below k1 hB1.out.lt)
          replace hB2 := kept (hB2.out.below k1 hB2.out.lt)
          replace hB3 := kept (hB3.out.below k1 hB3.out.lt)
          replace hB7 := kept (hB7.out.below k1 hB7.out.lt)
          replace hO := kept (OwnS.below hO.out k1)
          replace hWr := kept (below_next hWr.out k1)
          clear k1 HVAL hb0
          cases hV : isN (RR, P.map strOf) with
          | false =>
            have HV := kept hV
            clear hV
            have HZ := kept (show ZB = false by rw [HNB.out]; rw [HV.out]; rfl)
            have HR2 := kept (show Blk (w1.setRow (w.heap.size + 1) #[.slice A' l3.length c', .bool false]) (w.heap.size + 1) 41 #[.slice A' l3.length c', .bool false] from setRow_heap _ _ _ _ _ _ hB2.out)
            have HR3 := kept (show Blk (w1.setRow (w.heap.size + 1) #[.slice A' l3.length c', .bool false]) (w.heap.size + 1 + 1) 24 #[.string ⟨#[]⟩, .slice none 0 0] from hB3.out.off_row (by omega))
            go_wp2_with (first | (refine wpList_load_row rfl 41 (.tmp 1) rfl w.heap.size rfl 41 #[.slice A' l3.length c', .bool false] (0, 0) _ hB1.out Try.underlying41 rfl (by rw [rd_size]; rfl) ?_) | (refine wpList_store_row rfl 41 (.tmp 2) (.tmp 53) rfl (w.heap.size + 1) #[.slice A' l3.length c', .bool false] rfl rfl 41 #[.slice none 0 0, .bool false] hB2.out (by rw [rd_size]; rfl) rfl (rd_one _ _ _ _) ?_) | (refine wpList_store_row rfl 24 (.tmp 3) (.tmp 54) rfl (w.heap.size + 1 + 1) #[.string ⟨#[]⟩, .slice none 0 0] rfl rfl 24 #[.string ⟨#[]⟩, .slice none 0 0] HR3.out (by rw [nm_size]; rfl) rfl (nm_one _ _ _ _) ?_))
            (try simp only [Exit.inBlock, Exit.then])
            refine bodyPost_ret (v := .tuple #[.agg #[.slice A' l3.length c', .bool false], .agg #[.string ⟨#[]⟩, .slice none 0 0], .bool false]) (results_row_row_tmp Try.results22 _ _ (w.heap.size + 1) (w.heap.size + 1 + 1) 41 24 #[.slice A' l3.length c', .bool false] #[.string ⟨#[]⟩, .slice none 0 0] (0, 0) (0, 0) _ _ rfl (HR2.out.off_row (by omega)) Try.underlying41 rfl (by rw [rd_size]; rfl) rfl (setRow_heap _ _ _ _ _ _ HR3.out) Try.underlying24 rfl (by rw [nm_size]; rfl)) rfl ?_
            rw [HON.out, HZ.out, HRQ.out]
            exact ⟨A', c', _, rfl, OwnS.nil_ _ _ _, below_setRow (below_setRow hWr.out (by omega) _) (by omega) _⟩
          | true =>
            have HV := kept hV
            clear hV
            have HZ := kept (show ZB = true by rw [HNB.out, HV.out]; rfl)
            have R1 := kept (show w1.rangeAt w.heap.size 0 [.slice A' l3.length c', .bool false] from blk_range hB1.out)
            have R7 := kept (show w1.rangeAt g7 0 [.string RR, .slice Ap np cp] from blk_range hB7.out)
            go_upto_region 12 with (fail)
            have hS : (fun w' : World => w'.rangeAt w.heap.size 0 [.slice A' l3.length c', .bool false] ∧ w'.rangeAt g7 0 [.string RR, .slice Ap np cp]) w1.drew := ⟨R1.out, R7.out⟩
            have HSD := kept hS
            have HR2 := kept (show Blk (w1.drew.setRow (w.heap.size + 1) #[.slice A' l3.length c', .bool false]) (w.heap.size + 1) 41 #[.slice A' l3.length c', .bool false] from setRow_heap _ _ _ _ _ _ hB2.out)
            have HR3 := kept (show Blk (w1.drew.setRow (w.heap.size + 1) #[.slice A' l3.length c', .bool false]) (w.heap.size + 1 + 1) 24 #[.string ⟨#[]⟩, .slice none 0 0] from Blk.off_row (W := w1.drew) hB3.out (by omega))
            have HR1 := kept (show Blk (w1.drew.setRow (w.heap.size + 1) #[.slice A' l3.length c', .bool false]) w.heap.size 41 #[.slice A' l3.length c', .bool false] from Blk.off_row (W := w1.drew) hB1.out (by omega))
            have HR7 := kept (show Blk (w1.drew.setRow (w.heap.size + 1) #[.slice A' l3.length c', .bool false]) g7 24 #[.string RR, .slice Ap np cp] from Blk.off_row (W := w1.drew) hB7.out (by omega))
            have HS2 := kept (show (fun w' : World => w'.rangeAt w.heap.size 0 [.slice A' l3.length c', .bool false] ∧ w'.rangeAt g7 0 [.string RR, .slice Ap np cp]) (w1.drew.setRow (w.heap.size + 1) #[.slice A' l3.length c', .bool false]) from ⟨blk_range HR1.out, blk_range HR7.out⟩)
            have HQ1 := kept (show Blk ((w1.drew.setRow (w.heap.size + 1) #[.slice A' l3.length c', .bool false]).setRow (w.heap.size + 1 + 1) #[.string RR, .slice Ap np cp]) (w.heap.size + 1 + 1) 24 #[.string RR, .slice Ap np cp] from setRow_heap _ _ _ _ _ _ HR3.out)
            have HQ2' := kept (show Blk ((w1.drew.setRow (w.heap.size + 1) #[.slice A' l3.length c', .bool false]).setRow (w.heap.size + 1 + 1) #[.string RR, .slice Ap np cp]) (w.heap.size + 1) 41 #[.slice A' l3.length c', .bool false] from HR2.out.off_row (by omega))
            have HS3 := kept (show (fun w' : World => w'.rangeAt w.heap.size 0 [.slice A' l3.length c', .bool false] ∧ w'.rangeAt g7 0 [.string RR, .slice Ap np cp]) ((w1.drew.setRow (w.heap.size + 1) #[.slice A' l3.length c', .bool false]).setRow (w.heap.size + 1 + 1) #[.string RR, .slice Ap np cp]) from ⟨blk_range (HR1.out.off_row (ds := #[.string RR, .slice Ap np cp]) (g := w.heap.size + 1 + 1) (by omega)), blk_range (HR7.out.off_row (ds := #[.string RR, .slice Ap np cp]) (g := w.heap.size + 1 + 1) (by omega))⟩)
            have hj : ∀ j, (Value.slice Ap np cp).ownBlock = some j → W5.heap.size ≤ j := fun j hj => (OwnS.lt hO.out j hj).1
            have HO1 := kept (show OwnS 9 ((w1.drew.setRow (w.heap.size + 1) #[.slice A' l3.length c', .bool false]).setRow (w.heap.size + 1 + 1) #[.string RR, .slice Ap np cp]) w.heap.size (.slice Ap np cp) (P.map strOf) from OwnS.mono (OwnS.keep hO.out fun j h => by
              rw [setRow_other _ _ _ _ (by have := hj j h; omega), setRow_other _ _ _ _ (by have := hj j h; omega)]
              rfl) (by omega))
            have HWF := kept (below_setRow (below_setRow hWr.out.drew (show w.heap.size ≤ w.heap.size + 1 by omega) #[.slice A' l3.length c', .bool false]) (show w.heap.size ≤ w.heap.size + 1 + 1 by omega) #[.string RR, .slice Ap np cp])
            try simp only [Act.put, List.getElem_toArray, List.getElem_cons_zero, List.getElem_cons_succ, List.setIfInBounds_toArray, List.set_cons_zero, List.set_cons_succ]
            refine wp_region_held_drew (S := fun w' : World => w'.rangeAt w.heap.size 0 [.slice A' l3.length c', .bool false] ∧ w'.rangeAt g7 0 [.string RR, .slice Ap np cp]) (by kernel_rfl) HSD.out (fun _ => ?_)
            refine wpAnyH_take (i := 0) (v := _) rfl (by kernel_rfl) (by kernel_rfl) (by kernel_rfl) (fun _ _ _ h => h) (yieldsIf_load_mid rfl 41 (.tmp 1) rfl w.heap.size 0 rfl [.slice A' l3.length c', .bool false] _ (fun w' h => h.1) Try.underlying41 rfl (by rw [rd_size]; rfl)) HSD.out ?_
            try simp only [Act.put, List.getElem_toArray, List.getElem_cons_zero, List.getElem_cons_succ, List.setIfInBounds_toArray, List.set_cons_zero, List.set_cons_succ]
            refine wpAnyH_take (i := 1) (v := _) rfl (by kernel_rfl) (by kernel_rfl) (by kernel_rfl) (fun _ _ _ h => h) (yieldsIf_load_mid rfl 24 (.tmp 7) rfl g7 0 rfl [.string RR, .slice Ap np cp] _ (fun w' h => h.2) Try.underlying24 rfl (by rw [nm_size]; rfl)) HSD.out ?_
            try simp only [Act.put, List.getElem_toArray, List.getElem_cons_zero, List.getElem_cons_succ, List.setIfInBounds_toArray, List.set_cons_zero, List.set_cons_succ]
            refine wpAnyH_ready (rs := [2]) (by kernel_rfl) (by simp) ?_
            refine AllReadyH.cons rfl (fun K hK => ?_) AllReadyH.nil
            refine wp_store_row 41 (.tmp 2) (.tmp 55) rfl (w.heap.size + 1) #[.slice A' l3.length c', .bool false] rfl rfl 41 #[.slice none 0 0, .bool false] hB2.out (by rw [rd_size]; rfl) rfl (rd_one _ _ _ _) ?_
            refine hK.out _ _ HS2.out (fun _ => ?_)
            clear hK K
            try simp only [Act.put, List.getElem_toArray, List.getElem_cons_zero, List.getElem_cons_succ, List.setIfInBounds_toArray, List.set_cons_zero, List.set_cons_succ]
            refine wpAnyH_ready (rs := [3]) (by kernel_rfl) (by simp) ?_
            refine AllReadyH.cons rfl (fun K hK => ?_) AllReadyH.nil
            refine wp_store_row 24 (.tmp 3) (.tmp 56) rfl (w.heap.size + 1 + 1) #[.string RR, .slice Ap np cp] rfl rfl 24 #[.string ⟨#[]⟩, .slice none 0 0] HR3.out (by rw [nm_size]; rfl) rfl (nm_one _ _ _ _) ?_
            refine hK.out _ _ HS3.out (fun _ => ?_)
            clear hK K
            try simp only [Act.put, List.getElem_toArray, List.getElem_cons_zero, List.getElem_cons_succ, List.setIfInBounds_toArray, List.set_cons_zero, List.set_cons_succ]
            refine wpAnyH_ready (rs := [4]) (by kernel_rfl) (by simp) ?_
            refine AllReadyH.cons rfl (fun K hK => ?_) AllReadyH.nil
            go_simp
            refine hK.out _ _ HS3.out (fun _ => ?_)
            clear hK K
            try simp only [Act.put, List.getElem_toArray, List.getElem_cons_zero, List.getElem_cons_succ, List.setIfInBounds_toArray, List.set_cons_zero, List.set_cons_succ]
            refine wpAnyH_done (by kernel_rfl) ?_ _
            go_wp2_with fail
            (try simp only [Exit.inBlock, Exit.then])
            refine bodyPost_ret (v := .tuple #[.agg #[.slice A' l3.length c', .bool false], .agg #[.string RR, .slice Ap np cp], .bool true]) (results_row_row_tmp Try.results22 _ _ (w.heap.size + 1) (w.heap.size + 1 + 1) 41 24 #[.slice A' l3.length c', .bool false] #[.string RR, .slice Ap np cp] (0, 0) (0, 0) _ _ rfl HQ2'.out Try.underlying41 rfl (by rw [rd_size]; rfl) rfl HQ1.out Try.underlying24 rfl (by rw [nm_size]; rfl)) rfl ?_
            rw [HON.out, HZ.out, HRQ.out]
            exact ⟨A', c', _, rfl, HO1.out, HWF.out⟩
      · have t2' : ¬ (k : Int) < 9 := by omega
        go_upto_region 10 with (fail)
        cases b3 with
        | true =>
          have HZ := kept (show ZB = false by rw [HNB.out]; rfl)
          have HR2 := kept (show Blk (wr.setRow (w.heap.size + 1) #[.slice A' l3.length c', .bool true]) (w.heap.size + 1) 41 #[.slice A' l3.length c', .bool true] from setRow_heap _ _ _ _ _ _ hB2.out)
          have HR3 := kept (show Blk (wr.setRow (w.heap.size + 1) #[.slice A' l3.length c', .bool true]) (w.heap.size + 1 + 1) 24 #[.string ⟨#[]⟩, .slice none 0 0] from hB3.out.off_row (by omega))
          go_wp2_with (first | (refine wpList_load_row rfl 41 (.tmp 1) rfl w.heap.size rfl 41 #[.slice A' l3.length c', .bool true] (0, 0) _ hB1.out Try.underlying41 rfl (by rw [rd_size]; rfl) ?_) | (refine wpList_store_row rfl 41 (.tmp 2) (.tmp 53) rfl (w.heap.size + 1) #[.slice A' l3.length c', .bool true] rfl rfl 41 #[.slice none 0 0, .bool false] hB2.out (by rw [rd_size]; rfl) rfl (rd_one _ _ _ _) ?_) | (refine wpList_store_row rfl 24 (.tmp 3) (.tmp 54) rfl (w.heap.size + 1 + 1) #[.string ⟨#[]⟩, .slice none 0 0] rfl rfl 24 #[.string ⟨#[]⟩, .slice none 0 0] HR3.out (by rw [nm_size]; rfl) rfl (nm_one _ _ _ _) ?_))
          (try simp only [Exit.inBlock, Exit.then])
          refine bodyPost_ret (v := .tuple #[.agg #[.slice A' l3.length c', .bool true], .agg #[.string ⟨#[]⟩, .slice none 0 0], .bool false]) (results_row_row_tmp Try.results22 _ _ (w.heap.size + 1) (w.heap.size + 1 + 1) 41 24 #[.slice A' l3.length c', .bool true] #[.string ⟨#[]⟩, .slice none 0 0] (0, 0) (0, 0) _ _ rfl (HR2.out.off_row (by omega)) Try.underlying41 rfl (by rw [rd_size]; rfl) rfl (setRow_heap _ _ _ _ _ _ HR3.out) Try.underlying24 rfl (by rw [nm_size]; rfl)) rfl ?_
          rw [HON.out, HZ.out, HRQ.out]
          exact ⟨A', c', _, rfl, OwnS.nil_ _ _ _, below_setRow (below_setRow hWr.out (by omega) _) (by omega) _⟩
        | false =>
          go_wp2_with (refine wpList_load_row_w (by rfl) 24 (.tmp 7) rfl g7 rfl 24 #[.string RR, .slice Ap np cp] (0, 0) _ hB7.out Try.underlying24 rfl (by rw [nm_size]; rfl) ?_)
          refine (HVAL.out).mono ?_
          rintro e w1 ⟨rfl, k1⟩
          replace hB1 := kept (hB1.out.below k1 hB1.out.lt)
          replace hB2 := kept (hB2.out.below k1 hB2.out.lt)
          replace hB3 := kept (hB3.out.below k1 hB3.out.lt)
          replace hB7 := kept (hB7.out.below k1 hB7.out.lt)
          replace hO := kept (OwnS.below hO.out k1)
          replace hWr := kept (below_next hWr.out k1)
          clear k1 HVAL hb0
          cases hV : isN (RR, P.map strOf) with
          | false =>
            have HV := kept hV
            clear hV
            have HZ := kept (show ZB = false by rw [HNB.out]; rw [HV.out]; rfl)
            have HR2 := kept (show Blk (w1.setRow (w.heap.size + 1) #[.slice A' l3.length c', .bool false]) (w.heap.size + 1) 41 #[.slice A' l3.length c', .bool false] from setRow_heap _ _ _ _ _ _ hB2.out)
            have HR3 := kept (show Blk (w1.setRow (w.heap.size + 1) #[.slice A' l3.length c', .bool false]) (w.heap.size + 1 + 1) 24 #[.string ⟨#[]⟩, .slice none 0 0] from hB3.out.off_row (by omega))
            go_wp2_with (first | (refine wpList_load_row rfl 41 (.tmp 1) rfl w.heap.size rfl 41 #[.slice A' l3.length c', .bool false] (0, 0) _ hB1.out Try.underlying41 rfl (by rw [rd_size]; rfl) ?_) | (refine wpList_store_row rfl 41 (.tmp 2) (.tmp 53) rfl (w.heap.size + 1) #[.slice A' l3.length c', .bool false] rfl rfl 41 #[.slice none 0 0, .bool false] hB2.out (by rw [rd_size]; rfl) rfl (rd_one _ _ _ _) ?_) | (refine wpList_store_row rfl 24 (.tmp 3) (.tmp 54) rfl (w.heap.size + 1 + 1) #[.string ⟨#[]⟩, .slice none 0 0] rfl rfl 24 #[.string ⟨#[]⟩, .slice none 0 0] HR3.out (by rw [nm_size]; rfl) rfl (nm_one _ _ _ _) ?_))
            (try simp only [Exit.inBlock, Exit.then])
            refine bodyPost_ret (v := .tuple #[.agg #[.slice A' l3.length c', .bool false], .agg #[.string ⟨#[]⟩, .slice none 0 0], .bool false]) (results_row_row_tmp Try.results22 _ _ (w.heap.size + 1) (w.heap.size + 1 + 1) 41 24 #[.slice A' l3.length c', .bool false] #[.string ⟨#[]⟩, .slice none 0 0] (0, 0) (0, 0) _ _ rfl (HR2.out.off_row (by omega)) Try.underlying41 rfl (by rw [rd_size]; rfl) rfl (setRow_heap _ _ _ _ _ _ HR3.out) Try.underlying24 rfl (by rw [nm_size]; rfl)) rfl ?_
            rw [HON.out, HZ.out, HRQ.out]
            exact ⟨A', c', _, rfl, OwnS.nil_ _ _ _, below_setRow (below_setRow hWr.out (by omega) _) (by omega) _⟩
          | true =>
            have HV := kept hV
            clear hV
            have HZ := kept (show ZB = true by rw [HNB.out, HV.out]; rfl)
            have R1 := kept (show w1.rangeAt w.heap.size 0 [.slice A' l3.length c', .bool false] from blk_range hB1.out)
            have R7 := kept (show w1.rangeAt g7 0 [.string RR, .slice Ap np cp] from blk_range hB7.out)
            go_upto_region 12 with (fail)
            have hS : (fun w' : World => w'.rangeAt w.heap.size 0 [.slice A' l3.length c', .bool false] ∧ w'.rangeAt g7 0 [.string RR, .slice Ap np cp]) w1.drew := ⟨R1.out, R7.out⟩
            have HSD := kept hS
            have HR2 := kept (show Blk (w1.drew.setRow (w.heap.size + 1) #[.slice A' l3.length c', .bool false]) (w.heap.size + 1) 41 #[.slice A' l3.length c', .bool false] from setRow_heap _ _ _ _ _ _ hB2.out)
            have HR3 := kept (show Blk (w1.drew.setRow (w.heap.size + 1) #[.slice A' l3.length c', .bool false]) (w.heap.size + 1 + 1) 24 #[.string ⟨#[]⟩, .slice none 0 0] from Blk.off_row (W := w1.drew) hB3.out (by omega))
            have HR1 := kept (show Blk (w1.drew.setRow (w.heap.size + 1) #[.slice A' l3.length c', .bool false]) w.heap.size 41 #[.slice A' l3.length c', .bool false] from Blk.off_row (W := w1.drew) hB1.out (by omega))
            have HR7 := kept (show Blk (w1.drew.setRow (w.heap.size + 1) #[.slice A' l3.length c', .bool false]) g7 24 #[.string RR, .slice Ap np cp] from Blk.off_row (W := w1.drew) hB7.out (by omega))
            have HS2 := kept (show (fun w' : World => w'.rangeAt w.heap.size 0 [.slice A' l3.length c', .bool false] ∧ w'.rangeAt g7 0 [.string RR, .slice Ap np cp]) (w1.drew.setRow (w.heap.size + 1) #[.slice A' l3.length c', .bool false]) from ⟨blk_range HR1.out, blk_range HR7.out⟩)
            have HQ1 := kept (show Blk ((w1.drew.setRow (w.heap.size + 1) #[.slice A' l3.length c', .bool false]).setRow (w.heap.size + 1 + 1) #[.string RR, .slice Ap np cp]) (w.heap.size + 1 + 1) 24 #[.string RR, .slice Ap np cp] from setRow_heap _ _ _ _ _ _ HR3.out)
            have HQ2' := kept (show Blk ((w1.drew.setRow (w.heap.size + 1) #[.slice A' l3.length c', .bool false]).setRow (w.heap.size + 1 + 1) #[.string RR, .slice Ap np cp]) (w.heap.size + 1) 41 #[.slice A' l3.length c', .bool false] from HR2.out.off_row (by omega))
            have HS3 := kept (show (fun w' : World => w'.rangeAt w.heap.size 0 [.slice A' l3.length c', .bool false] ∧ w'.rangeAt g7 0 [.string RR, .slice Ap np cp]) ((w1.drew.setRow (w.heap.size + 1) #[.slice A' l3.length c', .bool false]).setRow (w.heap.size + 1 + 1) #[.string RR, .slice Ap np cp]) from ⟨blk_range (HR1.out.off_row (ds := #[.string RR, .slice Ap np cp]) (g := w.heap.size + 1 + 1) (by omega)), blk_range (HR7.out.off_row (ds := #[.string RR, .slice Ap np cp]) (g := w.heap.size + 1 + 1) (by omega))⟩)
            have hj : ∀ j, (Value.slice Ap np cp).ownBlock = some j → W5.heap.size ≤ j := fun j hj => (OwnS.lt hO.out j hj).1
            have HO1 := kept (show OwnS 9 ((w1.drew.setRow (w.heap.size + 1) #[.slice A' l3.length c', .bool false]).setRow (w.heap.size + 1 + 1) #[.string RR, .slice Ap np cp]) w.heap.size (.slice Ap np cp) (P.map strOf) from OwnS.mono (OwnS.keep hO.out fun j h => by
              rw [setRow_other _ _ _ _ (by have := hj j h; omega), setRow_other _ _ _ _ (by have := hj j h; omega)]
              rfl) (by omega))
            have HWF := kept (below_setRow (below_setRow hWr.out.drew (show w.heap.size ≤ w.heap.size + 1 by omega) #[.slice A' l3.length c', .bool false]) (show w.heap.size ≤ w.heap.size + 1 + 1 by omega) #[.string RR, .slice Ap np cp])
            try simp only [Act.put, List.getElem_toArray, List.getElem_cons_zero, List.getElem_cons_succ, List.setIfInBounds_toArray, List.set_cons_zero, List.set_cons_succ]
            refine wp_region_held_drew (S := fun w' : World => w'.rangeAt w.heap.size 0 [.slice A' l3.length c', .bool false] ∧ w'.rangeAt g7 0 [.string RR, .slice Ap np cp]) (by kernel_rfl) HSD.out (fun _ => ?_)
            refine wpAnyH_take (i := 0) (v := _) rfl (by kernel_rfl) (by kernel_rfl) (by kernel_rfl) (fun _ _ _ h => h) (yieldsIf_load_mid rfl 41 (.tmp 1) rfl w.heap.size 0 rfl [.slice A' l3.length c', .bool false] _ (fun w' h => h.1) Try.underlying41 rfl (by rw [rd_size]; rfl)) HSD.out ?_
            try simp only [Act.put, List.getElem_toArray, List.getElem_cons_zero, List.getElem_cons_succ, List.setIfInBounds_toArray, List.set_cons_zero, List.set_cons_succ]
            refine wpAnyH_take (i := 1) (v := _) rfl (by kernel_rfl) (by kernel_rfl) (by kernel_rfl) (fun _ _ _ h => h) (yieldsIf_load_mid rfl 24 (.tmp 7) rfl g7 0 rfl [.string RR, .slice Ap np cp] _ (fun w' h => h.2) Try.underlying24 rfl (by rw [nm_size]; rfl)) HSD.out ?_
            try simp only [Act.put, List.getElem_toArray, List.getElem_cons_zero, List.getElem_cons_succ, List.setIfInBounds_toArray, List.set_cons_zero, List.set_cons_succ]
            refine wpAnyH_ready (rs := [2]) (by kernel_rfl) (by simp) ?_
            refine AllReadyH.cons rfl (fun K hK => ?_) AllReadyH.nil
            refine wp_store_row 41 (.tmp 2) (.tmp 55) rfl (w.heap.size + 1) #[.slice A' l3.length c', .bool false] rfl rfl 41 #[.slice none 0 0, .bool false] hB2.out (by rw [rd_size]; rfl) rfl (rd_one _ _ _ _) ?_
            refine hK.out _ _ HS2.out (fun _ => ?_)
            clear hK K
            try simp only [Act.put, List.getElem_toArray, List.getElem_cons_zero, List.getElem_cons_succ, List.setIfInBounds_toArray, List.set_cons_zero, List.set_cons_succ]
            refine wpAnyH_ready (rs := [3]) (by kernel_rfl) (by simp) ?_
            refine AllReadyH.cons rfl (fun K hK => ?_) AllReadyH.nil
            refine wp_store_row 24 (.tmp 3) (.tmp 56) rfl (w.heap.size + 1 + 1) #[.string RR, .slice Ap np cp] rfl rfl 24 #[.string ⟨#[]⟩, .slice none 0 0] HR3.out (by rw [nm_size]; rfl) rfl (nm_one _ _ _ _) ?_
            refine hK.out _ _ HS3.out (fun _ => ?_)
            clear hK K
            try simp only [Act.put, List.getElem_toArray, List.getElem_cons_zero, List.getElem_cons_succ, List.setIfInBounds_toArray, List.set_cons_zero, List.set_cons_succ]
            refine wpAnyH_ready (rs := [4]) (by kernel_rfl) (by simp) ?_
            refine AllReadyH.cons rfl (fun K hK => ?_) AllReadyH.nil
            go_simp
            refine hK.out _ _ HS3.out (fun _ => ?_)
            clear hK K
            try simp only [Act.put, List.getElem_toArray, List.getElem_cons_zero, List.getElem_cons_succ, List.setIfInBounds_toArray, List.set_cons_zero, List.set_cons_succ]
            refine wpAnyH_done (by kernel_rfl) ?_ _
            go_wp2_with fail
            (try simp only [Exit.inBlock, Exit.then])
            refine bodyPost_ret (v := .tuple #[.agg #[.slice A' l3.length c', .bool false], .agg #[.string RR, .slice Ap np cp], .bool true]) (results_row_row_tmp Try.results22 _ _ (w.heap.size + 1) (w.heap.size + 1 + 1) 41 24 #[.slice A' l3.length c', .bool false] #[.string RR, .slice Ap np cp] (0, 0) (0, 0) _ _ rfl HQ2'.out Try.underlying41 rfl (by rw [rd_size]; rfl) rfl HQ1.out Try.underlying24 rfl (by rw [nm_size]; rfl)) rfl ?_
            rw [HON.out, HZ.out, HRQ.out]
            exact ⟨A', c', _, rfl, HO1.out, HWF.out⟩
end Go.Proofs.Ytnejidaplbonoaa
