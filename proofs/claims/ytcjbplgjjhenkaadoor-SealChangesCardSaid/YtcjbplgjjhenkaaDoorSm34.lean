/-
  Package ctr: Crypt by a contract, and Next in the laws' words.
-/
import Derived.Test.YtcjbplgjjhenkaaDoorSm33
import Derived.Test.YtcjbplgjjhenkaaDoorSm23
import Derived.Test.YtcjbplgjjhenkaaDoorSm4
import Derived.Test.YtcjbplgjjhenkaaDoorSm8
import Derived.Deep.Cut
import Derived.Shelf.Abstract
/-
  Package ctr: Next, by a contract.
-/
namespace Go.Proofs.YtcjbplgjjhenkaaDoor
open Go.RowKit
set_option linter.unusedVariables false
set_option linter.unusedSimpArgs false
attribute [local go_sem] Oper.semAt_some

/-- wp_region_tail, ahead of the region's own law: a region that draws its order, with last operations that do not only read. -/
theorem any_tail {P : Program} {Q : Exit → Act → World → Prop} {a : Act} {w : World} {l : List Oper} (C : World → Prop) (n : Nat) (hB : Region.lexTailB .any l.toArray n = true) (hC : C w)
    (h : wpQuiet P l.toArray C (fun a' => ∀ w', C w' → wpList P l.toArray Q (l.drop n) a' w') (l.take n) a) : wpAny P .any l.toArray Q l.toArray.size (Array.replicate l.toArray.size false) a w := by
  simp only [Region.lexTailB, Bool.and_eq_true, decide_eq_true_eq] at hB
  obtain ⟨⟨⟨⟨hsel, hn⟩, hs⟩, hc⟩, hlex⟩ := hB
  have hn' : n < l.length := hn
  have ht : (l.take n).length = n := by rw [List.length_take]; omega
  have hd : (l.drop n).length = l.toArray.size - n := by rw [List.length_drop, List.size_toArray]
  have unlisted : ∀ j, (Array.replicate l.toArray.size false).getD j false = false := getD_replicate_false _
  have inv : HeadInv .any l.toArray n (Array.replicate l.toArray.size false) := by
    refine ⟨by simp, fun j oj _ h1 => ?_, fun t _ h1 => getD_in (by simpa using h1) (unlisted t)⟩
    rw [unlisted j] at h1
    exact Bool.noConfusion h1
  have H := headAny_lex (P := P) (C := C) (g := l.toArray.size - n) hsel hs hc hn (l.take n) 0 _ a (fun j hj => by rw [ht] at hj; simp [hj]) (by rw [ht]; omega) inv (by rw [ht]; exact hlex) h
  rw [ht] at H
  have H2 := headAny_wpAny (Q := Q) (g := l.toArray.size - n) (fun up a' hq w' hw' => by
    have := wpAny_of_seq (md := .any) (Q' := Q) (l.drop n) n up a' w' (fun j => by simp [List.getElem?_drop]) (by rw [hd]; exact hq.1) (hq.2 w' hw')
    rwa [hd] at this) n _ a w hC H
  rwa [show n + (l.toArray.size - n) = l.toArray.size by omega] at H2
theorem cnext_nil (w : World) (q n c : Nat) (A : Option Addr) (b : List UInt8) (hn : n = b.length) (hm : Mem w q A b) : Calls Tryd.prog 27 #[.pointer none, .slice A n c] w fun e w' => ∃ v, e = .returned v ∧ Own w' w.heap.size v [] ∧ Below w.heap.size w w' := by
  go_enter Tryd.func27, Tryd.ntmps27
  go_wp2
  go_ret
  exact ⟨_, rfl, Own.nil_ _ _, (Below.refl _ _).alloc (Nat.le_refl _) _⟩
theorem cnext_none (w : World) (key nonce : Nat → UInt8) (used g c : Nat) (A : Option Addr) (hc : CAt key nonce used g w) : Calls Tryd.prog 27 #[.pointer (some ⟨g, 0, none⟩), .slice A 0 c] w fun e w' => ∃ v, e = .returned v ∧ Own w' w.heap.size v [] ∧ Below w.heap.size w w' := by
  go_enter Tryd.func27, Tryd.ntmps27
  go_wp2
  go_ret
  exact ⟨_, rfl, Own.nil_ _ _, (Below.refl _ _).alloc (Nat.le_refl _) _⟩
/-- What holds ahead of a round: o bytes are combined. -/
structure NInv (w : World) (key nonce : Nat → UInt8) (used g br q L c : Nat) (b : List UInt8) (o : Nat) (W : World) : Prop where
  bc : Blk W w.heap.size 52 #[.pointer (some ⟨g, 0, none⟩)]
  ci : CAt key nonce (used + o) g W
  rs : Blk W br 24 #[.slice (some ⟨q, o, none⟩) (L - o) (c - o)]
  ow : Own W (w.heap.size + 1) (.slice (some ⟨q, 0, none⟩) L c) (mxL (cStr key nonce) used b o)
  gb : w.grownBy W (some g)
theorem slice16_from (w : World) (g d : Nat) (hd : d < 16) : (Instr.sliceAt 22 (.pointer (some ⟨g, 0, none⟩)) (some (.int .i64 (d : Int))) none none).run Tryd.prog w = .ok (.slice (some ⟨g, d, none⟩) (16 - d) (16 - d)) w := by
  rw [run_sliceAt_array_l w 22 ⟨g, 0, none⟩ (by simp [Program.arrayLen, Program.elem, Tryd.underlying22]) .i64 (d : Int) (by omega) (by rw [al16]; omega)]
  rw [al16, el16, size_u8]
  show Result.ok (slicedAt _ _ _ _ _) w = _
  unfold slicedAt
  rw [if_neg (by omega), Addr.add_mid, show (d : Int).toNat = d by omega, show 0 + d * 1 = d by omega]
theorem slice_rest (q o nn cc : Nat) : ∃ AX, ∀ w, (Instr.slice 24 (.slice (some ⟨q, o, none⟩) nn cc) (some (.int .i64 (nn : Int))) none none).run Tryd.prog w = .ok (.slice AX 0 (cc - nn)) w := by
  have e : Tryd.prog.elem 24 = 5 := by simp [Program.elem, Tryd.underlying24]
  refine ⟨match sliced (some ⟨q, o, none⟩) nn nn cc 1 with | .slice a _ _ => a | _ => none, fun w => ?_⟩
  rw [run_slice_l w 24 (some ⟨q, o, none⟩) nn cc (by rw [e]; exact Tryd.underlying24) .i64 (nn : Int) (by omega) (by omega)]
  rw [e, size_u8]
  show Result.ok (sliced _ _ _ _ _) w = _
  unfold sliced
  rw [show (nn : Int).toNat = nn by omega, Nat.sub_self]
/-- What holds behind the last round. -/
structure NEnd (w : World) (key nonce : Nat → UInt8) (used g q L c : Nat) (b : List UInt8) (W : World) : Prop where
  ci : CAt key nonce (used + b.length) g W
  ow : Own W (w.heap.size + 1) (.slice (some ⟨q, 0, none⟩) L c) (sMix (cStr key nonce) used b)
  gb : w.grownBy W (some g)
theorem NEnd.grown {w : World} {key nonce : Nat → UInt8} {used g br q L c : Nat} {b : List UInt8} {A A' : World} {row : Option Nat} (h : NEnd w key nonce used g q L c b A) (k : A.grownBy A' row) (hr : ∀ j, row = some j → br < j) (h1 : g < w.heap.size) (h2 : w.heap.size + 1 ≤ q) (h3 : q < br) : NEnd w key nonce used g q L c b A' :=
  ⟨h.ci.keep (k.block g h.ci.lt (fun e => by have := hr _ e.symm; omega)),
   h.ow.keep (fun j hj => by cases hj; exact k.block q (World.ownsRow.lt h.ow q rfl).2 (fun e => by have := hr _ e.symm; omega)), gb_then h.gb k (.inr fun j hj => by have := hr j hj; omega)⟩
theorem NInv.grown {w : World} {key nonce : Nat → UInt8} {used g br q L c : Nat} {b : List UInt8} {o : Nat} {A A' : World} {row : Option Nat} (h : NInv w key nonce used g br q L c b o A) (k : A.grownBy A' row) (hr : ∀ j, row = some j → br < j) (h1 : g < w.heap.size) (h2 : w.heap.size + 1 ≤ q) (h3 : q < br) : NInv w key nonce used g br q L c b o A' :=
  ⟨h.bc.grown k (fun e => by have := hr _ e.symm; omega), h.ci.keep (k.block g h.ci.lt (fun e => by have := hr _ e.symm; omega)), h.rs.grown k (fun e => by have := hr _ e.symm; omega),
   h.ow.keep (fun j hj => by cases hj; exact k.block q (World.ownsRow.lt h.ow q rfl).2 (fun e => by have := hr _ e.symm; omega)), gb_then h.gb k (.inr fun j hj => by have := hr j hj; omega)⟩
theorem NInv.turns {w : World} {key nonce : Nat → UInt8} {used g br q L c : Nat} {b : List UInt8} {o S : Nat} {A A' : World} (h : NInv w key nonce used g br q L c b o A) (k : Turns S A A') (hS : br < S) (h1 : g < w.heap.size) (h2 : w.heap.size + 1 ≤ q) (h3 : q < br) : NInv w key nonce used g br q L c b o A' := by
  obtain ⟨l, hl, hg, _⟩ := k
  exact h.grown hg (fun j hj => by cases hj; omega) h1 h2 h3
theorem NInv.below {w : World} {key nonce : Nat → UInt8} {used g br q L c : Nat} {b : List UInt8} {o : Nat} {A A' : World} (h : NInv w key nonce used g br q L c b o A) (k : Below A.heap.size A A') (h1 : g < w.heap.size) (h2 : w.heap.size + 1 ≤ q) (h3 : q < br) : NInv w key nonce used g br q L c b o A' :=
  h.grown (gb_of_below k none) (fun j hj => by cases hj) h1 h2 h3
/-- What holds ahead of round k. -/
def NAhead (w : World) (S used g br q n c : Nat) (b : List UInt8) (key nonce : Nat → UInt8) (k : Nat) (A : World) : Prop := ∃ o, S ≤ A.heap.size ∧ o < n ∧ (used + o) / 16 = used / 16 + k ∧ NInv w key nonce used g br q n c b o A
/-- What a round's stores leave. -/
theorem n_stores {w : World} {key nonce : Nat → UInt8} {u r g br q L c S b0 : Nat} {x : Value} {l : List UInt8} {A1 A2 : World} (v : Value) (h1 : g < w.heap.size) (h2 : w.heap.size + 1 ≤ q) (h3 : q < br) (h4 : br < b0) (h5 : b0 + 3 ≤ S) (h6 : S ≤ A1.heap.size)
    (hb : Blk A2 w.heap.size 52 #[.pointer (some ⟨g, 0, none⟩)]) (hc : CAt key nonce u g A2) (hr : Blk A2 br 24 #[x]) (ho : Own A2 (w.heap.size + 1) (.slice (some ⟨q, 0, none⟩) L c) l) (hg : w.grownBy A2 (some g)) (ht : A1.grownBy A2 (some q))
    {A3 : World} (hA : A3 = (A2.setCell ⟨br, 0, none⟩ v).setCell ⟨g, 24, none⟩ (.int .i64 ((u + r : Nat) : Int))) :
    Blk A3 w.heap.size 52 #[.pointer (some ⟨g, 0, none⟩)] ∧ CAt key nonce (u + r) g A3 ∧ Blk A3 br 24 #[v] ∧ Own A3 (w.heap.size + 1) (.slice (some ⟨q, 0, none⟩) L c) l ∧ w.grownBy A3 (some g) ∧ KeepsFrom S A1 A3 ∧ Span b0 (b0 + 3) A1 A3 ∧ S ≤ A3.heap.size := by
  have e1 := gb_setCell (World.grownBy.refl A2 (some br)) (p := ⟨br, 0, none⟩) (.inl rfl) v
  have e2 := gb_setCell (World.grownBy.refl (A2.setCell ⟨br, 0, none⟩ v) (some g)) (p := ⟨g, 24, none⟩) (.inl rfl) (.int .i64 ((u + r : Nat) : Int))
  rw [← hA] at e2
  have hbl := hb.lt
  have hrl := hr.lt
  have hc2 : CAt key nonce u g (A2.setCell ⟨br, 0, none⟩ v) := hc.keep (e1.block g hc.lt (fun e => by injection e; omega))
  have hr2 : Blk (A2.setCell ⟨br, 0, none⟩ v) br 24 #[v] := hr.put 0 v
  have hs2 := e1.size
  have hz := ht.size
  refine ⟨(hb.grown e1 (fun e => by injection e; omega)).grown e2 (fun e => by injection e; omega), ?_, hr2.grown e2 (fun e => by injection e; omega), ?_, ?_, ?_, ?_, ?_⟩
  · rw [hA]
    exact hc2.put (u + r)
  · refine ho.keep fun j hj => ?_
    cases hj
    have hq := (World.ownsRow.lt ho q rfl).2
    exact (e2.block q (by omega) (fun e => by injection e; omega)).trans (e1.block q hq (fun e => by injection e; omega))
  · exact gb_then (gb_then hg e1 (.inr fun j hj => by cases hj; omega)) e2 (.inl rfl)
  · exact ((KeepsFrom.of_grownBy ht (fun j hj => by cases hj; omega)).trans (KeepsFrom.of_grownBy e1 (fun j hj => by cases hj; omega))).trans (KeepsFrom.of_grownBy e2 (fun j hj => by cases hj; omega))
  · exact ((Span.grown (by omega) ht (.inl (by omega))).trans (Span.grown (by omega) e1 (.inl (by omega)))).trans (Span.grown (by omega) e2 (.inl (by omega)))
  · have := e2.size
    omega
/-- The frame of a round. -/
def nFrame (w : World) (g n c q1 c1 br used bx : Nat) (A : Option Addr) (key nonce : Nat → UInt8) (v31 v32 v33 v34 : Value) (x7 : Value) : Array Value :=
  #[.pointer (some ⟨g, 0, none⟩), .slice A n c, .pointer (some ⟨w.heap.size, 0, none⟩), undef, .slice none 0 0, .slice (some ⟨q1, 0, none⟩) n c1, .pointer (some ⟨br, 0, none⟩), x7, undef, .pointer (some ⟨g, 0, none⟩), .bool false, .bool false, .slice A n c, .int .i64 (n : Int), .bool false, .bool false, .slice A n c, .slice (some ⟨q1, 0, none⟩) n c1, .slice (some ⟨q1, 0, none⟩) n c1, .pointer (some ⟨g, 0, none⟩), .pointer (some ⟨g, 0, none⟩), .pointer (some ⟨g, 0, none⟩), .agg (bA 16 key), .pointer (some ⟨g, 0, none⟩), .pointer (some ⟨g, 0, none⟩), .pointer (some ⟨g, 16, none⟩), .agg (bA 8 nonce), .pointer (some ⟨g, 0, none⟩), .pointer (some ⟨g, 0, none⟩), .pointer (some ⟨g, 24, none⟩), .int .i64 (used : Int), v31, v32, v33, v34, undef, undef, undef, undef, undef, undef, undef, undef, undef, undef, undef, undef, undef, undef, undef, undef, undef, undef, undef, undef, undef, undef, undef]
/-- What holds in a round, behind the assignment of its variable. -/
def NRound (w : World) (S used g br q n c1 c : Nat) (b : List UInt8) (A0 : Option Addr) (key nonce : Nat → UInt8) (v31 v32 v33 : Value) (k : Nat) (a' : Act) (A : World) : Prop :=
  ∃ o bx, S ≤ A.heap.size ∧ o < n ∧ (used + o) / 16 = used / 16 + k ∧ NInv w key nonce used g br q n c1 b o A ∧ S ≤ bx ∧ Blk A bx 22 (bA 16 (cEnc key nonce (used / 16 + k))) ∧
    a' = { tmps := nFrame w g n c q c1 br used bx A0 key nonce v31 v32 v33 (.agg (bA 16 (cEnc key nonce (used / 16 + k)))) (.pointer (some ⟨bx, 0, none⟩)), defers := [] }
set_option maxHeartbeats 2000000 in
set_option maxRecDepth 100000 in
theorem cnext_some (w : World) (key nonce : Nat → UInt8) (used g : Nat) (hc : CAt key nonce used g w) (q n c : Nat) (A : Option Addr) (b : List UInt8) (hn : n = b.length) (hm : Mem w q A b) (hl : b.length ≤ 1048576) (hu : used ≤ 1099511627776) (h0 : 0 < b.length) : Calls Tryd.prog 27 #[.pointer (some ⟨g, 0, none⟩), .slice A n c] w fun e w' => ∃ v, e = .returned v ∧ Own w' w.heap.size v (sMix (cStr key nonce) used b) ∧ CAt key nonce (used + b.length) g w' ∧ w.grownBy w' (some g) := by
  have hgl := hc.lt
  have HC := kept hc
  have HM := kept hm
  have HL := kept hn.symm
  have hn0 : 0 < n := by omega
  have hnl : n ≤ 1048576 := by omega
  have hne : b ≠ [] := fun e => by subst e; simp at h0
  have hz : (((n : Nat) : Int) == 0) = false := by
    rw [beq_eq_false_iff_ne]
    omega
  clear hc hm hn hl h0
  refine (callsIn_wide (n := 0)).1 ?_
  refine callsIn_of_wp_marks Tryd.func27 rfl trivial ?_ rfl
  refine wpIn_wide.2 ?_
  simp only [Tryd.ntmps27, List.size_toArray, List.length_cons, List.length_nil, Nat.reduceAdd, Nat.reduceSub, Array.replicate_succ, Array.replicate_zero, List.push_toArray, List.append_toArray, List.nil_append, List.cons_append]
  go_upto_region 3 with (fail)
  go_name_world W0 hW0
  have HZ0 := kept (show W0.heap.size = w.heap.size + 1 by rw [← hW0]; simp)
  have HB0 := kept (show Blk W0 w.heap.size 52 #[.pointer (some ⟨g, 0, none⟩)] by rw [← hW0]; exact Blk.new w _ _)
  have HC0 := kept (show CAt key nonce used g W0 by rw [← hW0]; exact HC.out.keep (Below.heap_alloc w _ g hgl))
  have HM0 := kept (show Mem W0 q A b by rw [← hW0]; exact HM.out.alloc _)
  have HG0 := kept (show w.grownBy W0 (some g) by rw [← hW0]; exact gb_alloc (World.grownBy.refl w _) _)
  clear hW0 HC HM
  go_wp2_with fail
  refine (clone_any W0 q A n c b HL.out.symm HM0.out (by have := HL.out; omega)).mono ?_
  rintro e W1 ⟨v1, rfl, hown1, k1⟩
  obtain ⟨A1, q1, c1, hv1, hc1, hcm1, _, hf1, _⟩ := hown1.form
  obtain ⟨hq1, hA1, _⟩ := hf1 hne
  subst hA1
  rw [HL.out] at hv1 hc1
  subst hv1
  have HO1 := kept hown1
  have HB1 := kept (HB0.out.below k1 HB0.out.lt)
  have HC1 := kept (HC0.out.keep (k1.block g HC0.out.lt))
  have HG1 := kept (gb_then HG0.out (gb_of_below k1 (some g)) (.inl rfl))
  have hz1 : W0.heap.size ≤ W1.heap.size := k1.size
  have hq1w : q1 < W1.heap.size := by
    have := World.ownsRow.lt hown1 q1 rfl
    omega
  clear hown1 k1 HB0 HC0 HG0 HM0 hf1 hcm1
  go_upto_region 5 with (fail)
  go_name_world W2 hW2
  have HB2 := kept (show Blk W2 w.heap.size 52 #[.pointer (some ⟨g, 0, none⟩)] by rw [← hW2]; exact HB1.out.alloc _)
  have HR2 := kept (show Blk W2 W1.heap.size 24 #[.slice (some ⟨q1, 0, none⟩) n c1] by rw [← hW2]; exact Blk.new W1 _ _)
  have HC2 := kept (show CAt key nonce used g W2 by rw [← hW2]; exact HC1.out.keep (Below.heap_alloc W1 _ g HC1.out.lt))
  have HO2 := kept (show Own W2 (w.heap.size + 1) (.slice (some ⟨q1, 0, none⟩) n c1) b by rw [← hW2, ← HZ0.out]; exact HO1.out.alloc _)
  have HG2 := kept (show w.grownBy W2 (some g) by rw [← hW2]; exact gb_alloc HG1.out _)
  have hbr : q1 < W1.heap.size := hq1w
  have hqw : w.heap.size + 1 ≤ q1 := by rw [← HZ0.out]; exact hq1
  clear hW2 HO1 HB1 HC1 HG1 hq1 hq1w HZ0 hz1
  generalize W1.heap.size = br at hbr HR2 ⊢
  have D1 := kept (show W2.drew.cell? ⟨w.heap.size, 0, none⟩ = some (.pointer (some ⟨g, 0, none⟩)) from HB2.out.cell 0)
  have D2 := kept (show W2.drew.rangeAt g 0 (bA 16 key).toList from HC2.out.key)
  have D3 := kept (show W2.drew.rangeAt g 16 (bA 8 nonce).toList from HC2.out.nonce)
  have D4 := kept (show W2.drew.cell? ⟨g, 24, none⟩ = some (.int .i64 (used : Int)) from HC2.out.used)
  have hq16 : (used : Int).tdiv 16 = ((used / 16 : Nat) : Int) := by
    rw [Int.tdiv_eq_ediv_of_nonneg (by omega)]
    omega
  have hw16 : IntKind.u64.wrap ((used / 16 : Nat) : Int) = ((used / 16 : Nat) : Int) := by
    rw [IntKind.wrap_u64]
    omega
  obtain ⟨CC, hCd⟩ : ∃ CC : World → Prop, CC = fun w' => w' = W2.drew := ⟨_, rfl⟩
  have E0 := kept (show ∀ w', CC w' → w' = W2.drew from fun w' h => by rw [hCd] at h; exact h)
  have E1 := kept (show ∀ w', CC w' → w'.cell? ⟨w.heap.size, 0, none⟩ = some (.pointer (some ⟨g, 0, none⟩)) from fun w' h => by rw [E0.out w' h]; exact D1.out)
  have E2 := kept (show ∀ w', CC w' → w'.rangeAt g 0 (bA 16 key).toList from fun w' h => by rw [E0.out w' h]; exact D2.out)
  have E3 := kept (show ∀ w', CC w' → w'.rangeAt g 16 (bA 8 nonce).toList from fun w' h => by rw [E0.out w' h]; exact D3.out)
  have E4 := kept (show ∀ w', CC w' → w'.cell? ⟨g, 24, none⟩ = some (.int .i64 (used : Int)) from fun w' h => by rw [E0.out w' h]; exact D4.out)
  have hC0 : CC W2.drew := by rw [hCd]
  clear hCd D1 D2 D3 D4
  refine wp_region_tail CC 14 (by kernel_rfl) (by kernel_rfl) hC0 ?_
  simp only [List.take_succ_cons, List.take_zero, List.drop_succ_cons, List.drop_zero]
  refine quiet_cell (by rfl) 52 (.tmp 2) rfl w.heap.size 0 rfl (.pointer (some ⟨g, 0, none⟩)) _ E1.out Tryd.underlying52 rfl ?_
  quiet_step (exact fun _ => rfl)
  quiet_step (exact fun _ => rfl)
  refine quiet_load (by rfl) 22 (.tmp 21) rfl g 0 (by rfl) (bA 16 key).toList _ E2.out Tryd.underlying22 rfl (s16_len _) ?_
  refine quiet_cell (by rfl) 52 (.tmp 2) rfl w.heap.size 0 rfl (.pointer (some ⟨g, 0, none⟩)) _ E1.out Tryd.underlying52 rfl ?_
  quiet_step (exact fun _ => rfl)
  quiet_step (exact fun _ => rfl)
  refine quiet_load (by rfl) 23 (.tmp 25) rfl g 16 (by rfl) (bA 8 nonce).toList _ E3.out Tryd.underlying23 rfl (by rw [b8_size, Array.length_toList, bA_size]) ?_
  refine quiet_cell (by rfl) 52 (.tmp 2) rfl w.heap.size 0 rfl (.pointer (some ⟨g, 0, none⟩)) _ E1.out Tryd.underlying52 rfl ?_
  quiet_step (exact fun _ => rfl)
  quiet_step (exact fun _ => rfl)
  refine quiet_cell (by rfl) 3 (.tmp 29) rfl g 24 rfl (.int .i64 (used : Int)) _ E4.out Tryd.underlying3 rfl ?_
  quiet_step (exact fun _ => rfl)
  quiet_step (exact fun _ => rfl)
  refine wpQuiet_nil ?_
  intro W3 hC3
  rw [E0.out _ hC3]
  clear hC3 hC0 E0 E1 E2 E3 E4
  go_wp2_with fail
  rw [show ((used : Int) / 16) = ((used / 16 : Nat) : Int) by omega]
  refine (cblocks_any W2.drew key nonce (used / 16)).mono ?_
  rintro e W4 ⟨rfl, hcap, hz4, k4⟩
  rw [show W2.drew.heap.size = W2.heap.size from rfl] at hcap hz4 k4 ⊢
  have HCAP := kept hcap
  have hbr2 : br < W2.heap.size := HR2.out.lt
  have HI := kept (show NInv w key nonce used g br q1 n c1 b 0 W4 from
    ⟨(HB2.out.drew_).below k4 HB2.out.lt, by rw [Nat.add_zero]; exact (show CAt key nonce used g W2.drew from HC2.out).keep (k4.block g HC2.out.lt), (HR2.out.drew_).below k4 HR2.out.lt,
     by rw [mxL_zero]; exact (HO2.out.drew).below k4, gb_then (gb_drew HG2.out) (gb_of_below k4 (some g)) (.inl rfl)⟩)
  clear hcap k4 HB2 HC2 HR2 HO2 HG2 hq16 hw16
  generalize W2.heap.size = b0 at HCAP hz4 hbr2 ⊢
  generalize Value.int .i64 (IntKind.i64.wrap ((used / 16 : Nat) : Int)) = v31
  generalize Value.int .u64 (IntKind.u64.wrap (IntKind.i64.wrap ((used / 16 : Nat) : Int))) = v32
  go_wp2_with fail
  have HZ4 := kept hz4
  clear hz4
  refine (wpIn_wide (n := 0)).1 ?_
  refine range_endless (gf := 48) (lb := #[.pointer (some ⟨b0 + 2, 0, none⟩), .pointer (some ⟨b0, 0, none⟩), .pointer (some ⟨b0 + 1, 0, none⟩)]) (M := n) (b := b0) (d := b0 + 3) rfl (enters_of Tryd.func48 (by kernel_rfl) rfl) (by rw [HZ4.out]; omega) (cblocks_iter W4 b0 key nonce (used / 16) n (by omega) HCAP.out) rfl
    (NAhead w W4.heap.size used g br q1 n c1 b key nonce) (fun A => NEnd w key nonce used g q1 n c1 b A) (NRound w W4.heap.size used g br q1 n c1 c b A key nonce v31 v32 (.func (.func 48) #[] #[.pointer (some ⟨b0 + 2, 0, none⟩), .pointer (some ⟨b0, 0, none⟩), .pointer (some ⟨b0 + 1, 0, none⟩)])) (.exit 0)
    ?_ ?_ ?_ ?_ ?_ ?_ ?_ ?assign ?body ?stop
  · rintro k A A' ⟨o, hs, h1, h2, h3⟩ hk
    exact ⟨o, Nat.le_trans hs hk.size, h1, h2, h3.below hk hgl hqw hbr⟩
  · rintro k A A' ⟨o, hs, h1, h2, h3⟩ hk
    refine ⟨o, ?_, h1, h2, h3.turns hk (by rw [HZ4.out]; omega) hgl hqw hbr⟩
    obtain ⟨l, hl, hg, _⟩ := hk
    exact Nat.le_trans hs hg.size
  · exact fun A A' h hk => h.grown (br := br) (gb_of_below hk none) (fun j e => by cases e) hgl hqw hbr
  · rintro A A' h ⟨l, hl, hg, _⟩
    exact h.grown (br := br) hg (fun j e => by cases e; rw [HZ4.out] at hl; omega) hgl hqw hbr
  · rintro k a' A A' ⟨o, bx, hs, h1, h2, h3, h4, h5, h6⟩ hk
    refine ⟨o, bx, by obtain ⟨l, hl, hg, _⟩ := hk; exact Nat.le_trans hs hg.size, h1, h2, h3.turns hk (by rw [HZ4.out]; omega) hgl hqw hbr, h4, ?_, h6⟩
    obtain ⟨l, hl, hg, oo, ho, hn⟩ := hk
    exact h5.grown hg (fun e => by injection e with e; rw [← e, show A.heap[bx]? = _ from h5] at ho; cases ho; cases hn)
  · exact ⟨0, Nat.le_refl _, hn0, rfl, HI.out⟩
  · rintro k A ⟨o, hs, h1, h2, h3⟩
    omega
  case assign =>
    rintro l k A1 K ⟨o, hs, h1, h2, h3⟩ hK
    refine regionAt (fun ⟨_, _, h⟩ => h) rfl ?_
    go_wp2_with (refine wpList_store_row rfl 22 (.tmp 7) (.tmp 34) rfl A1.heap.size (bA 16 (cEnc key nonce (used / 16 + k))) rfl rfl 22 (bA 16 (fun _ => 0)) (Blk.new A1 _ _) (by rw [b16_size, bA_size]) (by rw [bA_size, bA_size]) (bA_one _ _) ?_)
    have hbw : ∀ o' : Obj, Below A1.heap.size A1 ((A1.alloc o').setRow A1.heap.size (bA 16 (cEnc key nonce (used / 16 + k)))) := fun o' => below_setRow ((Below.refl _ A1).alloc (Nat.le_refl _) _) (Nat.le_refl _) _
    exact hK _ _ (KeepsFrom.of_grownBy (gb_of_below (hbw _) none) (fun j e => by cases e)) (Span.below (by rw [HZ4.out] at hs; exact hs) (hbw _)) ⟨o, A1.heap.size, Nat.le_trans hs (hbw _).size, h1, h2, h3.below (hbw _) hgl hqw hbr, hs, setRow_heap _ _ _ _ _ _ (Blk.new A1 _ _), rfl⟩
  case body =>
    rintro l k a' A1 hl hlA ⟨o, bx, hs, h1, h2, h3, h4, h5, rfl⟩
    obtain ⟨S, hS⟩ : ∃ S, W4.heap.size = S := ⟨_, rfl⟩
    rw [hS] at hs h4 ⊢
    have HS := kept (show b0 + 3 ≤ S by rw [← hS, HZ4.out]; exact Nat.le_refl _)
    clear hS hl hlA HZ4
    obtain ⟨d, hd⟩ : ∃ d, (used + o) % 16 = d := ⟨_, rfl⟩
    have hd16 : d < 16 := by omega
    obtain ⟨r, hr⟩ : ∃ r, r = min (n - o) (16 - d) := ⟨_, rfl⟩
    have hrn : r ≤ n - o := by omega
    have HE := kept (show ∀ j, j < 16 - d → cEnc key nonce (used / 16 + k) (d + j) = cStr key nonce (used + (o + j)) from fun j hj => by
      unfold cStr
      rw [show (used + (o + j)) / 16 = used / 16 + k by omega, show (used + (o + j)) % 16 = d + j by omega])
    obtain ⟨E, hE⟩ : ∃ E, cEnc key nonce (used / 16 + k) = E := ⟨_, rfl⟩
    rw [hE] at HE h5 ⊢
    have H3 := kept h3
    have H5 := kept h5
    have HR := kept hr
    have HD := kept hd
    have HK := kept h2
    obtain ⟨u, hu2⟩ : ∃ u, used + o = u := ⟨_, rfl⟩
    have hub : u ≤ 1099512676352 := by omega
    have hr16 : (u : Int).tmod 16 = (d : Int) := by
      rw [Int.tmod_eq_emod_of_nonneg (by omega)]
      omega
    have cU := h3.ci.used
    rw [hu2] at cU
    have k1 := h3.bc.cell 0
    have k2 := h3.rs.cell 0
    have HU := kept hu2
    clear h3 h5 hr hd h2 hE hu2
    unfold nFrame
    refine wpIn_block ?_
    apply wpIn_seq_k
    intro K hK
    refine drawnAt (by kernel_rfl) (fun ⟨_, _, h⟩ => h) rfl ?_
    obtain ⟨CC, hCd⟩ : ∃ CC : World → Prop, CC = fun w' => w' = A1.drew := ⟨_, rfl⟩
    have E0 := kept (show ∀ w', CC w' → w' = A1.drew from fun w' h => by rw [hCd] at h; exact h)
    have E1 := kept (show ∀ w', CC w' → w'.cell? ⟨w.heap.size, 0, none⟩ = some (.pointer (some ⟨g, 0, none⟩)) from fun w' h => by rw [E0.out w' h]; exact k1)
    have E2 := kept (show ∀ w', CC w' → w'.cell? ⟨br, 0, none⟩ = some (.slice (some ⟨q1, o, none⟩) (n - o) (c1 - o)) from fun w' h => by rw [E0.out w' h]; exact k2)
    have E4 := kept (show ∀ w', CC w' → w'.cell? ⟨g, 24, none⟩ = some (.int .i64 (u : Int)) from fun w' h => by rw [E0.out w' h]; exact cU)
    have hC0 : CC A1.drew := by rw [hCd]
    have hsl := fun w' => slice16_from w' bx d hd16
    clear hCd
    refine any_tail CC 7 (by kernel_rfl) hC0 ?_
    simp only [List.take_succ_cons, List.take_zero, List.drop_succ_cons, List.drop_zero]
    refine quiet_cell (by rfl) 24 (.tmp 6) rfl br 0 rfl (.slice (some ⟨q1, o, none⟩) (n - o) (c1 - o)) _ E2.out Tryd.underlying24 rfl ?_
    refine quiet_cell (by rfl) 52 (.tmp 2) rfl w.heap.size 0 rfl (.pointer (some ⟨g, 0, none⟩)) _ E1.out Tryd.underlying52 rfl ?_
    quiet_step (exact fun _ => rfl)
    quiet_step (exact fun _ => rfl)
    refine quiet_cell (by rfl) 3 (.tmp 38) rfl g 24 rfl (.int .i64 (u : Int)) _ E4.out Tryd.underlying3 rfl ?_
    quiet_step (exact fun _ => rfl)
    quiet_step (exact fun _ => rfl)
    refine wpQuiet_nil ?_
    intro W6 hC6
    rw [E0.out _ hC6]
    clear hC6 hC0 E0 E1 E2 E4 hsl hr16 cU k1 k2
    have hqbx : q1 ≠ bx := by have := HS.out; omega
    go_wp2_with fail
    refine (ccomb_any A1.drew (w.heap.size + 1) q1 bx o d (n - o) (16 - d) (c1 - o) (16 - d) n c1 r used 22 (cStr key nonce) E b HR.out (by have := HL.out; omega) (by omega) (by have := HL.out; omega) H3.out.ow.drew H5.out.drew_ hqbx HE.out).mono ?_
    rintro e A2 ⟨rfl, ho2, kg2⟩
    have HB2 := kept (show Blk A2 w.heap.size 52 #[.pointer (some ⟨g, 0, none⟩)] from H3.out.bc.drew_.grown kg2 (fun e => by injection e; omega))
    have HC2 := kept (show CAt key nonce u g A2 by rw [← HU.out]; exact (show CAt key nonce (used + o) g A1.drew from H3.out.ci).keep (kg2.block g H3.out.ci.lt (fun e => by injection e; omega)))
    have HR2 := kept (show Blk A2 br 24 #[.slice (some ⟨q1, o, none⟩) (n - o) (c1 - o)] from H3.out.rs.drew_.grown kg2 (fun e => by injection e; omega))
    have HG2 := kept (gb_then (gb_drew H3.out.gb) kg2 (.inr fun j hj => by cases hj; omega))
    have HO2 := kept ho2
    have HT2 := kept (show A1.grownBy A2 (some q1) from ⟨kg2.os, kg2.tape, kg2.output, kg2.size, kg2.block⟩)
    clear ho2 kg2 H3 H5 HE
    have k0 : A2.cell? ⟨w.heap.size, 0, none⟩ = some (.pointer (some ⟨g, 0, none⟩)) := HB2.out.cell 0
    have k2 : A2.cell? ⟨br, 0, none⟩ = some (.slice (some ⟨q1, o, none⟩) (n - o) (c1 - o)) := HR2.out.cell 0
    have f2 := HR2.out.frozen 0
    have k3 := HC2.out.used
    have f3 : A2.frozen? ⟨g, 24, none⟩ = false := Blk.frozen HC2.out 24
    have hrn2 : (r : Int) ≤ ((n - o : Nat) : Int) := by omega
    have hur : (u : Int) + (r : Int) < 9223372036854775807 := by omega
    have hne1 : w.heap.size ≠ br := by omega
    have hne2 : g ≠ br := by omega
    go_wp2_with fail
    obtain ⟨nn, hnn⟩ : ∃ nn, nn = n - o := ⟨_, rfl⟩
    obtain ⟨cc, hcc⟩ : ∃ cc, cc = c1 - o := ⟨_, rfl⟩
    have hcc2 : nn ≤ cc := by omega
    rw [← hnn] at HR HR2 k2 hrn hrn2 ⊢
    rw [← hcc] at HR2 k2 ⊢
    have HNN := kept hnn
    have HCC := kept hcc
    clear hnn hcc
    by_cases hfin : nn = r
    · subst hfin
      clear hrn hrn2 hcc2
      obtain ⟨AX, hsx⟩ := slice_rest q1 o nn cc
      apply wpIn_seq_k
      intro K hK
      refine regionAt (fun ⟨_, _, h⟩ => h) rfl ?_
      go_wp2_with fail
      clear hsx
      apply wpIn_seq_k
      intro K hK
      refine regionAt (fun ⟨_, _, h⟩ => h) rfl ?_
      go_wp2_with fail
      apply wpIn_seq_k
      intro K hK
      refine regionAt (fun ⟨_, _, h⟩ => h) rfl ?_
      go_wp2_with fail
      obtain ⟨A3, hA3⟩ : ∃ A3, A3 = (A2.setCell ⟨br, 0, none⟩ (.slice AX 0 (cc - nn))).setCell ⟨g, 24, none⟩ (.int .i64 ((u + nn : Nat) : Int)) := ⟨_, rfl⟩
      rw [show (u : Int) + (nn : Int) = ((u + nn : Nat) : Int) by omega, ← hA3]
      obtain ⟨_, s2, _, s4, s5, s6, _, _⟩ := n_stores (.slice AX 0 (cc - nn)) hgl hqw hbr hbr2 HS.out hs HB2.out HC2.out HR2.out HO2.out HG2.out HT2.out hA3
      have e1 : u + nn = used + b.length := by have := HU.out; have := HNN.out; have := HL.out; omega
      rw [e1] at s2
      rw [mxL_all _ _ _ _ (by have := HNN.out; have := HL.out; omega)] at s4
      refine wpIn_cond_true rfl (wpIn_exit ?_)
      exact ⟨rfl, s6, ⟨s2, s4, s5⟩⟩
    · have hlt : r < nn := by omega
      have HR16 := kept (show r = 16 - d by have := HR.out; omega)
      have hcr : r < cc := by omega
      have hz2 : (((nn - r : Nat) : Int) == 0) = false := by
        rw [beq_eq_false_iff_ne]
        omega
      apply wpIn_seq_k
      intro K hK
      refine regionAt (fun ⟨_, _, h⟩ => h) rfl ?_
      go_wp2_with fail
      apply wpIn_seq_k
      intro K hK
      refine regionAt (fun ⟨_, _, h⟩ => h) rfl ?_
      go_wp2_with fail
      apply wpIn_seq_k
      intro K hK
      refine regionAt (fun ⟨_, _, h⟩ => h) rfl ?_
      go_wp2_with fail
      obtain ⟨A3, hA3⟩ : ∃ A3, A3 = (A2.setCell ⟨br, 0, none⟩ (.slice (some ⟨q1, o + r, none⟩) (nn - r) (cc - r))).setCell ⟨g, 24, none⟩ (.int .i64 ((u + r : Nat) : Int)) := ⟨_, rfl⟩
      rw [show (u : Int) + (r : Int) = ((u + r : Nat) : Int) by omega, ← hA3]
      obtain ⟨s1, s2, s3, s4, s5, s6, s7, s8⟩ := n_stores (.slice (some ⟨q1, o + r, none⟩) (nn - r) (cc - r)) hgl hqw hbr hbr2 HS.out hs HB2.out HC2.out HR2.out HO2.out HG2.out HT2.out hA3
      have hU := HU.out
      have hNN := HNN.out
      have hCC := HCC.out
      have h16 := HR16.out
      have hD := HD.out
      have hKK := HK.out
      have e1 : u + r = used + (o + r) := by omega
      rw [e1] at s2
      rw [show nn - r = n - (o + r) by omega, show cc - r = c1 - (o + r) by omega] at s3
      refine wpIn_cond_false rfl (wpIn_skip ?_)
      exact ⟨s6, s7, o + r, s8, by omega, by omega, ⟨s1, s2, s3, s4, s5⟩⟩
  case stop =>
    rintro D A1 hD hX hK
    refine wpIn_exit ?_
    dsimp only
    go_wp2_with fail
    have hX2 := hX.grown (br := br) (grownBy_putObj' A1 D (.deferred none)) (fun j e => by cases e; rw [HZ4.out] at hD; omega) hgl hqw hbr
    refine ⟨by simp, .inl ⟨_, _, rfl, run_takeDeferred hK, ?_⟩⟩
    exact ⟨_, results_tmp rfl _ _ _, _, rfl, hX2.ow.mono (by omega), hX2.ci, hX2.gb⟩
/-- Next, on whatever bytes. -/
theorem cnext_w (w : World) (key nonce : Nat → UInt8) (used g : Nat) (hc : CAt key nonce used g w) (q n c : Nat) (A : Option Addr) (b : List UInt8) (hn : n = b.length) (hm : Mem w q A b) (hl : b.length ≤ 1048576) (hu : used ≤ 1099511627776) : Calls Tryd.prog 27 #[.pointer (some ⟨g, 0, none⟩), .slice A n c] w fun e w' => ∃ v, e = .returned v ∧ Own w' w.heap.size v (sMix (cStr key nonce) used b) ∧ CAt key nonce (used + b.length) g w' ∧ w.grownBy w' (some g) := by
  by_cases h0 : b.length = 0
  · obtain rfl : n = 0 := by omega
    obtain rfl : b = [] := List.length_eq_zero_iff.1 h0
    refine (cnext_none w key nonce used g c A hc).mono ?_
    rintro e w' ⟨v, he, ho, hb⟩
    exact ⟨v, he, ho, hc.keep (hb.block g hc.lt), gb_of_below hb _⟩
  · exact cnext_some w key nonce used g hc q n c A b hn hm hl hu (by omega)
end Go.Proofs.YtcjbplgjjhenkaaDoor
namespace Go.Proofs.YtcjbplgjjhenkaaDoor
open Go.RowKit
set_option linter.unusedVariables false
set_option linter.unusedSimpArgs false

theorem cnext_any (w : World) (key nonce : Nat → UInt8) (used g : Nat) (hc : CAt key nonce used g w) (q n c : Nat) (A : Option Addr) (b : List UInt8) (hn : n = b.length) (hm : Mem w q A b) (hl : b.length ≤ 1048576) (hu : used + b.length ≤ 1048576) : Calls Tryd.prog 27 #[.pointer (some ⟨g, 0, none⟩), .slice A n c] w fun e w' => ∃ v, e = .returned v ∧ Own w' w.heap.size v (sMix (cStr key nonce) used b) ∧ CAt key nonce (used + b.length) g w' ∧ w.grownBy w' (some g) := cnext_w w key nonce used g hc q n c A b hn hm hl (by omega)
set_option maxHeartbeats 1000000 in
theorem ccrypt_any (w : World) (key nonce : Nat → UInt8) (q n c : Nat) (A : Option Addr) (b : List UInt8) (hn : n = b.length) (hm : Mem w q A b) (hl : b.length ≤ 1048576) : Calls Tryd.prog 17 #[.agg (bA 16 key), .agg (bA 8 nonce), .slice A n c] w fun e w' => ∃ v, e = .returned v ∧ Own w' w.heap.size v (sMix (cStr key nonce) 0 b) ∧ Below w.heap.size w w' := by
  have HN := kept hn
  clear hn
  go_enter Tryd.func17, Tryd.ntmps17
  go_upto_region 1 with (fail)
  go_name_world W0 hW0
  have HK := kept (show Blk W0 w.heap.size 22 (bA 16 key) by rw [← hW0]; exact (Blk.new w _ _).alloc _)
  have HN1 := kept (show Blk W0 (w.heap.size + 1) 23 (bA 8 nonce) by
    rw [← hW0]
    have n1 := Blk.new (w.alloc (.cells (bA 16 key) 22)) 23 (bA 8 nonce)
    simpa only [World.size_alloc] using n1)
  have HW := kept (show Below w.heap.size w W0 by rw [← hW0]; exact ((Below.refl _ w).alloc (Nat.le_refl _) _).alloc (by simp) _)
  clear hW0
  have HM := kept (hm.below0 HW.out)
  clear hm
  go_wp2_with (first | (refine wpList_load_row rfl 22 (.tmp 3) rfl w.heap.size rfl 22 (bA 16 key) (0, 0) _ HK.out Tryd.underlying22 rfl (by rw [b16_size, bA_size]) ?_) | (refine wpList_load_row rfl 23 (.tmp 4) rfl (w.heap.size + 1) rfl 23 (bA 8 nonce) (0, 0) _ HN1.out Tryd.underlying23 rfl (by rw [b8_size, bA_size]) ?_))
  refine (cnew_any W0 key nonce).mono ?_
  rintro e W1 ⟨g, rfl, hg, hc, k1⟩
  have HC := kept hc
  have HM1 := kept (HM.out.below0 k1)
  have HW1 := kept (below_next HW.out k1)
  have HG := kept (Nat.le_trans HW.out.size hg)
  clear hc k1 HM HK HN1 HW hg
  go_wp2_with fail
  refine (cnext_w W1 key nonce 0 g HC.out q n c A b HN.out HM1.out hl (by omega)).mono ?_
  rintro e W2 ⟨v, rfl, ho, _, hg2⟩
  have HO := kept ho
  have HW2 := kept (HW1.out.grown hg2 HW1.out.size (fun j hj => by cases hj; exact HG.out))
  clear ho hg2
  go_wp2_with fail
  go_ret
  exact ⟨v, rfl, HO.out.mono HW1.out.size, HW2.out⟩
end Go.Proofs.YtcjbplgjjhenkaaDoor
