/-
  Contracts of the functions of package tollref01: Number, String, PutNumber, PutString, Join.
-/
import Derived.Test.YtnejidaplbonoaaRefs
namespace Go.Proofs.Ytnejidaplbonoaa
open Go.RowKit
set_option linter.unusedVariables false

theorem mul_add (x b : Nat) (hx : x < 72057594037927936) (hb : b < 256) :
    IntKind.u64.wrap (IntKind.u64.wrap ((x : Int) * 256) + IntKind.u64.wrap (b : Int)) = ((x * 256 + b : Nat) : Int) := by
  rw [IntKind.wrap_u64, IntKind.wrap_u64, IntKind.wrap_u64]
  omega

theorem Mem.store {w : World} {q : Nat} {A : Option Addr} {l : List UInt8} (h : Mem w q A l) {p : Addr} (hp : l ≠ [] → q ≠ p.block) (u : Value) : Mem (w.setCell p u) q A l := by
  by_cases hne : l = []
  · exact .inl hne
  · exact h.setCell (hp hne) u
theorem box_two {w w1 : World} {T : TypeId} {a b : Array Value} (hb : Below ((w.alloc (.cells a T)).alloc (.cells b T)).heap.size ((w.alloc (.cells a T)).alloc (.cells b T)) w1) :
    Blk w1 (w.heap.size + 1) T b ∧ w.heap.size + 1 + 1 ≤ w1.heap.size ∧ Below w.heap.size w w1 := by
  have hb0 := Blk.new (w.alloc (.cells a T)) T b
  simp only [World.size_alloc] at hb0
  have hz := hb.size
  simp only [World.size_alloc] at hz
  refine ⟨hb0.below hb (by simp), hz, ?_⟩
  exact (((Below.refl w.heap.size w).alloc (Nat.le_refl _) (.cells a T)).alloc (by simp) (.cells b T)).trans (hb.mono (by simp; omega))
set_option maxRecDepth 100000 in
theorem renum_ok (w : World) (k : Int) (q : Nat) (A : Option Addr) (n c : Nat) (bad : Bool) (l : List UInt8) (hn : n = l.length) (hc : l.length ≤ c) (hl : l.length ≤ 140737488355328) (hm : Mem w q A l) (h1 : 1 ≤ k) (h2 : k ≤ 8) : Calls Try.prog 41 #[.agg #[.slice A n c, .bool bad], .int .i64 k] w fun e w' => ∃ A' c', e = .returned (.tuple #[.agg #[.slice A' (rTake (bad, l) k).1.2.length c', .bool (rTake (bad, l) k).1.1], .int .u64 (beNum (rTake (bad, l) k).2)]) ∧ Mem w' q A' (rTake (bad, l) k).1.2 ∧ (rTake (bad, l) k).1.2.length ≤ c' ∧ Below w.heap.size w w' := by
  have hlen := rTake_out_le (bad, l) k (by omega)
  have hstl := rTake_len (bad, l) k
  have hn2 : ∀ W, Below w.heap.size w W → _ := fun W hb => retake_any W k q A n c bad l hn hc hl (hm.below0 hb)
  generalize (rTake (bad, l) k).2 = out at *
  generalize (rTake (bad, l) k).1 = st at *
  have HN := Lib.hid hn2
  clear hn2
  have hq : st.2 ≠ [] → q < w.heap.size := fun hne => hm.lt (fun h => hne (List.length_eq_zero_iff.1 (by rw [h] at hstl; simpa using hstl)))
  have HQ := Lib.hid hq
  clear hq hstl
  subst hn
  have hd1 : decide (k < 1) = false := by simp; omega
  have hd2 : decide (8 < k) = false := by simp; omega
  go_enter Try.func41, Try.ntmps41
  go_wp2_with (first | (go_at_call 53; refine (HN.out _ (by exact ((Below.refl _ _).alloc (Nat.le_refl _) _).alloc (by simp) _)).mono ?_; rintro e w1 ⟨A', c', v, rfl, hm1, hc1, hown, hb1⟩; obtain ⟨A2, q2, c2, rfl, hc2, hcm2, hm2, _⟩ := hown.form; obtain ⟨bk, hz, hbw⟩ := box_two hb1))
  go_loop [8, 9] (fun x i => ∃ j : Nat, j ≤ out.length ∧ i = .int .i64 j ∧ x = .int .u64 (beNum (out.take j))) (fun _ i => out.length - (intOf i).toNat)
  case atStart => exact ⟨0, Nat.zero_le _, rfl, by simp [beNum]⟩
  case round =>
    obtain ⟨j, hj, rfl, rfl⟩ := hrel
    by_cases hlt : j < out.length
    · have hm3 := hm2.alloc (.cells #[.slice A' st.2.length c', .bool st.1] 41)
      obtain ⟨o, rfl, hcell⟩ := hm3.at_ hlt
      have hs := mul_add (beNum (out.take j)) (out[j]'hlt).toNat (beNum_u56 _ (by rw [List.length_take]; omega)) (byte_lt _)
      rw [← beNum_snoc, ← take_snoc out j hlt] at hs
      have HS := Lib.hid hs
      clear hs hm3
      go_wp2
      go_round
      case rel => exact ⟨j + 1, by omega, by go_num, by rw [← HS.out]⟩
      case measure => simp [intOf]; omega
    · have bk2 := bk.alloc (.cells #[.slice A' st.2.length c', .bool st.1] 41)
      have hbw2 := hbw.alloc (by omega) (.cells #[.slice A' st.2.length c', .bool st.1] 41)
      have hm3 := hm1.alloc (.cells #[.slice A' st.2.length c', .bool st.1] 41)
      have bq := Blk.new w1 41 #[.slice A' st.2.length c', .bool st.1]
      generalize w1.alloc (.cells #[.slice A' st.2.length c', .bool st.1] 41) = w2 at *
      have x0 := bk2.cell 0
      have x1 := bk2.cell 1
      have y0 := bk2.frozen 0
      have y1 := bk2.frozen 1
      have z0 := bq.cell 0
      have z1 := bq.cell 1
      simp at x0 x1 z0 z1
      have e : out.take j = out := List.take_of_length_le (by omega)
      rw [e]
      clear e
      go_wp2
      have hfin : Below w.heap.size w ((w2.setCell ⟨w.heap.size + 1, 0, none⟩ (.slice A' st.2.length c')).setCell ⟨w.heap.size + 1, 1, none⟩ (.bool st.1)) := (hbw2.setCell (p := ⟨w.heap.size + 1, 0, none⟩) (by simp) _).setCell (p := ⟨w.heap.size + 1, 1, none⟩) (by simp) _
      refine bodyPost_ret (v := .tuple #[.agg #[.slice A' st.2.length c', .bool st.1], .int .u64 (beNum out)]) (by simp [results, Try.results41, go_sem, x0, x1]) rfl ?_
      exact ⟨A', c', rfl, (hm3.store (p := ⟨w.heap.size + 1, 0, none⟩) (fun h => by have := HQ.out h; simp; omega) _).store (p := ⟨w.heap.size + 1, 1, none⟩) (fun h => by have := HQ.out h; simp; omega) _, hc1, hfin⟩
theorem renum_no (w : World) (k : Int) (A : Option Addr) (n c : Nat) (bad : Bool) (h : k < 1 ∨ 8 < k) : Calls Try.prog 41 #[.agg #[.slice A n c, .bool bad], .int .i64 k] w fun e w' => e = .returned (.tuple #[.agg #[.slice none 0 0, .bool true], .int .u64 0]) ∧ Below w.heap.size w w' := by
  rcases h with h | h
  · go_enter Try.func41, Try.ntmps41
    go_wp2_with (first | (go_at_call 52; refine (refail_any _).mono ?_; rintro e w1 ⟨rfl, rfl⟩))
    refine bodyPost_ret (v := .tuple #[.agg #[.slice none 0 0, .bool true], .int .u64 0]) (by simp [results, Try.results41, go_sem]) rfl ⟨rfl, ?_⟩
    exact (((Below.refl _ _).alloc (Nat.le_refl _) _).alloc (by simp) _).alloc (by rw [World.size_alloc, World.size_alloc]; omega) _
  · have hk : decide (k < 1) = false := by simp; omega
    go_enter Try.func41, Try.ntmps41
    go_wp2_with (first | (go_at_call 52; refine (refail_any _).mono ?_; rintro e w1 ⟨rfl, rfl⟩))
    refine bodyPost_ret (v := .tuple #[.agg #[.slice none 0 0, .bool true], .int .u64 0]) (by simp [results, Try.results41, go_sem]) rfl ⟨rfl, ?_⟩
    exact (((Below.refl _ _).alloc (Nat.le_refl _) _).alloc (by simp) _).alloc (by rw [World.size_alloc, World.size_alloc]; omega) _
theorem renum_any (w : World) (k : Int) (q : Nat) (A : Option Addr) (n c : Nat) (bad : Bool) (l : List UInt8) (hn : n = l.length) (hc : l.length ≤ c) (hl : l.length ≤ 140737488355328) (hm : Mem w q A l) : Calls Try.prog 41 #[.agg #[.slice A n c, .bool bad], .int .i64 k] w fun e w' => ∃ A' c', e = .returned (.tuple #[.agg #[.slice A' (rNum (bad, l) k).1.2.length c', .bool (rNum (bad, l) k).1.1], .int .u64 (rNum (bad, l) k).2]) ∧ Mem w' q A' (rNum (bad, l) k).1.2 ∧ (rNum (bad, l) k).1.2.length ≤ c' ∧ Below w.heap.size w w' := by
  by_cases hk : 1 ≤ k ∧ k ≤ 8
  · have e : rNum (bad, l) k = ((rTake (bad, l) k).1, beNum (rTake (bad, l) k).2) := by unfold rNum; rw [if_pos hk]
    rw [e]
    exact renum_ok w k q A n c bad l hn hc hl hm hk.1 hk.2
  · have e : rNum (bad, l) k = ((true, []), 0) := by unfold rNum; rw [if_neg hk]
    rw [e]
    exact (renum_no w k A n c bad (by omega)).mono fun e w' ⟨he, hb⟩ => ⟨none, 0, he, Mem.nil_ _ _ _, Nat.le_refl _, hb⟩

theorem rNum_len (s : RS) (k : Int) : (rNum s k).1.2.length ≤ s.2.length := by
  unfold rNum
  split
  · exact rTake_len s k
  · simp
set_option maxRecDepth 100000 in
theorem restr_any (w : World) (k : Int) (q : Nat) (A : Option Addr) (n c : Nat) (bad : Bool) (l : List UInt8) (hn : n = l.length) (hc : l.length ≤ c) (hl : l.length ≤ 140737488355328) (hm : Mem w q A l) : Calls Try.prog 40 #[.agg #[.slice A n c, .bool bad], .int .i64 k] w fun e w' => ∃ A' c' v, e = .returned (.tuple #[.agg #[.slice A' (rStr (bad, l) k).1.2.length c', .bool (rStr (bad, l) k).1.1], v]) ∧ Mem w' q A' (rStr (bad, l) k).1.2 ∧ (rStr (bad, l) k).1.2.length ≤ c' ∧ Own w' w.heap.size v (rStr (bad, l) k).2 ∧ Below w.heap.size w w' := by
  have hstl := rNum_len (bad, l) k
  have hx := rNum_lt (bad, l) k
  have hn2 : ∀ W, Below w.heap.size w W → _ := fun W hb => renum_any W k q A n c bad l hn hc hl (hm.below0 hb)
  have hstr : rStr (bad, l) k = if (rNum (bad, l) k).1.1 = false ∧ (rNum (bad, l) k).2 ≤ (rNum (bad, l) k).1.2.length then rTake (rNum (bad, l) k).1 (rNum (bad, l) k).2 else ((true, []), []) := rfl
  generalize rStr (bad, l) k = rs at *
  generalize rNum (bad, l) k = r at *
  obtain ⟨⟨b1, l1⟩, x⟩ := r
  simp only at hx hn2 hstr hstl
  have hq : l1 ≠ [] → q < w.heap.size := fun hne => hm.lt (fun h => hne (List.length_eq_zero_iff.1 (by rw [h] at hstl; simpa using hstl)))
  have hl1 : l1.length ≤ 140737488355328 := by omega
  have HN := Lib.hid hn2
  have HS := Lib.hid hstr
  have HQ := Lib.hid hq
  clear hn2 hstr hq hstl
  subst hn
  have hw1 : IntKind.u64.wrap (l1.length : Int) = (l1.length : Int) := by { rw [IntKind.wrap_u64]; omega }
  by_cases hgood : b1 = false ∧ x ≤ l1.length
  · obtain ⟨rfl, hle⟩ := hgood
    have ht : ∀ W A' c', l1.length ≤ c' → Mem W q A' l1 → _ := fun W A' c' h1 h2 => retake_any W (x : Int) q A' l1.length c' false l1 rfl h1 hl1 h2
    have htl := rTake_len (false, l1) x
    have hs := HS.out
    rw [if_pos ⟨rfl, hle⟩] at hs
    generalize rTake (false, l1) (x : Int) = rt at *
    subst hs
    have hq2 : rs.1.2 ≠ [] → q < w.heap.size := fun hne => HQ.out (fun h => hne (List.length_eq_zero_iff.1 (by rw [h] at htl; simpa using htl)))
    have HQ2 := Lib.hid hq2
    have HT := Lib.hid ht
    clear hq2 ht htl HQ HS
    go_enter Try.func40, Try.ntmps40
    go_wp2_with (first | (go_at_call 41; refine (HN.out _ (by exact ((Below.refl _ _).alloc (Nat.le_refl _) _).alloc (by simp) _)).mono ?_; rintro e w1 ⟨A', c', rfl, hm1, hc1, hb1⟩; obtain ⟨bk, hz, hbw⟩ := box_two hb1; have bkx := bk.alloc (.cells #[.slice A' l1.length c', .bool false] 41); have x0 := bkx.cell 0; have x1 := bkx.cell 1; have y0 := bkx.frozen 0; have y1 := bkx.frozen 1; simp only [List.getElem?_toArray, List.getElem?_cons_zero, List.getElem?_cons_succ] at x0 x1) | (go_at_call 53; refine (HT.out _ A' c' hc1 (by exact hm1.alloc _)).mono ?_; rintro e w2 ⟨A2, c2, v, rfl, hm2, hc2, hown2, hb2⟩; have bky := bkx.below hb2 (by simp; omega); have x2 := bky.cell 0; have x3 := bky.cell 1; have y2 := bky.frozen 0; have y3 := bky.frozen 1; simp only [List.getElem?_toArray, List.getElem?_cons_zero, List.getElem?_cons_succ] at x2 x3))
    have hbw2 : Below w.heap.size w w2 := (hbw.alloc (by omega) _).trans (hb2.mono (by simp; omega))
    have hfin : Below w.heap.size w ((w2.setCell ⟨w.heap.size + 1, 0, none⟩ (.slice A2 rs.1.2.length c2)).setCell ⟨w.heap.size + 1, 1, none⟩ (.bool rs.1.1)) := (hbw2.setCell (p := ⟨w.heap.size + 1, 0, none⟩) (by simp) _).setCell (p := ⟨w.heap.size + 1, 1, none⟩) (by simp) _
    refine bodyPost_ret (v := .tuple #[.agg #[.slice A2 rs.1.2.length c2, .bool rs.1.1], v]) (by simp [results, Try.results40, go_sem, x2, x3]) rfl ?_
    refine ⟨A2, c2, v, rfl, (hm2.store (p := ⟨w.heap.size + 1, 0, none⟩) (fun h => by have := HQ2.out h; simp; omega) _).store (p := ⟨w.heap.size + 1, 1, none⟩) (fun h => by have := HQ2.out h; simp; omega) _, hc2, ?_, hfin⟩
    exact ((hown2.setCell (p := ⟨w.heap.size + 1, 0, none⟩) (by simp; omega) _).setCell (p := ⟨w.heap.size + 1, 1, none⟩) (by simp; omega) _).mono (by simp; omega)
  · rcases Bool.eq_false_or_eq_true b1 with hb | hb
    · subst hb
      have hbad : ¬ ((true : Bool) = false ∧ x ≤ l1.length) := by simp
      go_enter Try.func40, Try.ntmps40
      go_wp2_with (first | (go_at_call 41; refine (HN.out _ (by exact ((Below.refl _ _).alloc (Nat.le_refl _) _).alloc (by simp) _)).mono ?_; rintro e w1 ⟨A', c', rfl, hm1, hc1, hb1⟩; obtain ⟨bk, hz, hbw⟩ := box_two hb1; have bkx := bk.alloc (.cells #[.slice A' l1.length c', .bool true] 41); have x0 := bkx.cell 0; have x1 := bkx.cell 1; have y0 := bkx.frozen 0; have y1 := bkx.frozen 1; simp only [List.getElem?_toArray, List.getElem?_cons_zero, List.getElem?_cons_succ] at x0 x1) | (go_at_call 52; refine (refail_any _).mono ?_; rintro e w2 ⟨rfl, rfl⟩; have bky := bkx.alloc (.cells #[.slice none 0 0, .bool true] 41); have x2 := bky.cell 0; have x3 := bky.cell 1; have y2 := bky.frozen 0; have y3 := bky.frozen 1; simp only [List.getElem?_toArray, List.getElem?_cons_zero, List.getElem?_cons_succ] at x2 x3))
      have e : rs = ((true, []), []) := by rw [HS.out, if_neg hbad]
      rw [e]
      refine bodyPost_ret (v := .tuple #[.agg #[.slice none 0 0, .bool true], .slice none 0 0]) (by simp [results, Try.results40, go_sem, x2, x3]) rfl ?_
      refine ⟨none, 0, _, rfl, Mem.nil_ _ _ _, Nat.le_refl _, Own.nil_ _ _, ?_⟩
      exact (((hbw.alloc (by omega) _).alloc (by simp; omega) _).setCell (p := ⟨w.heap.size + 1, 0, none⟩) (by simp) _).setCell (p := ⟨w.heap.size + 1, 1, none⟩) (by simp) _
    · subst hb
      have hlt : l1.length < x := by
        rcases Nat.lt_or_ge l1.length x with h | h
        · exact h
        · exact absurd ⟨rfl, h⟩ hgood
      have hbad := hgood
      have hlt' : (l1.length : Int) < (x : Int) := by omega
      go_enter Try.func40, Try.ntmps40
      go_wp2_with (first | (go_at_call 41; refine (HN.out _ (by exact ((Below.refl _ _).alloc (Nat.le_refl _) _).alloc (by simp) _)).mono ?_; rintro e w1 ⟨A', c', rfl, hm1, hc1, hb1⟩; obtain ⟨bk, hz, hbw⟩ := box_two hb1; have bkx := bk.alloc (.cells #[.slice A' l1.length c', .bool false] 41); have x0 := bkx.cell 0; have x1 := bkx.cell 1; have y0 := bkx.frozen 0; have y1 := bkx.frozen 1; simp only [List.getElem?_toArray, List.getElem?_cons_zero, List.getElem?_cons_succ] at x0 x1) | (go_at_call 52; refine (refail_any _).mono ?_; rintro e w2 ⟨rfl, rfl⟩; have bky := bkx.alloc (.cells #[.slice none 0 0, .bool true] 41); have x2 := bky.cell 0; have x3 := bky.cell 1; have y2 := bky.frozen 0; have y3 := bky.frozen 1; simp only [List.getElem?_toArray, List.getElem?_cons_zero, List.getElem?_cons_succ] at x2 x3))
      have e : rs = ((true, []), []) := by rw [HS.out, if_neg hbad]
      rw [e]
      refine bodyPost_ret (v := .tuple #[.agg #[.slice none 0 0, .bool true], .slice none 0 0]) (by simp [results, Try.results40, go_sem, x2, x3]) rfl ?_
      refine ⟨none, 0, _, rfl, Mem.nil_ _ _ _, Nat.le_refl _, Own.nil_ _ _, ?_⟩
      exact (((hbw.alloc (by omega) _).alloc (by simp; omega) _).setCell (p := ⟨w.heap.size + 1, 0, none⟩) (by simp) _).setCell (p := ⟨w.heap.size + 1, 1, none⟩) (by simp) _

end Go.Proofs.Ytnejidaplbonoaa
