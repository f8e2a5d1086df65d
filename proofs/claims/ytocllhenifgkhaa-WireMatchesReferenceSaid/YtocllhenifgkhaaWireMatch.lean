/-
  For any bytes and reads, a reader answers as the reference does, also after a read that has failed: the law WireMatchesReference returns true for every input, and leaves its arguments as they were. No condition.
-/
import Derived.Test.YtocllhenifgkhaaLists
import Derived.Deep.RegionWith
import Derived.BigRegion
namespace Go.Proofs.Ytocllhenifgkhaa.wireMatch
open Go.ChangeShapes Go.WideShapes Go.ChangeAt Go.RowKit
set_option linter.unusedVariables false

theorem rStr_len (s : RS) (k : Int) : (rStr s k).1.2.length ≤ s.2.length := by
  unfold rStr
  have := rNum_len s k
  split
  · exact Nat.le_trans (rTake_len _ _) this
  · simp
theorem rStr_out (s : RS) (k : Int) : (rStr s k).2.length ≤ s.2.length := by
  unfold rStr
  have := rNum_len s k
  split
  · exact Nat.le_trans (rTake_out _ _) this
  · simp
theorem quiet_eq {P : Program} {f : FuncId} {args : Array Value} {w : World} {n : Nat} {v : Value}
    (h : Calls P f args (w.drewN n) fun e w' => e = .returned v ∧ w.drewN n = w') : Calls P f args (w.drewN n) fun e w'' => e = .returned v ∧ ∃ m, w'' = w.drewN m :=
  h.mono fun _ _ ⟨he, hm⟩ => ⟨he, n, hm.symm⟩
theorem quiet_draw {P : Program} {f : FuncId} {args : Array Value} {w : World} {n : Nat} {v : Value}
    (h : Calls P f args (w.drewN n) fun e w' => e = .returned v ∧ ∃ k, w' = (w.drewN n).drewN k) : Calls P f args (w.drewN n) fun e w'' => e = .returned v ∧ ∃ m, w'' = w.drewN m :=
  h.mono fun _ _ ⟨he, k, hm⟩ => ⟨he, n + k, by rw [hm, World.drewN_drewN]⟩

/-- Block q is a row of at least n bytes, whatever they are, none frozen. -/
def Junk (w : World) (q n : Nat) : Prop := ∃ cs : Array Value, Blk w q 5 cs ∧ ∀ i, i < n → ∃ x : Int, cs[i]? = some (.int .u8 x)
theorem Junk.at_ {w : World} {q n i : Nat} (h : Junk w q n) (hi : i < n) : ∃ x : Int, w.cell? ⟨q, i, none⟩ = some (.int .u8 x) ∧ w.frozen? ⟨q, i, none⟩ = false := by
  obtain ⟨cs, hb, hc⟩ := h
  obtain ⟨x, hx⟩ := hc i hi
  exact ⟨x, by rw [hb.cell]; exact hx, hb.frozen i⟩
theorem Junk.put {w : World} {q n i : Nat} (h : Junk w q n) (y : Int) : Junk (w.setCell ⟨q, i, none⟩ (.int .u8 y)) q n := by
  obtain ⟨cs, hb, hc⟩ := h
  refine ⟨_, hb.put i _, fun j hj => ?_⟩
  obtain ⟨x, hx⟩ := hc j hj
  by_cases e : i = j
  · subst e
    have hlt : i < cs.size := (Array.getElem?_eq_some_iff.1 hx).1
    exact ⟨y, by simp [Array.getElem?_setIfInBounds, hlt]⟩
  · exact ⟨x, by rw [Array.getElem?_setIfInBounds, if_neg e]; exact hx⟩
/-- A slice of the call's own that may be written to. -/
theorem own_junk {w : World} {B : Nat} {v : Value} {l : List UInt8} (h : Own w B v l) : ∃ A q c, v = .slice A l.length c ∧ (l = [] ∨ (A = some ⟨q, 0, none⟩ ∧ B ≤ q ∧ q < w.heap.size ∧ Junk w q l.length)) := by
  obtain ⟨A, q, c, rfl, _⟩ := h.form
  obtain ⟨h1, h2⟩ := h
  rcases h2 with ⟨_, hn⟩ | ⟨g, cap, cur, hv, hg, hh, hnc, hcm, hsz, ht⟩
  · exact ⟨A, q, c, rfl, .inl (List.length_eq_zero_iff.1 hn)⟩
  · refine ⟨A, g, c, rfl, .inr ⟨?_, hg, ?_, cur, hh, fun i hi => ?_⟩⟩
    · injection hv
    · exact Blk.lt (t := 5) (cs := cur) hh
    · have e : (l.map bv)[i]? = some (bv (l[i]'hi)) := by rw [List.getElem?_map, List.getElem?_eq_getElem hi]; rfl
      rw [← ht, List.getElem?_take] at e
      split at e
      · rw [Array.getElem?_toList] at e
        exact ⟨_, e⟩
      · cases e

/-- The state of the law's loop: the reader at block g (its bytes in block qr), the reference's reader in the box gw (its bytes in block q, where the argument lies), both as st says. -/
structure Inv (w wr : World) (g qr gw q : Nat) (l : List UInt8) (st : RS) : Prop where
  rd : Rd wr g qr st.1 st.2
  box : ∃ A c, Blk wr gw 28 #[.slice A st.2.length c, .bool st.1] ∧ Mem wr q A st.2 ∧ st.2.length ≤ c
  bel : Below w.heap.size w wr
  len : st.2.length ≤ l.length

/-- What is fixed during the loop. -/
structure Fix (w : World) (g qr gw q hi : Nat) (l : List UInt8) : Prop where
  hg : w.heap.size ≤ g
  hgw : w.heap.size ≤ gw
  ne : gw ≠ g
  hq : l = [] ∨ (qr ≠ gw ∧ q < w.heap.size ∧ qr < hi)
  hig : g < hi
  higw : gw < hi

theorem nil_of_len {a b : List UInt8} (h : a.length ≤ b.length) (hb : b = []) : a = [] := List.length_eq_zero_iff.1 (by rw [hb] at h; simpa using h)

theorem Inv.below {w wr W : World} {g qr gw q : Nat} {l : List UInt8} {st : RS} (h : Inv w wr g qr gw q l st) (hb : Below wr.heap.size wr W) : Inv w W g qr gw q l st := by
  obtain ⟨A, c, hbk, hm, hc⟩ := h.box
  exact ⟨h.rd.below hb, ⟨A, c, hbk.below hb hbk.lt, hm.below0 hb, hc⟩, h.bel.trans (hb.mono h.bel.size), h.len⟩
theorem Inv.write {w wr : World} {g qr gw q hi : Nat} {l : List UInt8} {st : RS} (h : Inv w wr g qr gw q l st) (f : Fix w g qr gw q hi l) {p : Addr} (hp : w.heap.size ≤ p.block) (h1 : p.block ≠ g) (h2 : p.block ≠ gw) (h3 : l = [] ∨ p.block ≠ qr) (u : Value) : Inv w (wr.setCell p u) g qr gw q l st := by
  obtain ⟨A, c, hbk, hm, hc⟩ := h.box
  have hg : wr.grownBy (wr.setCell p u) (some p.block) := gb_setCell (World.grownBy.refl _ _) (.inl rfl) u
  refine ⟨h.rd.grown2 hg (by simpa using Ne.symm h1) ?_, ⟨A, c, hbk.grown hg (by simpa using Ne.symm h2), ?_, hc⟩, h.bel.setCell hp u, h.len⟩
  · rcases h3 with h3 | h3
    · exact .inl (nil_of_len h.len h3)
    · exact .inr (by simpa using Ne.symm h3)
  · rcases f.hq with h4 | h4
    · exact .inl (nil_of_len h.len h4)
    · exact hm.grown hg (by simp; omega)
/-- A read of the reader: behind it the box is as it was. -/
theorem Inv.read {w wr w1 : World} {g qr gw q hi : Nat} {l : List UInt8} {st : RS} (h : Inv w wr g qr gw q l st) (f : Fix w g qr gw q hi l) (hg : wr.grownBy w1 (some g)) :
    ∃ A c, Blk w1 gw 28 #[.slice A st.2.length c, .bool st.1] ∧ Mem w1 q A st.2 ∧ st.2.length ≤ c ∧ Below w.heap.size w w1 := by
  obtain ⟨A, c, hbk, hm, hc⟩ := h.box
  refine ⟨A, c, hbk.grown hg (by simpa using f.ne), ?_, hc, h.bel.grown hg h.bel.size (fun k hk => by injection hk with hk; have := f.hg; omega)⟩
  rcases f.hq with h4 | h4
  · exact .inl (nil_of_len h.len h4)
  · exact hm.grown hg (by have := f.hg; simp; omega)
/-- Behind the reference's read, and the store into the box. -/
theorem Inv.stored {w w1 w2 : World} {g qr gw q hi : Nat} {l : List UInt8} {st : RS} {A2 : Option Addr} {c2 : Nat} {u1 u2 : Value} (f : Fix w g qr gw q hi l) (hr : Rd w1 g qr st.1 st.2) (hb : Below w.heap.size w w1) (hb2 : Below w1.heap.size w1 w2) (hbk : Blk w1 gw 28 #[u1, u2])
    (hm2 : Mem w2 q A2 st.2) (hc2 : st.2.length ≤ c2) (hlen : st.2.length ≤ l.length) :
    Inv w ((w2.setCell ⟨gw, 0, none⟩ (.slice A2 st.2.length c2)).setCell ⟨gw, 1, none⟩ (.bool st.1)) g qr gw q l st := by
  have hbk2 := hbk.below hb2 hbk.lt
  have hg1 : w2.grownBy ((w2.setCell ⟨gw, 0, none⟩ (.slice A2 st.2.length c2)).setCell ⟨gw, 1, none⟩ (.bool st.1)) (some gw) :=
    gb_setCell (p := ⟨gw, 1, none⟩) (gb_setCell (p := ⟨gw, 0, none⟩) (World.grownBy.refl _ _) (.inl rfl) _) (.inl rfl) _
  refine ⟨(hr.below hb2).grown2 hg1 (by have := f.ne; simp; omega) ?_, ⟨A2, c2, (hbk2.put 0 _).put 1 _, ?_, hc2⟩, ?_, hlen⟩
  · rcases f.hq with h4 | h4
    · exact .inl (nil_of_len hlen h4)
    · exact .inr (by simp; omega)
  · rcases f.hq with h4 | h4
    · exact .inl (nil_of_len hlen h4)
    · exact hm2.grown hg1 (by have := f.hgw; simp; omega)
  · exact ((hb.trans (hb2.mono hb.size)).setCell (p := ⟨gw, 0, none⟩) f.hgw _).setCell (p := ⟨gw, 1, none⟩) f.hgw _

set_option maxRecDepth 100000 in
set_option maxHeartbeats 16000000 in
theorem walk (w : World) (q : Nat) (A : Option Addr) (c : Nat) (l : List UInt8) (qo : Nat) (Ao : Option Addr) (co : Nat) (L : List (Int × Int)) (hc : l.length ≤ c) (hm : Mem w q A l) (ho : MemOp w qo Ao L) (hl : l.length ≤ 300) (hL : L.length ≤ 100) :
    Calls Try.prog 3 #[.slice A l.length c, .slice Ao L.length co] w fun e w' => e = .returned (.bool true) ∧ Below w.heap.size w w' := by
  have HO := Lib.hid ho
  have HM := Lib.hid hm
  have d1 : decide ((300 : Int) < (l.length : Int)) = false := by simp; omega
  have d2 : decide ((100 : Int) < (L.length : Int)) = false := by simp; omega
  have hp := ptr_not_nil
  obtain ⟨i0, hi0, hz0, hs0, hbb0⟩ := info_parts u8_info
  clear ho
  go_enter Try.func3, Try.ntmps3
  go_wp2_with fail
  refine (awake_any _).mono ?_
  rintro e w1 ⟨rfl, b1⟩
  have ho1 : Own (w1.alloc (.cells #[] 5)) w1.heap.size (.slice (some ⟨w1.heap.size, 0, none⟩) 0 0) [] := World.ownsRow_made w1 #[] 0 (Nat.le_refl _) (by unfold maxLen; omega) (by simp)
  have hm1 := (hm.below0 b1).alloc (.cells #[] 5)
  have b1' := b1.alloc b1.size (.cells #[] 5)
  go_wp2_with (first | (at_builtin; refine wpList_append_bytes rfl _ _ 22 rfl w1.heap.size i0 Try.underlying22 hi0 hz0 hs0 hbb0 (.slice (some ⟨w1.heap.size, 0, none⟩) 0 0) [] rfl ho1 q A l.length c l rfl rfl hm1 (by simp; omega) (by simp) ?_; intro v2 w2 hown2 hg2))
  replace hown2 : Own w2 w1.heap.size v2 l := hown2
  have b2 : Below w.heap.size w w2 := b1'.grown hg2 b1'.size (fun k hk => by have := b1.size; simp [Value.ownBlock] at hk; omega)
  have z1 := b1.size
  clear b1' hm1 hg2 ho1
  obtain ⟨Aw, qw, cw, rfl, hj2⟩ := own_junk hown2
  obtain ⟨_, iw, mw⟩ := hown2.mem
  clear hown2 hm
  refine (new_any _ iw Aw _ cw l rfl mw (by omega)).mono ?_
  rintro e w3 ⟨g, qr, rfl, r3, hg, hg', hq, b3⟩
  have z2 := b2.size
  have z3 := b3.size
  have hj3 : l = [] ∨ (Aw = some ⟨qw, 0, none⟩ ∧ w.heap.size ≤ qw ∧ qw < w2.heap.size ∧ Junk w3 qw l.length) := by
    rcases hj2 with h | ⟨h1, h2, h3, cs, h4, h5⟩
    · exact .inl h
    · exact .inr ⟨h1, by omega, h3, cs, h4.below b3 h3, h5⟩
  have hq3 : l = [] ∨ (w2.heap.size ≤ qr ∧ qr < w3.heap.size) := hq
  have HJ : Hid (l = [] ∨ (Aw = some ⟨qw, 0, none⟩ ∧ w.heap.size ≤ qw ∧ qw < w2.heap.size)) := hj3.imp id fun h => ⟨h.1, h.2.1, h.2.2.1⟩
  have hjj : l = [] ∨ Junk w3 qw l.length := hj3.imp id fun h => h.2.2.2
  have HQ := Lib.hid hq3
  replace b3 := b2.trans (b3.mono b2.size)
  clear b2 mw hj2 hj3 hq hq3 b1
  go_wp2_with fail
  go_loopw [7] (fun i wr => ∃ j : Nat, j ≤ l.length ∧ i = .int .i64 j ∧ Rd wr g qr false l ∧ (l = [] ∨ Junk wr qw l.length) ∧ Below w.heap.size w wr ∧ w3.heap.size ≤ wr.heap.size) (fun i _ => l.length - (intOf i).toNat)
  case atStart => exact ⟨0, Nat.zero_le _, rfl, r3, hjj, b3, Nat.le_refl _⟩
  case round =>
    obtain ⟨j, hj, rfl, hr, hjk, hbw, hz⟩ := hrel
    by_cases hlt : j < l.length
    · have hne : l ≠ [] := fun h => by rw [h] at hlt; simp at hlt
      obtain ⟨hA, hw, hw2⟩ := HJ.out.resolve_left hne
      have hq2 := HQ.out.resolve_left hne
      have hjk' := hjk.resolve_left hne
      subst hA
      obtain ⟨x, hx, hf⟩ := hjk'.at_ hlt
      have hsteps : ∀ y : Int, Rd (wr.setCell ⟨qw, j, none⟩ (.int .u8 y)) g qr false l ∧ Junk (wr.setCell ⟨qw, j, none⟩ (.int .u8 y)) qw l.length ∧ Below w.heap.size w (wr.setCell ⟨qw, j, none⟩ (.int .u8 y)) := by
        intro y
        have hgb : wr.grownBy (wr.setCell ⟨qw, j, none⟩ (.int .u8 y)) (some qw) := gb_setCell (p := ⟨qw, j, none⟩) (World.grownBy.refl _ _) (.inl rfl) _
        exact ⟨hr.grown hgb (by simp; omega) (by simp; omega), hjk'.put y, hbw.setCell (p := ⟨qw, j, none⟩) hw _⟩
      have HS := Lib.hid hsteps
      clear hsteps hr hjk hjk' hbw hne
      go_wp2
      go_roundw
      case rel => exact ⟨j + 1, by omega, by go_num, (HS.out _).1, .inr (HS.out _).2.1, (HS.out _).2.2, by simpa using hz⟩
      case measure => simp [intOf]; omega
    · clear hjk
      go_wp2_with fail
      have hz0 := hbw.size
      have hfix : Fix w g qr wr.heap.size q (wr.heap.size + 1) l := by
        refine ⟨by omega, hz0, by omega, ?_, by omega, by omega⟩
        rcases HQ.out with h | h
        · exact .inl h
        · by_cases hne : l = []
          · exact .inl hne
          · exact .inr ⟨by omega, HM.out.lt hne, by omega⟩
      have hinv : Inv w (wr.alloc (.cells #[.slice A l.length c, .bool false] 28)) g qr wr.heap.size q l (false, l) :=
        ⟨hr.alloc _, ⟨A, c, Blk.new _ _ _, (HM.out.below0 hbw).alloc _, hc⟩, hbw.alloc hz0 _, Nat.le_refl _⟩
      have HFIX := Lib.hid hfix
      obtain ⟨gw, hgw⟩ : ∃ gw, gw = wr.heap.size := ⟨_, rfl⟩
      rw [← hgw] at hfix hinv HFIX
      have hzz : gw + 1 ≤ (wr.alloc (.cells #[.slice A l.length c, .bool false] 28)).heap.size := by simp; omega
      have hptr : (Value.pointer (some ⟨wr.heap.size, 0, none⟩)) = .pointer (some ⟨gw, 0, none⟩) := by rw [hgw]
      rw [← hgw]
      generalize wr.alloc (.cells #[.slice A l.length c, .bool false] 28) = wb at *
      clear hgw hptr hr hbw hz hz0 hfix hjj b3 r3
      go_loopw [9] (fun i wr => ∃ (j : Nat) (st : RS), j ≤ L.length ∧ i = .int .i64 j ∧ Inv w wr g qr gw q l st ∧ gw + 1 ≤ wr.heap.size) (fun i _ => L.length - (intOf i).toNat)
      case atStart => exact ⟨0, _, Nat.zero_le _, rfl, hinv, hzz⟩
      case round =>
        obtain ⟨j, st, hj, rfl, hv, hzw⟩ := hrel
        obtain ⟨bd, rs⟩ := st
        by_cases hlt : j < L.length
        · obtain ⟨o, rfl, h1, h2⟩ := HO.out.at_ hlt
          have hqlt : qo < w.heap.size := World.block_lt_of_cell? w _ h2
          generalize hlj : (L[j]'hlt) = lj at *
          obtain ⟨kd, nn⟩ := lj
          simp only at h1 h2
          have hcell1 : ∀ W, Below w.heap.size w W → W.cell? ⟨qo, o + j * 2, none⟩ = some (.int .i64 kd) := fun W hb => (hb.cell (p := ⟨qo, o + j * 2, none⟩) hqlt).trans h1
          have hcell : ∀ W, Below w.heap.size w W → W.cell? ⟨qo, o + j * 2 + 1, none⟩ = some (.int .i64 nn) := fun W hb => (hb.cell (p := ⟨qo, o + j * 2 + 1, none⟩) hqlt).trans h2
          have HC := Lib.hid hcell
          have HLJ := Lib.hid hlj
          have hc0 := hcell1 wr hv.bel
          have hc1 := hcell wr hv.bel
          have hi0 : (0 : Int) ≤ (j : Int) := by omega
          have hi1 : (j : Int) < (L.length : Int) := by omega
          clear hcell hcell1 hlj h1 h2 hinv hzz
          by_cases hk0 : kd = 0
          · have hkk : (kd == 0) = true := by simp [hk0]
            clear hk0
            go_wp2_with fail
            refine (take_any _ nn hv.rd).mono ?_
            rintro e wa ⟨va, rfl, oa, ra, ga⟩
            obtain ⟨Ab, cb, bk, mb, hcb, ba⟩ := hv.read HFIX.out ga
            have hca := HC.out wa ba
            have x0 := bk.cell 0
            have x1 := bk.cell 1
            simp at x0 x1
            go_wp2_with fail
            have hlen := hv.len
            simp only at hlen
            go_region_with (first | (go_at_call 11; refine (retake_any _ nn q Ab _ cb bd rs rfl hcb (by omega) (by exact mb)).mono ?_; rintro e w4 ⟨A4, c4, v4, rfl, m4, h4, o4, b4⟩; have bk4 : Blk w4 gw 28 #[.slice Ab rs.length cb, .bool bd] := bk.keep (b4.block gw (by exact bk.lt)); have x2 := bk4.cell 0; have x3 := bk4.cell 1; have y2 := bk4.frozen 0; have y3 := bk4.frozen 1; simp at x2 x3))
            all_goals
              have hstl := rTake_len (bd, rs) nn
              have houtl := rTake_out (bd, rs) nn
              have b4' : Below wa.heap.size wa w4 := ⟨b4.os, b4.tape, b4.output, b4.size, b4.block⟩
              have hinv := Inv.stored HFIX.out ra ba b4' bk m4 h4 (Nat.le_trans hstl hlen)
              have oa5 : Own ((w4.setCell ⟨gw, 0, none⟩ (.slice A4 (rTake (bd, rs) nn).1.2.length c4)).setCell ⟨gw, 1, none⟩ (.bool (rTake (bd, rs) nn).1.1)) wr.heap.size va (rTake (bd, rs) nn).2 :=
                ((oa.below b4').setCell (p := ⟨gw, 0, none⟩) (by simp; omega) _).setCell (p := ⟨gw, 1, none⟩) (by simp; omega) _
              have o45 : Own ((w4.setCell ⟨gw, 0, none⟩ (.slice A4 (rTake (bd, rs) nn).1.2.length c4)).setCell ⟨gw, 1, none⟩ (.bool (rTake (bd, rs) nn).1.1)) wr.heap.size v4 (rTake (bd, rs) nn).2 :=
                ((o4.mono ga.size).setCell (p := ⟨gw, 0, none⟩) (by simp; omega) _).setCell (p := ⟨gw, 1, none⟩) (by simp; omega) _
              have hzz5 : gw + 1 ≤ ((w4.setCell ⟨gw, 0, none⟩ (.slice A4 (rTake (bd, rs) nn).1.2.length c4)).setCell ⟨gw, 1, none⟩ (.bool (rTake (bd, rs) nn).1.1)).heap.size := by
                have := ga.size
                have := b4'.size
                simp
                omega
              clear x0 x1 x2 x3 y2 y3 bk4 bk m4 h4 b4 b4' o4 oa ra ba ga hca hc0 hc1 hv mb
              generalize ((w4.setCell ⟨gw, 0, none⟩ (.slice A4 (rTake (bd, rs) nn).1.2.length c4)).setCell ⟨gw, 1, none⟩ (.bool (rTake (bd, rs) nn).1.1)) = w5 at *
              generalize (rTake (bd, rs) nn).2 = out at *
              generalize (rTake (bd, rs) nn).1 = st1 at *
              obtain ⟨bd1, rs1⟩ := st1
              simp only at hinv hstl houtl
              obtain ⟨Ag, qg, cg, rfl, hjg⟩ := own_junk oa5
              obtain ⟨Aw2, qw2, cw2, rfl, _⟩ := o45.form
              obtain ⟨_, ig, mg⟩ := oa5.mem
              obtain ⟨_, ih, mh⟩ := o45.mem
              clear oa5 o45
              obtain ⟨Ax, cx, bkx, mx, hcx⟩ := hinv.box
              have x0 := bkx.cell 0
              have x1 := bkx.cell 1
              simp at x0 x1
              have hrd := hinv.rd
              simp only at hrd
              have HINV := Lib.hid hinv
              have HRD := Lib.hid hrd
              have HMG := Lib.hid mg
              have HMH := Lib.hid mh
              have HJG := Lib.hid hjg
              clear hinv hrd mg mh hjg mx bkx
              cases bd1 with
              | true =>
                go_wp2_with fail
                go_quiet (first | (go_at_call 16; exact quiet_draw (same_yes _ ig ih Ag Aw2 _ _ cg cw2 out (by simp) (by simp) (by omega) (HMG.out.drewN _) (HMH.out.drewN _))) | (go_at_call 17; exact quiet_eq (bad_any _ (HRD.out.drewN _))) | (go_at_call 18; exact quiet_eq (left_any _ (HRD.out.drewN _))) | (go_at_call 19; exact quiet_eq (done_any _ (HRD.out.drewN _))))
                go_wp2_with fail
                go_loopw [14] (fun y W => ∃ m : Nat, m ≤ out.length ∧ y = .int .i64 m ∧ Inv w W g qr gw q l (true, rs1) ∧ (out = [] ∨ Junk W qg out.length) ∧ gw + 1 ≤ W.heap.size) (fun y _ => out.length - (intOf y).toNat)
                case atStart => exact ⟨0, Nat.zero_le _, rfl, HINV.out.below (below_drewN (Below.refl _ _) nq), HJG.out.imp id (fun h => h.2.2.2), hzz5⟩
                case round =>
                  obtain ⟨m, hm, rfl, hv, hjk, hzm⟩ := hrel
                  by_cases hlm : m < out.length
                  · have hne : out ≠ [] := fun h => by rw [h] at hlm; simp at hlm
                    obtain ⟨hA, hw, _⟩ := HJG.out.resolve_left hne
                    have hjk' := hjk.resolve_left hne
                    subst hA
                    obtain ⟨x, hx, hf⟩ := hjk'.at_ hlm
                    have hFX := HFIX.out
                    have hsteps : ∀ y : Int, Inv w (wr.setCell ⟨qg, m, none⟩ (.int .u8 y)) g qr gw q l (true, rs1) ∧ Junk (wr.setCell ⟨qg, m, none⟩ (.int .u8 y)) qg out.length :=
                      fun y => ⟨hv.write hFX (p := ⟨qg, m, none⟩) (by have := hFX.hgw; simp; omega) (by have := hFX.hig; simp; omega) (by simp; omega) (hFX.hq.imp id (fun h => by simp; omega)) _, hjk'.put y⟩
                    have HS := Lib.hid hsteps
                    clear hsteps hv hjk hjk' hne hFX
                    go_wp2
                    go_roundw
                    case rel => exact ⟨m + 1, by omega, by go_num, (HS.out _).1, .inr (HS.out _).2, by simpa using hzm⟩
                    case measure => simp [intOf]; omega
                  · clear hjk
                    go_wp2
                    go_roundw
                    case rel => exact ⟨j + 1, (true, rs1), by omega, by go_num, hv, hzm⟩
                    case measure => simp [intOf]; omega
              | false =>
                cases rs1 with
                | nil =>
                  go_wp2_with fail
                  go_quiet (first | (go_at_call 16; exact quiet_draw (same_yes _ ig ih Ag Aw2 _ _ cg cw2 out (by simp) (by simp) (by omega) (HMG.out.drewN _) (HMH.out.drewN _))) | (go_at_call 17; exact quiet_eq (bad_any _ (HRD.out.drewN _))) | (go_at_call 18; exact quiet_eq (left_any _ (HRD.out.drewN _))) | (go_at_call 19; exact quiet_eq (done_any _ (HRD.out.drewN _))))
                  go_wp2_with fail
                  go_loopw [14] (fun y W => ∃ m : Nat, m ≤ out.length ∧ y = .int .i64 m ∧ Inv w W g qr gw q l (false, []) ∧ (out = [] ∨ Junk W qg out.length) ∧ gw + 1 ≤ W.heap.size) (fun y _ => out.length - (intOf y).toNat)
                  case atStart => exact ⟨0, Nat.zero_le _, rfl, HINV.out.below (below_drewN (Below.refl _ _) nq), HJG.out.imp id (fun h => h.2.2.2), hzz5⟩
                  case round =>
                    obtain ⟨m, hm, rfl, hv, hjk, hzm⟩ := hrel
                    by_cases hlm : m < out.length
                    · have hne : out ≠ [] := fun h => by rw [h] at hlm; simp at hlm
                      obtain ⟨hA, hw, _⟩ := HJG.out.resolve_left hne
                      have hjk' := hjk.resolve_left hne
                      subst hA
                      obtain ⟨x, hx, hf⟩ := hjk'.at_ hlm
                      have hFX := HFIX.out
                      have hsteps : ∀ y : Int, Inv w (wr.setCell ⟨qg, m, none⟩ (.int .u8 y)) g qr gw q l (false, []) ∧ Junk (wr.setCell ⟨qg, m, none⟩ (.int .u8 y)) qg out.length :=
                        fun y => ⟨hv.write hFX (p := ⟨qg, m, none⟩) (by have := hFX.hgw; simp; omega) (by have := hFX.hig; simp; omega) (by simp; omega) (hFX.hq.imp id (fun h => by simp; omega)) _, hjk'.put y⟩
                      have HS := Lib.hid hsteps
                      clear hsteps hv hjk hjk' hne hFX
                      go_wp2
                      go_roundw
                      case rel => exact ⟨m + 1, by omega, by go_num, (HS.out _).1, .inr (HS.out _).2, by simpa using hzm⟩
                      case measure => simp [intOf]; omega
                    · clear hjk
                      go_wp2
                      go_roundw
                      case rel => exact ⟨j + 1, (false, []), by omega, by go_num, hv, hzm⟩
                      case measure => simp [intOf]; omega
                | cons b0 r0 =>
                  have hz0 : (((r0.length : Int) + 1) == 0) = false := by simp; omega
                  go_wp2_with fail
                  go_quiet (first | (go_at_call 16; exact quiet_draw (same_yes _ ig ih Ag Aw2 _ _ cg cw2 out (by simp) (by simp) (by omega) (HMG.out.drewN _) (HMH.out.drewN _))) | (go_at_call 17; exact quiet_eq (bad_any _ (HRD.out.drewN _))) | (go_at_call 18; exact quiet_eq (left_any _ (HRD.out.drewN _))) | (go_at_call 19; exact quiet_eq (done_any _ (HRD.out.drewN _))))
                  go_wp2_with fail
                  go_loopw [14] (fun y W => ∃ m : Nat, m ≤ out.length ∧ y = .int .i64 m ∧ Inv w W g qr gw q l (false, b0 :: r0) ∧ (out = [] ∨ Junk W qg out.length) ∧ gw + 1 ≤ W.heap.size) (fun y _ => out.length - (intOf y).toNat)
                  case atStart => exact ⟨0, Nat.zero_le _, rfl, HINV.out.below (below_drewN (Below.refl _ _) nq), HJG.out.imp id (fun h => h.2.2.2), hzz5⟩
                  case round =>
                    obtain ⟨m, hm, rfl, hv, hjk, hzm⟩ := hrel
                    by_cases hlm : m < out.length
                    · have hne : out ≠ [] := fun h => by rw [h] at hlm; simp at hlm
                      obtain ⟨hA, hw, _⟩ := HJG.out.resolve_left hne
                      have hjk' := hjk.resolve_left hne
                      subst hA
                      obtain ⟨x, hx, hf⟩ := hjk'.at_ hlm
                      have hFX := HFIX.out
                      have hsteps : ∀ y : Int, Inv w (wr.setCell ⟨qg, m, none⟩ (.int .u8 y)) g qr gw q l (false, b0 :: r0) ∧ Junk (wr.setCell ⟨qg, m, none⟩ (.int .u8 y)) qg out.length :=
                        fun y => ⟨hv.write hFX (p := ⟨qg, m, none⟩) (by have := hFX.hgw; simp; omega) (by have := hFX.hig; simp; omega) (by simp; omega) (hFX.hq.imp id (fun h => by simp; omega)) _, hjk'.put y⟩
                      have HS := Lib.hid hsteps
                      clear hsteps hv hjk hjk' hne hFX
                      go_wp2
                      go_roundw
                      case rel => exact ⟨m + 1, by omega, by go_num, (HS.out _).1, .inr (HS.out _).2, by simpa using hzm⟩
                      case measure => simp [intOf]; omega
                    · clear hjk
                      go_wp2
                      go_roundw
                      case rel => exact ⟨j + 1, (false, b0 :: r0), by omega, by go_num, hv, hzm⟩
                      case measure => simp [intOf]; omega
          · by_cases hk1 : kd = 1
            · have hkk : (kd == 0) = false := by simp [hk0]
              have hkk1 : (kd == 1) = true := by simp [hk1]
              clear hk0 hk1
              go_wp2_with fail
              refine (num_any _ nn hv.rd).mono ?_
              rintro e wa ⟨rfl, ra, ga⟩
              obtain ⟨Ab, cb, bk, mb, hcb, ba⟩ := hv.read HFIX.out ga
              have hca := HC.out wa ba
              have x0 := bk.cell 0
              have x1 := bk.cell 1
              simp at x0 x1
              go_wp2_with fail
              have hlen := hv.len
              simp only at hlen
              go_region_with (first | (go_at_call 13; refine (renum_any _ nn q Ab _ cb bd rs rfl hcb (by omega) (by exact mb)).mono ?_; rintro e w4 ⟨A4, c4, rfl, m4, h4, b4⟩; have bk4 : Blk w4 gw 28 #[.slice Ab rs.length cb, .bool bd] := bk.keep (b4.block gw (by exact bk.lt)); have x2 := bk4.cell 0; have x3 := bk4.cell 1; have y2 := bk4.frozen 0; have y3 := bk4.frozen 1; simp at x2 x3))
              all_goals
                have hstl := rNum_len (bd, rs) nn
                have b4' : Below wa.heap.size wa w4 := ⟨b4.os, b4.tape, b4.output, b4.size, b4.block⟩
                have hinv := Inv.stored HFIX.out ra ba b4' bk m4 h4 (Nat.le_trans hstl hlen)
                have hzz5 : gw + 1 ≤ ((w4.setCell ⟨gw, 0, none⟩ (.slice A4 (rNum (bd, rs) nn).1.2.length c4)).setCell ⟨gw, 1, none⟩ (.bool (rNum (bd, rs) nn).1.1)).heap.size := by
                  have := ga.size
                  have := b4'.size
                  simp
                  omega
                clear x0 x1 x2 x3 y2 y3 bk4 bk m4 h4 b4 b4' ra ba ga hca hc0 hc1 hv mb
                generalize ((w4.setCell ⟨gw, 0, none⟩ (.slice A4 (rNum (bd, rs) nn).1.2.length c4)).setCell ⟨gw, 1, none⟩ (.bool (rNum (bd, rs) nn).1.1)) = w5 at *
                generalize (rNum (bd, rs) nn).2 = xv at *
                generalize (rNum (bd, rs) nn).1 = st1 at *
                obtain ⟨bd1, rs1⟩ := st1
                simp only at hinv hstl
                obtain ⟨Ax, cx, bkx, mx, hcx⟩ := hinv.box
                have x0 := bkx.cell 0
                have x1 := bkx.cell 1
                simp at x0 x1
                have hrd := hinv.rd
                simp only at hrd
                have HINV := Lib.hid hinv
                have HRD := Lib.hid hrd
                clear hinv hrd mx bkx
                cases bd1 with
                | true =>
                  go_wp2_with fail
                  go_quiet (first | (go_at_call 16; exact quiet_draw (same_yes _ 0 0 none none 0 0 0 0 [] rfl rfl (by simp) (Mem.nil_ _ _ _) (Mem.nil_ _ _ _))) | (go_at_call 17; exact quiet_eq (bad_any _ (HRD.out.drewN _))) | (go_at_call 18; exact quiet_eq (left_any _ (HRD.out.drewN _))) | (go_at_call 19; exact quiet_eq (done_any _ (HRD.out.drewN _))))
                  go_wp2_with fail
                  have hv2 := HINV.out.below (below_drewN (Below.refl _ _) nq)
                  have hzm : gw + 1 ≤ (w5.drewN nq).heap.size := hzz5
                  refine wp_loop_rounds 1 ?_
                  rw [rounds_succ]
                  go_wp2
                  go_roundw
                  case rel => exact ⟨j + 1, (true, rs1), by omega, by go_num, hv2, hzm⟩
                  case measure => simp [intOf]; omega
                | false =>
                  cases rs1 with
                  | nil =>
                    go_wp2_with fail
                    go_quiet (first | (go_at_call 16; exact quiet_draw (same_yes _ 0 0 none none 0 0 0 0 [] rfl rfl (by simp) (Mem.nil_ _ _ _) (Mem.nil_ _ _ _))) | (go_at_call 17; exact quiet_eq (bad_any _ (HRD.out.drewN _))) | (go_at_call 18; exact quiet_eq (left_any _ (HRD.out.drewN _))) | (go_at_call 19; exact quiet_eq (done_any _ (HRD.out.drewN _))))
                    go_wp2_with fail
                    have hv2 := HINV.out.below (below_drewN (Below.refl _ _) nq)
                    have hzm : gw + 1 ≤ (w5.drewN nq).heap.size := hzz5
                    refine wp_loop_rounds 1 ?_
                    rw [rounds_succ]
                    go_wp2
                    go_roundw
                    case rel => exact ⟨j + 1, (false, []), by omega, by go_num, hv2, hzm⟩
                    case measure => simp [intOf]; omega
                  | cons b0 r0 =>
                    have hz0 : (((r0.length : Int) + 1) == 0) = false := by simp; omega
                    go_wp2_with fail
                    go_quiet (first | (go_at_call 16; exact quiet_draw (same_yes _ 0 0 none none 0 0 0 0 [] rfl rfl (by simp) (Mem.nil_ _ _ _) (Mem.nil_ _ _ _))) | (go_at_call 17; exact quiet_eq (bad_any _ (HRD.out.drewN _))) | (go_at_call 18; exact quiet_eq (left_any _ (HRD.out.drewN _))) | (go_at_call 19; exact quiet_eq (done_any _ (HRD.out.drewN _))))
                    go_wp2_with fail
                    have hv2 := HINV.out.below (below_drewN (Below.refl _ _) nq)
                    have hzm : gw + 1 ≤ (w5.drewN nq).heap.size := hzz5
                    refine wp_loop_rounds 1 ?_
                    rw [rounds_succ]
                    go_wp2
                    go_roundw
                    case rel => exact ⟨j + 1, (false, b0 :: r0), by omega, by go_num, hv2, hzm⟩
                    case measure => simp [intOf]; omega
            · have hkk : (kd == 0) = false := by simp [hk0]
              have hkk1 : (kd == 1) = false := by simp [hk1]
              clear hk0 hk1
              go_wp2_with fail
              refine (str_any _ nn hv.rd).mono ?_
              rintro e wa ⟨va, rfl, oa, ra, ga⟩
              obtain ⟨Ab, cb, bk, mb, hcb, ba⟩ := hv.read HFIX.out ga
              have hca := HC.out wa ba
              have x0 := bk.cell 0
              have x1 := bk.cell 1
              simp at x0 x1
              go_wp2_with fail
              have hlen := hv.len
              simp only at hlen
              go_region_with (first | (go_at_call 15; refine (restr_any _ nn q Ab _ cb bd rs rfl hcb (by omega) (by exact mb)).mono ?_; rintro e w4 ⟨A4, c4, v4, rfl, m4, h4, o4, b4⟩; have bk4 : Blk w4 gw 28 #[.slice Ab rs.length cb, .bool bd] := bk.keep (b4.block gw (by exact bk.lt)); have x2 := bk4.cell 0; have x3 := bk4.cell 1; have y2 := bk4.frozen 0; have y3 := bk4.frozen 1; simp at x2 x3))
              all_goals
                have hstl := rStr_len (bd, rs) nn
                have houtl := rStr_out (bd, rs) nn
                have b4' : Below wa.heap.size wa w4 := ⟨b4.os, b4.tape, b4.output, b4.size, b4.block⟩
                have hinv := Inv.stored HFIX.out ra ba b4' bk m4 h4 (Nat.le_trans hstl hlen)
                have oa5 : Own ((w4.setCell ⟨gw, 0, none⟩ (.slice A4 (rStr (bd, rs) nn).1.2.length c4)).setCell ⟨gw, 1, none⟩ (.bool (rStr (bd, rs) nn).1.1)) wr.heap.size va (rStr (bd, rs) nn).2 :=
                  ((oa.below b4').setCell (p := ⟨gw, 0, none⟩) (by simp; omega) _).setCell (p := ⟨gw, 1, none⟩) (by simp; omega) _
                have o45 : Own ((w4.setCell ⟨gw, 0, none⟩ (.slice A4 (rStr (bd, rs) nn).1.2.length c4)).setCell ⟨gw, 1, none⟩ (.bool (rStr (bd, rs) nn).1.1)) wr.heap.size v4 (rStr (bd, rs) nn).2 :=
                  ((o4.mono ga.size).setCell (p := ⟨gw, 0, none⟩) (by simp; omega) _).setCell (p := ⟨gw, 1, none⟩) (by simp; omega) _
                have hzz5 : gw + 1 ≤ ((w4.setCell ⟨gw, 0, none⟩ (.slice A4 (rStr (bd, rs) nn).1.2.length c4)).setCell ⟨gw, 1, none⟩ (.bool (rStr (bd, rs) nn).1.1)).heap.size := by
                  have := ga.size
                  have := b4'.size
                  simp
                  omega
                clear x0 x1 x2 x3 y2 y3 bk4 bk m4 h4 b4 b4' o4 oa ra ba ga hca hc0 hc1 hv mb
                generalize ((w4.setCell ⟨gw, 0, none⟩ (.slice A4 (rStr (bd, rs) nn).1.2.length c4)).setCell ⟨gw, 1, none⟩ (.bool (rStr (bd, rs) nn).1.1)) = w5 at *
                generalize (rStr (bd, rs) nn).2 = out at *
                generalize (rStr (bd, rs) nn).1 = st1 at *
                obtain ⟨bd1, rs1⟩ := st1
                simp only at hinv hstl houtl
                obtain ⟨Ag, qg, cg, rfl, hjg⟩ := own_junk oa5
                obtain ⟨Aw2, qw2, cw2, rfl, _⟩ := o45.form
                obtain ⟨_, ig, mg⟩ := oa5.mem
                obtain ⟨_, ih, mh⟩ := o45.mem
                clear oa5 o45
                obtain ⟨Ax, cx, bkx, mx, hcx⟩ := hinv.box
                have x0 := bkx.cell 0
                have x1 := bkx.cell 1
                simp at x0 x1
                have hrd := hinv.rd
                simp only at hrd
                have HINV := Lib.hid hinv
                have HRD := Lib.hid hrd
                have HMG := Lib.hid mg
                have HMH := Lib.hid mh
                have HJG := Lib.hid hjg
                clear hinv hrd mg mh hjg mx bkx
                cases bd1 with
                | true =>
                  go_wp2_with fail
                  go_quiet (first | (go_at_call 16; exact quiet_draw (same_yes _ ig ih Ag Aw2 _ _ cg cw2 out (by simp) (by simp) (by omega) (HMG.out.drewN _) (HMH.out.drewN _))) | (go_at_call 17; exact quiet_eq (bad_any _ (HRD.out.drewN _))) | (go_at_call 18; exact quiet_eq (left_any _ (HRD.out.drewN _))) | (go_at_call 19; exact quiet_eq (done_any _ (HRD.out.drewN _))))
                  go_wp2_with fail
                  go_loopw [14] (fun y W => ∃ m : Nat, m ≤ out.length ∧ y = .int .i64 m ∧ Inv w W g qr gw q l (true, rs1) ∧ (out = [] ∨ Junk W qg out.length) ∧ gw + 1 ≤ W.heap.size) (fun y _ => out.length - (intOf y).toNat)
                  case atStart => exact ⟨0, Nat.zero_le _, rfl, HINV.out.below (below_drewN (Below.refl _ _) nq), HJG.out.imp id (fun h => h.2.2.2), hzz5⟩
                  case round =>
                    obtain ⟨m, hm, rfl, hv, hjk, hzm⟩ := hrel
                    by_cases hlm : m < out.length
                    · have hne : out ≠ [] := fun h => by rw [h] at hlm; simp at hlm
                      obtain ⟨hA, hw, _⟩ := HJG.out.resolve_left hne
                      have hjk' := hjk.resolve_left hne
                      subst hA
                      obtain ⟨x, hx, hf⟩ := hjk'.at_ hlm
                      have hFX := HFIX.out
                      have hsteps : ∀ y : Int, Inv w (wr.setCell ⟨qg, m, none⟩ (.int .u8 y)) g qr gw q l (true, rs1) ∧ Junk (wr.setCell ⟨qg, m, none⟩ (.int .u8 y)) qg out.length :=
                        fun y => ⟨hv.write hFX (p := ⟨qg, m, none⟩) (by have := hFX.hgw; simp; omega) (by have := hFX.hig; simp; omega) (by simp; omega) (hFX.hq.imp id (fun h => by simp; omega)) _, hjk'.put y⟩
                      have HS := Lib.hid hsteps
                      clear hsteps hv hjk hjk' hne hFX
                      go_wp2
                      go_roundw
                      case rel => exact ⟨m + 1, by omega, by go_num, (HS.out _).1, .inr (HS.out _).2, by simpa using hzm⟩
                      case measure => simp [intOf]; omega
                    · clear hjk
                      go_wp2
                      go_roundw
                      case rel => exact ⟨j + 1, (true, rs1), by omega, by go_num, hv, hzm⟩
                      case measure => simp [intOf]; omega
                | false =>
                  cases rs1 with
                  | nil =>
                    go_wp2_with fail
                    go_quiet (first | (go_at_call 16; exact quiet_draw (same_yes _ ig ih Ag Aw2 _ _ cg cw2 out (by simp) (by simp) (by omega) (HMG.out.drewN _) (HMH.out.drewN _))) | (go_at_call 17; exact quiet_eq (bad_any _ (HRD.out.drewN _))) | (go_at_call 18; exact quiet_eq (left_any _ (HRD.out.drewN _))) | (go_at_call 19; exact quiet_eq (done_any _ (HRD.out.drewN _))))
                    go_wp2_with fail
                    go_loopw [14] (fun y W => ∃ m : Nat, m ≤ out.length ∧ y = .int .i64 m ∧ Inv w W g qr gw q l (false, []) ∧ (out = [] ∨ Junk W qg out.length) ∧ gw + 1 ≤ W.heap.size) (fun y _ => out.length - (intOf y).toNat)
                    case atStart => exact ⟨0, Nat.zero_le _, rfl, HINV.out.below (below_drewN (Below.refl _ _) nq), HJG.out.imp id (fun h => h.2.2.2), hzz5⟩
                    case round =>
                      obtain ⟨m, hm, rfl, hv, hjk, hzm⟩ := hrel
                      by_cases hlm : m < out.length
                      · have hne : out ≠ [] := fun h => by rw [h] at hlm; simp at hlm
                        obtain ⟨hA, hw, _⟩ := HJG.out.resolve_left hne
                        have hjk' := hjk.resolve_left hne
                        subst hA
                        obtain ⟨x, hx, hf⟩ := hjk'.at_ hlm
                        have hFX := HFIX.out
                        have hsteps : ∀ y : Int, Inv w (wr.setCell ⟨qg, m, none⟩ (.int .u8 y)) g qr gw q l (false, []) ∧ Junk (wr.setCell ⟨qg, m, none⟩ (.int .u8 y)) qg out.length :=
                          fun y => ⟨hv.write hFX (p := ⟨qg, m, none⟩) (by have := hFX.hgw; simp; omega) (by have := hFX.hig; simp; omega) (by simp; omega) (hFX.hq.imp id (fun h => by simp; omega)) _, hjk'.put y⟩
                        have HS := Lib.hid hsteps
                        clear hsteps hv hjk hjk' hne hFX
                        go_wp2
                        go_roundw
                        case rel => exact ⟨m + 1, by omega, by go_num, (HS.out _).1, .inr (HS.out _).2, by simpa using hzm⟩
                        case measure => simp [intOf]; omega
                      · clear hjk
                        go_wp2
                        go_roundw
                        case rel => exact ⟨j + 1, (false, []), by omega, by go_num, hv, hzm⟩
                        case measure => simp [intOf]; omega
                  | cons b0 r0 =>
                    have hz0 : (((r0.length : Int) + 1) == 0) = false := by simp; omega
                    go_wp2_with fail
                    go_quiet (first | (go_at_call 16; exact quiet_draw (same_yes _ ig ih Ag Aw2 _ _ cg cw2 out (by simp) (by simp) (by omega) (HMG.out.drewN _) (HMH.out.drewN _))) | (go_at_call 17; exact quiet_eq (bad_any _ (HRD.out.drewN _))) | (go_at_call 18; exact quiet_eq (left_any _ (HRD.out.drewN _))) | (go_at_call 19; exact quiet_eq (done_any _ (HRD.out.drewN _))))
                    go_wp2_with fail
                    go_loopw [14] (fun y W => ∃ m : Nat, m ≤ out.length ∧ y = .int .i64 m ∧ Inv w W g qr gw q l (false, b0 :: r0) ∧ (out = [] ∨ Junk W qg out.length) ∧ gw + 1 ≤ W.heap.size) (fun y _ => out.length - (intOf y).toNat)
                    case atStart => exact ⟨0, Nat.zero_le _, rfl, HINV.out.below (below_drewN (Below.refl _ _) nq), HJG.out.imp id (fun h => h.2.2.2), hzz5⟩
                    case round =>
                      obtain ⟨m, hm, rfl, hv, hjk, hzm⟩ := hrel
                      by_cases hlm : m < out.length
                      · have hne : out ≠ [] := fun h => by rw [h] at hlm; simp at hlm
                        obtain ⟨hA, hw, _⟩ := HJG.out.resolve_left hne
                        have hjk' := hjk.resolve_left hne
                        subst hA
                        obtain ⟨x, hx, hf⟩ := hjk'.at_ hlm
                        have hFX := HFIX.out
                        have hsteps : ∀ y : Int, Inv w (wr.setCell ⟨qg, m, none⟩ (.int .u8 y)) g qr gw q l (false, b0 :: r0) ∧ Junk (wr.setCell ⟨qg, m, none⟩ (.int .u8 y)) qg out.length :=
                          fun y => ⟨hv.write hFX (p := ⟨qg, m, none⟩) (by have := hFX.hgw; simp; omega) (by have := hFX.hig; simp; omega) (by simp; omega) (hFX.hq.imp id (fun h => by simp; omega)) _, hjk'.put y⟩
                        have HS := Lib.hid hsteps
                        clear hsteps hv hjk hjk' hne hFX
                        go_wp2
                        go_roundw
                        case rel => exact ⟨m + 1, by omega, by go_num, (HS.out _).1, .inr (HS.out _).2, by simpa using hzm⟩
                        case measure => simp [intOf]; omega
                      · clear hjk
                        go_wp2
                        go_roundw
                        case rel => exact ⟨j + 1, (false, b0 :: r0), by omega, by go_num, hv, hzm⟩
                        case measure => simp [intOf]; omega
        · go_wp2_with fail
          go_ret
          exact ⟨rfl, hv.bel⟩

set_option maxRecDepth 100000 in
theorem walk_out (w : World) (A Ao : Option Addr) (len c lo co : Nat) (h : 300 < len ∨ 100 < lo) :
    Calls Try.prog 3 #[.slice A len c, .slice Ao lo co] w fun e w' => e = .returned (.bool true) ∧ Below w.heap.size w w' := by
  by_cases c1 : (300 : Int) < (len : Int)
  · go_enter Try.func3, Try.ntmps3
    go_wp2_with fail
    refine (awake_any _).mono ?_
    rintro e w1 ⟨rfl, b1⟩
    go_wp2_with fail
    refine (awake_any _).mono ?_
    rintro e w2 ⟨rfl, b2⟩
    go_wp2_with fail
    go_ret
    exact ⟨rfl, b1.trans (b2.mono b1.size)⟩
  have d1 : decide ((300 : Int) < (len : Int)) = false := by simpa using c1
  have c2 : (100 : Int) < (lo : Int) := by omega
  clear c1 h
  go_enter Try.func3, Try.ntmps3
  go_wp2_with fail
  refine (awake_any _).mono ?_
  rintro e w1 ⟨rfl, b1⟩
  go_wp2_with fail
  refine (awake_any _).mono ?_
  rintro e w2 ⟨rfl, b2⟩
  go_wp2_with fail
  go_ret
  exact ⟨rfl, b1.trans (b2.mono b1.size)⟩

theorem walk_all (w : World) (q : Nat) (A : Option Addr) (c : Nat) (l : List UInt8) (qo : Nat) (Ao : Option Addr) (co : Nat) (L : List (Int × Int)) (hc : l.length ≤ c) (hm : Mem w q A l) (ho : MemOp w qo Ao L) :
    Calls Try.prog 3 #[.slice A l.length c, .slice Ao L.length co] w fun e w' => e = .returned (.bool true) ∧ Below w.heap.size w w' := by
  by_cases h : 300 < l.length ∨ 100 < L.length
  · exact walk_out w A Ao _ c _ co h
  · exact walk w q A c l qo Ao co L hc hm ho (by omega) (by omega)

set_option maxRecDepth 100000 in
theorem lifted (os : Os) (started : os.Started) (H : Type) (enc : TypeId × Value → H) :
    ReturnsInHanded {} Try.checked os 3 .any (Rows.wireMatchesReferenceSpec.pre6 enc Try.prog Try.f3 Rows.wireMatchesReferenceRow.domain false) (Rows.wireMatchesReferenceSpec.post enc Try.prog Try.f3 false true false false) := by
  refine returnsInHanded_of_change (C := Try.checked) own_knob started (by kernel_rfl) Try.func3
    (ChangeSpec.witness6 (enc := enc) (C := Try.checked) false ⟨#[], #[.slice none 0 0, .slice none 0 0], []⟩ 8 (by kernel_rfl) (by kernel_rfl) (by kernel_rfl) (by kernel_rfl)) ?_
  intro W base args ds gs before hval0 hW hcnd _
  have hval : ∀ (j : Nat) t v, Try.f3.params[j]? = some t → args[j]? = some v → Value.okWide Try.prog W .any base t v := hval0
  have hW' := hW
  obtain ⟨p, q, hA0, hV, rfl, hfz, hnd⟩ := hW
  have hA : DataW.TrodAll enc Try.prog W 0 (fun _ => true) true Try.f3.params.toList args.toList ds p := hA0
  rw [Try.params3] at hA hval
  obtain ⟨v0, v1, d0, d1, p0, p1, rfl, rfl, rfl, h0, h1⟩ := trodAll_two hA
  obtain ⟨rfl, rfl⟩ := trodVars_none hV
  obtain ⟨A, qq, c, l, rfl, hc, hcm, hm⟩ := open_bytes (hval 0 22 v0 rfl rfl) h0
  obtain ⟨Ao, qo, co, L, rfl, ho⟩ := open_ops (hval 1 23 v1 rfl rfl) h1
  clear hA0 hval0
  refine (walk_all W qq A c l qo Ao co L hc hm ho).mono fun e W' ⟨he, bel⟩ => ?_
  subst he
  exact ⟨_, rfl, _, _, _, [], _, [], hW', trodAll_mk1 (shut_bool Try.underlying4 _), trodAll_mk2 (keep_arg (by kernel_rfl) (of_decide_eq_true (by kernel_rfl)) h0 bel) (keep_arg (by kernel_rfl) (of_decide_eq_true (by kernel_rfl)) h1 bel), rfl, bel.frame _, fun h => by cases h⟩

theorem over : Rows.wireMatchesReferenceRow.holds Try.pinned (OpenSpec.ofChange Rows.wireMatchesReferenceSpec) :=
  OpenClaim.holds_of_wide 3 Try.f3 rfl rfl rfl rfl rfl rfl rfl ⟨rfl, rfl, rfl, rfl, rfl⟩ rfl rfl rfl rfl rfl (by kernel_rfl) Try.func3 (by kernel_rfl)
    (of_decide_eq_true (by kernel_rfl)) (by unfold Func.isWrapper; first | (rw [if_pos (by decide +kernel)]; kernel_rfl) | (rw [if_neg (by decide +kernel)]; exact ⟨rfl, rfl⟩))
    (fun os started H enc _ => lifted os started H enc)

/-- The statement. -/
theorem proved : Rows.WireMatchesReferenceSaid := over
#print axioms proved
end Go.Proofs.Ytocllhenifgkhaa.wireMatch
