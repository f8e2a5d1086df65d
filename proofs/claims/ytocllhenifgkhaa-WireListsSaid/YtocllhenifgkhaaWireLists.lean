/-
  Joined strings are read one after the other: the law WireLists returns true for every input, and leaves its argument as it was. No condition.
-/
import Derived.Test.YtocllhenifgkhaaLists
import Derived.Deep.RegionWith
namespace Go.Proofs.Ytocllhenifgkhaa.wireLists
open Go.ChangeShapes Go.WideShapes Go.ChangeAt Go.RowKit
set_option linter.unusedVariables false

/-- A string with a length of two bytes. -/
def pk (b : List UInt8) : List UInt8 := (rPutS 2 b).1
theorem pk_eq {b : List UInt8} (h : b.length ≤ 300) : rPutS 2 b = (pk b, true) ∧ pk b = beBytes 2 b.length ++ b := by
  have h1 : rPut 2 b.length = (beBytes 2 b.length, true) := by unfold rPut; rw [if_pos ⟨by omega, by omega, by simp; omega⟩]; rfl
  unfold pk rPutS
  rw [h1]
  exact ⟨rfl, rfl⟩
theorem pk_len {b : List UInt8} (h : b.length ≤ 300) : (pk b).length ≤ 302 := by
  rw [(pk_eq h).2, List.length_append, beBytes_len]
  omega
theorem pk_read {b : List UInt8} (h : b.length ≤ 300) (t : List UInt8) : rStr (false, pk b ++ t) 2 = ((false, t), b) := by
  have e2 := (pk_eq h).2
  have hl := beBytes_len 2 b.length
  have hp : b.length < 256 ^ 2 := by
    have : (256 : Nat) ^ 2 = 65536 := by decide
    omega
  have e : rTake (false, pk b ++ t) 2 = ((false, b ++ t), beBytes 2 b.length) := by
    rw [e2]
    unfold rTake
    rw [if_pos ⟨rfl, by omega, by simp only [List.length_append]; omega⟩]
    have e0 : (2 : Int).toNat = 2 := rfl
    simp only [e0, List.append_assoc]
    rw [List.drop_append_of_le_length (by omega), List.drop_of_length_le (by omega), List.take_append_of_le_length (by omega), List.take_of_length_le (by omega), List.nil_append]
  have en : rNum (false, pk b ++ t) 2 = ((false, b ++ t), b.length) := by
    unfold rNum
    rw [if_pos ⟨by omega, by omega⟩, e, beNum_beBytes, Nat.mod_eq_of_lt hp]
  unfold rStr
  rw [en]
  simp only
  rw [if_pos ⟨trivial, by simp⟩]
  unfold rTake
  rw [if_pos ⟨rfl, by omega, by simp only [List.length_append]; omega⟩]
  simp
theorem sum_small (L : List (List UInt8)) (h : ∀ l ∈ L, l.length ≤ 302) : (L.map List.length).sum ≤ 302 * L.length := by
  induction L with
  | nil => simp
  | cons a r ih =>
    have h1 := h a (by simp)
    have h2 := ih fun l hl => h l (by simp [hl])
    simp only [List.map_cons, List.sum_cons, List.length_cons]
    omega

theorem rd_drew {w : World} {g q : Nat} {bad : Bool} {l : List UInt8} (h : Rd w g q bad l) : Rd w.drew g q bad l := ⟨h.blk, h.ne, h.len⟩
/-- What is left to read after j strings. -/
def rest (L : List (List UInt8)) (j : Nat) : List UInt8 := ((L.drop j).map pk).flatten
theorem rest_step (L : List (List UInt8)) (j : Nat) (h : j < L.length) : rest L j = pk (L[j]'h) ++ rest L (j + 1) := by
  unfold rest
  rw [List.drop_eq_getElem_cons h, List.map_cons, List.flatten_cons]
theorem rest_end (L : List (List UInt8)) (j : Nat) (h : L.length ≤ j) : rest L j = [] := by
  unfold rest
  rw [List.drop_of_length_le h]
  rfl

set_option maxHeartbeats 1000000 in
theorem walk (w : World) (q : Nat) (A : Option Addr) (c : Nat) (L : List (List UInt8)) (hm : MemM w q A L) (hl : L.length ≤ 50) :
    Calls Try.prog 5 #[.slice A L.length c] w fun e w' => e = .returned (.bool true) ∧ Below w.heap.size w w' := by
  have HM := Lib.hid hm
  have d1 : decide ((50 : Int) < (L.length : Int)) = false := by simp; omega
  have hp := ptr_not_nil
  obtain ⟨i1, hi1, hz1, hs1, hb1⟩ := info_parts sl_info
  go_enter Try.func5, Try.ntmps5
  go_wp2_with fail
  refine (awake_any _).mono ?_
  rintro e w1 ⟨rfl, b1⟩
  go_wp2_with fail
  go_loopw [3, 4] (fun v i wr => ∃ j : Nat, j ≤ L.length ∧ i = .int .i64 j ∧ (∀ l ∈ L.take j, l.length ≤ 300) ∧ OwnM wr w.heap.size v ((L.take j).map pk) ∧ Below w.heap.size w wr) (fun _ i _ => L.length - (intOf i).toNat)
  case atStart => exact ⟨0, Nat.zero_le _, rfl, by simp, by simpa using OwnM.nil_ _ _, b1⟩
  case round =>
    obtain ⟨j, hj, rfl, hsm, hown, hbw⟩ := hrel
    by_cases hlt : j < L.length
    · obtain ⟨o, A', q', c', rfl, hc, hmj⟩ := (HM.out.below0 hbw).at_ hlt
      have hts : L.take (j + 1) = L.take j ++ [L[j]'hlt] := List.take_succ_eq_append_getElem hlt
      generalize hlj : (L[j]'hlt) = lj at *
      have hms : (L.take (j + 1)).map pk = (L.take j).map pk ++ [pk lj] := by rw [hts, List.map_append, List.map_singleton]
      generalize (L.take j).map pk = M at *
      have HMS := Lib.hid hms
      have HTS := Lib.hid hts
      have HLJ := Lib.hid hlj
      have HSM := Lib.hid hsm
      clear hts hlj hsm hm hms
      by_cases hbig : (300 : Int) < (lj.length : Int)
      · go_wp2_with fail
        go_ret
        exact ⟨rfl, hbw⟩
      · have hlj3 : lj.length ≤ 300 := by omega
        have dbig : decide ((300 : Int) < (lj.length : Int)) = false := by simpa using hbig
        clear hbig
        obtain ⟨A0, q0, c0, rfl, _⟩ := hown.form
        go_wp2_with fail
        refine (reputs_any _ 2 q' A' _ c' lj rfl hmj (by omega)).mono ?_
        rw [(pk_eq hlj3).1]
        rintro e w2 ⟨vs, rfl, os, b2⟩
        replace hown := hown.below b2
        replace b2 := hbw.trans (b2.mono hbw.size)
        replace os := os.mono hbw.size
        obtain ⟨As, qs, cs, rfl, _, _, _, _⟩ := os.form
        have b2' := b2.alloc b2.size (.cells #[.slice As (pk lj).length cs] 22)
        have os' : Own (w2.alloc (.cells #[.slice As (pk lj).length cs] 22)) w.heap.size (.slice As (pk lj).length cs) (pk lj) := os.alloc _
        obtain ⟨xs, r1, r2⟩ := hown.below ((Below.refl _ _).alloc (Nat.le_refl _) (.cells #[.slice As (pk lj).length cs] 22))
        have hnew : ∀ (i : Nat) u, [Value.slice As (pk lj).length cs][i]? = some u → (w2.alloc (.cells #[.slice As (pk lj).length cs] 22)).cell? ((⟨w2.heap.size, 0, none⟩ : Addr).add i) = some u := by
          intro i u hu
          match i, hu with
          | 0, hu =>
            simp at hu
            subst hu
            exact (Blk.new w2 22 #[.slice As (pk lj).length cs]).cell 0
        have hML : M.length ≤ 51 := by
          have := congrArg List.length HMS.out
          simp only [List.length_map, List.length_take, List.length_append, List.length_singleton] at this
          omega
        have HN := Lib.hid hnew
        have HR2 := Lib.hid r2
        clear hnew r2 hown os b2
        go_wp2_with (first | (at_builtin; refine wpList_append_own _ rfl _ _ 46 rfl w.heap.size 22 i1 (.slice none 0 0) 1 24 Try.underlying46 hi1 hz1 hs1 hb1 rfl (by decide) _ _ _ rfl r1 ⟨w2.heap.size, 0, none⟩ 1 1 [.slice As (pk lj).length cs] rfl rfl HN.out (by simp [Value.oneCell']) (by unfold maxLen; omega) (by omega) b2'.size ?_; intro v3 w3 hown3 hg3 _))
        have hown4 : OwnM w3 w.heap.size v3 (M ++ [pk lj]) := OwnM.snoc r1 HR2.out os' hown3 hg3
        have b3 : Below w.heap.size w w3 := b2'.grown hg3 b2'.size (fun k hk => (World.ownsRow.lt r1 k hk).1)
        go_roundw
        case rel => exact ⟨j + 1, by omega, by go_num, fun l hl => by rw [HTS.out, List.mem_append, List.mem_singleton] at hl; exact hl.elim (HSM.out l) (fun e => e ▸ hlj3), by rw [HMS.out]; exact hown4, b3⟩
        case measure => simp [intOf]; omega
    · have ej : L.take j = L := List.take_of_length_le (by omega)
      rw [ej] at hsm hown
      have hsum := sum_small (L.map pk) (fun l hl => by
        obtain ⟨b, hb, rfl⟩ := List.mem_map.1 hl
        exact pk_len (hsm b hb))
      rw [List.length_map] at hsum
      obtain ⟨A0, q0, c0, rfl, hmm⟩ := hown.form
      rw [List.length_map] at hown ⊢
      have HOWN := Lib.hid hown
      have HSM := Lib.hid hsm
      have HSUM := Lib.hid hsum
      obtain ⟨F, hF⟩ : ∃ F, F = (L.map pk).flatten := ⟨_, rfl⟩
      have hFl : F.length ≤ 15100 := by rw [hF, flatten_len]; omega
      have hF0 : F = rest L 0 := by rw [hF]; rfl
      have HF := Lib.hid hF
      have HF0 := Lib.hid hF0
      clear hown hsm hsum ej hF hF0
      go_wp2_with fail
      refine (join_any _ q0 A0 _ c0 (L.map pk) (by simp) hmm (by simp; omega) (by have := HSUM.out; omega)).mono ?_
      rintro e w2 ⟨va, rfl, oa, b2⟩
      rw [← HF.out] at oa
      have hmm2 := hmm.below0 b2
      replace b2 := hbw.trans (b2.mono hbw.size)
      replace oa := oa.mono hbw.size
      obtain ⟨Aa, qa, ca, rfl, _, _, _, _⟩ := oa.form
      obtain ⟨_, ia, ma⟩ := oa.mem
      clear oa hmm hbw b1
      go_wp2_with fail
      refine (new_any _ ia Aa _ ca F rfl ma (by omega)).mono ?_
      rintro e w3 ⟨g, qr, rfl, r3, hg, hg', _, b3⟩
      have hmm3 := hmm2.below0 b3
      replace ma := ma.below0 b3
      have hwg : w.heap.size ≤ g := Nat.le_trans b2.size hg
      replace b3 := b2.trans (b3.mono b2.size)
      clear hmm2 b2 hg
      go_wp2_with fail
      refine (rejoin_any _ q0 A0 _ c0 (L.map pk) (by simp) hmm3 (by simp; omega) (by have := HSUM.out; omega)).mono ?_
      rintro e w4 ⟨vj, rfl, oj, b4⟩
      rw [← HF.out] at oj
      replace ma := ma.below0 b4
      replace r3 := r3.below b4
      replace b4 := b3.trans (b4.mono b3.size)
      obtain ⟨Aj, qj, cj, rfl, _, _, _, _⟩ := oj.form
      obtain ⟨_, ij, mj⟩ := oj.mem
      clear oj hmm3 b3
      go_wp2_with fail
      refine (same_b _ ia ij Aa Aj _ _ ca cj F rfl rfl (by omega) ma mj).mono ?_
      rintro e w5 ⟨rfl, b5⟩
      replace r3 := r3.below b5
      replace b5 := b4.trans (b5.mono b4.size)
      clear b4 ma mj
      go_wp2_with fail
      go_loopw [9] (fun i wr => ∃ j : Nat, j ≤ L.length ∧ i = .int .i64 j ∧ Rd wr g qr false (rest L j) ∧ Below w.heap.size w wr) (fun i _ => L.length - (intOf i).toNat)
      case atStart => exact ⟨0, Nat.zero_le _, rfl, by rw [← HF0.out]; exact r3, b5⟩
      case round =>
        obtain ⟨j, hj, rfl, hr, hbw⟩ := hrel
        by_cases hlt : j < L.length
        · have hl3 : (L[j]'hlt).length ≤ 300 := HSM.out _ (List.getElem_mem hlt)
          have hst := rest_step L j hlt
          have hrd := pk_read hl3 (rest L (j + 1))
          rw [← hst] at hrd
          have hstr := fun W (h : Rd W g qr false (rest L j)) => str_any W 2 h
          rw [hrd] at hstr
          obtain ⟨o, A', q', c', rfl, hc0, hm0⟩ := HM.out.at_ hlt
          have hqlt : q < w.heap.size := World.block_lt_of_cell? w _ hc0
          generalize hlj : (L[j]'hlt) = lj at *
          have hcell : ∀ W, Below w.heap.size w W → W.cell? ⟨q, o + j, none⟩ = some (.slice A' lj.length c') := fun W hb => (hb.cell (p := ⟨q, o + j, none⟩) hqlt).trans hc0
          have hc := hcell wr hbw
          have HLJ := Lib.hid hlj
          have HST := Lib.hid hst
          have HSTR := Lib.hid hstr
          have HC := Lib.hid hcell
          have HM0 := Lib.hid hm0
          have hi0 : (0 : Int) ≤ (j : Int) := by omega
          have hi1 : (j : Int) < (L.length : Int) := by omega
          clear hst hrd hstr hlj hm hcell hm0 hc0
          go_wp2_with fail
          go_region_with (first | (go_at_call 14; refine (HSTR.out _ (by first | exact hr | exact rd_drew hr)).mono ?_; rintro e w6 ⟨v6, rfl, o6, r6, g6⟩; obtain ⟨A6, q6, c6, rfl, _, _, m6, _⟩ := o6.form; have B6 : Below w.heap.size w w6 := (by first | exact hbw.grown g6 hbw.size (fun k hk => by injection hk; omega) | exact hbw.drew.grown g6 hbw.size (fun k hk => by injection hk; omega)); have hc6 := HC.out w6 B6) | (go_at_call 16; refine (same_b _ q6 q' A6 A' _ _ c6 c' lj (by simp) (by simp) (by omega) m6 (HM0.out.below0 B6)).mono ?_; rintro e w7 ⟨rfl, b7⟩))
          all_goals
            have B7 : Below w.heap.size w w7 := B6.trans (b7.mono B6.size)
            have r7 := r6.below b7
            clear b7 r6 B6
            go_wp2
            go_roundw
            case rel => exact ⟨j + 1, by omega, by go_num, r7, B7⟩
            case measure => simp [intOf]; omega
        · rw [rest_end L j (by omega)] at hr
          go_wp2_with fail
          refine (done_any _ hr).mono ?_
          rintro e w6 ⟨rfl, rfl⟩
          go_wp2_with fail
          go_ret
          exact ⟨rfl, hbw⟩

theorem walk_out (w : World) (A : Option Addr) (len c : Nat) (h : 50 < len) :
    Calls Try.prog 5 #[.slice A len c] w fun e w' => e = .returned (.bool true) ∧ Below w.heap.size w w' := by
  have c1 : (50 : Int) < (len : Int) := by omega
  go_enter Try.func5, Try.ntmps5
  go_wp2_with fail
  refine (awake_any _).mono ?_
  rintro e w1 ⟨rfl, b1⟩
  go_wp2_with fail
  refine (awake_any _).mono ?_
  rintro e w2 ⟨rfl, b2⟩
  go_wp2_with fail
  go_ret
  exact ⟨rfl, b1.trans (b2.mono b1.size)⟩

theorem walk_all (w : World) (q : Nat) (A : Option Addr) (c : Nat) (L : List (List UInt8)) (hm : MemM w q A L) :
    Calls Try.prog 5 #[.slice A L.length c] w fun e w' => e = .returned (.bool true) ∧ Below w.heap.size w w' := by
  by_cases h : 50 < L.length
  · exact walk_out w A _ c h
  · exact walk w q A c L hm (by omega)

set_option maxRecDepth 100000 in
theorem lifted (os : Os) (started : os.Started) (H : Type) (enc : TypeId × Value → H) :
    ReturnsInHanded {} Try.checked os 5 .any (Rows.wireListsSpec.pre6 enc Try.prog Try.f5 Rows.wireListsRow.domain false) (Rows.wireListsSpec.post enc Try.prog Try.f5 false true false false) := by
  refine returnsInHanded_of_change (C := Try.checked) own_knob started (by kernel_rfl) Try.func5
    (ChangeSpec.witness6 (enc := enc) (C := Try.checked) false ⟨#[], #[.slice none 0 0], []⟩ 8 (by kernel_rfl) (by kernel_rfl) (by kernel_rfl) (by kernel_rfl)) ?_
  intro W base args ds gs before hval0 hW hcnd _
  have hval : ∀ (j : Nat) t v, Try.f5.params[j]? = some t → args[j]? = some v → Value.okWide Try.prog W .any base t v := hval0
  have hW' := hW
  obtain ⟨p, q, hA0, hV, rfl, hfz, hnd⟩ := hW
  have hA : DataW.TrodAll enc Try.prog W 0 (fun _ => true) true Try.f5.params.toList args.toList ds p := hA0
  rw [Try.params5] at hA hval
  obtain ⟨v0, d0, rfl, rfl, h0⟩ := trodAll_one hA
  obtain ⟨rfl, rfl⟩ := trodVars_none hV
  obtain ⟨A, qq, c, L, rfl, hm⟩ := open_rows (hval 0 46 v0 rfl rfl) h0
  clear hA0 hval0
  refine (walk_all W qq A c L hm).mono fun e W' ⟨he, bel⟩ => ?_
  subst he
  exact ⟨_, rfl, _, _, _, [], _, [], hW', trodAll_mk1 (shut_bool Try.underlying4 _), trodAll_mk1 (keep_arg (by kernel_rfl) (of_decide_eq_true (by kernel_rfl)) h0 bel), rfl, bel.frame _, fun h => by cases h⟩

theorem over : Rows.wireListsRow.holds Try.pinned (OpenSpec.ofChange Rows.wireListsSpec) :=
  OpenClaim.holds_of_wide 5 Try.f5 rfl rfl rfl rfl rfl rfl rfl ⟨rfl, rfl, rfl, rfl, rfl⟩ rfl rfl rfl rfl rfl (by kernel_rfl) Try.func5 (by kernel_rfl)
    (of_decide_eq_true (by kernel_rfl)) (by unfold Func.isWrapper; first | (rw [if_pos (by decide +kernel)]; kernel_rfl) | (rw [if_neg (by decide +kernel)]; exact ⟨rfl, rfl⟩))
    (fun os started H enc _ => lifted os started H enc)

/-- The statement. -/
theorem proved : Rows.WireListsSaid := over
#print axioms proved
end Go.Proofs.Ytocllhenifgkhaa.wireLists
