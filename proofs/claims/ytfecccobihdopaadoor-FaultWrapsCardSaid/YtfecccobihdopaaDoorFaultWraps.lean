/-
  What errors.Unwrap gives of a wrapped error has the text of what was wrapped, and errors.Is finds its code and no other: the law FaultWraps returns true for every input, whatever the library's table of powers of ten holds. No condition.
-/
import Derived.Test.YtfecccobihdopaaDoorCodeText
import Derived.Test.YtfecccobihdopaaDoorIs
import Derived.Test.YtfecccobihdopaaDoorBuild
import Derived.Test.YtfecccobihdopaaDoorFOpen
import Derived.Test.YtfecccobihdopaaDoorWOpen
import Derived.Test.YtfecccobihdopaaDoorCards
import Derived.Test.YtfecccobihdopaaDoorTie
namespace Go.Proofs.YtfecccobihdopaaDoor.faultWraps
open Go.ChangeShapes Go.WideShapes Go.ChangeAt Go.RowKit
set_option linter.unusedVariables false

theorem desc_cells {w : World} {g : Nat} {v0 v1 v2 v3 v4 : Value} (h : Blk w g 24 #[v0, v1, v2, v3, v4]) :
    w.cell? ⟨g, 0, none⟩ = some v0 ∧ w.cell? ⟨g, 1, none⟩ = some v1 ∧ w.cell? ⟨g, 2, none⟩ = some v2 ∧ w.cell? ⟨g, 3, none⟩ = some v3 ∧ w.cell? ⟨g, 4, none⟩ = some v4 := by
  have h0 := h.cell 0
  have h1 := h.cell 1
  have h2 := h.cell 2
  have h3 := h.cell 3
  have h4 := h.cell 4
  simp only [List.getElem?_toArray, List.getElem?_cons_zero, List.getElem?_cons_succ] at h0 h1 h2 h3 h4
  exact ⟨h0, h1, h2, h3, h4⟩
theorem text_base (t : ByteArray) (c p : Int) (f : Bool) : textOf t (base c p f) = t := by cases f <;> rfl
theorem text_part (t s : ByteArray) (e : Err) : (textOf t (.part s e)).size = s.size + 2 + (textOf t e).size := by
  show ((s ++ ⟨#[58, 32]⟩) ++ textOf t e).size = _
  rw [ByteArray.size_append', ByteArray.size_append']
  rfl
theorem text_wrap (t : ByteArray) (l : List ByteArray) (h : ∀ s ∈ l, s.size ≤ 50) (e : Err) : (textOf t (wrap l e)).size ≤ (textOf t e).size + 52 * l.length := by
  unfold wrap
  induction l generalizing e with
  | nil => simp
  | cons s r ih =>
    have h1 := ih (fun x hx => h x (by simp [hx])) (.part s e)
    have h2 := h s (by simp)
    rw [text_part] at h1
    rw [List.foldl_cons, List.length_cons]
    omega

theorem walk_out (w : World) (nil f : Bool) (q : Nat) (A : Option Addr) (c : Nat) (code place : Int) (l : List ByteArray) (p : ByteArray) (hc : l.length ≤ c) (hcm : c ≤ maxLen) (hps : p.size ≤ maxLen) (hm : MemS w q A l) (hg : EtAt w) (hn : NmAt w)
    (h : fewB l = false ∨ nil = true ∨ 50 < p.size) :
    Calls Tryd.prog 3 #[descV nil A l.length c code place f, .string p] w fun e w' => e = .returned (.bool true) ∧ Below w.heap.size w w' := by
  unfold maxLen at hps
  have hb0 := (Below.refl w.heap.size w).alloc (Nat.le_refl _) (descC nil A l.length c code place f)
  have hk0 := Blk.new w 24 #[.bool nil, .slice A l.length c, .int .i64 code, .int .i64 place, .bool f]
  have H0 := Lib.hid hb0
  have K0 := Lib.hid hk0
  have M0 := Lib.hid (hm.alloc (descC nil A l.length c code place f))
  have G0 := Lib.hid (hg.alloc (descC nil A l.length c code place f))
  have N0 := Lib.hid (hn.alloc (descC nil A l.length c code place f))
  have two : ∀ w1 w2 : World, Below (w.alloc (descC nil A l.length c code place f)).heap.size (w.alloc (descC nil A l.length c code place f)) w1 → Below w1.heap.size w1 w2 → Below w.heap.size w w2 := fun w1 w2 h1 h2 => (H0.out.trans (h1.mono H0.out.size)).trans (h2.mono (by have := H0.out.size; have := h1.size; omega))
  have TWO := Lib.hid two
  clear hb0 hk0 hm hg hn two
  cases hfew : fewB l with
  | false =>
    have HFEW := Lib.hid hfew
    clear hfew h
    go_enter Tryd.func3, Tryd.ntmps3
    go_wp2_with fail
    refine (awake_any _ G0.out N0.out).mono ?_
    rintro e w1 ⟨rfl, b1⟩
    have K1 := Lib.hid (K0.out.below b1 K0.out.lt)
    have M1 := Lib.hid (M0.out.below0 b1)
    have G1 := Lib.hid (G0.out.below b1)
    have N1 := Lib.hid (N0.out.below b1)
    have B1 := Lib.hid b1
    clear b1
    obtain ⟨e10, e11, e12, e13, e14⟩ := desc_cells K1.out
    go_wp2_with fail
    refine (few_any _ _ f q A c code place l hc hcm M1.out).mono ?_
    rw [HFEW.out]
    rintro e w2 ⟨rfl, b2⟩
    have K2 := Lib.hid (K1.out.below b2 K1.out.lt)
    have G2 := Lib.hid (G1.out.below b2)
    have N2 := Lib.hid (N1.out.below b2)
    have B2 := Lib.hid (B1.out.trans (b2.mono B1.out.size))
    clear b2 e10 e11 e12 e13 e14
    obtain ⟨e20, e21, e22, e23, e24⟩ := desc_cells K2.out
    go_wp2_with fail
    refine (awake_any _ G2.out N2.out).mono ?_
    rintro e w3 ⟨rfl, b3⟩
    go_wp2_with fail
    go_ret
    exact ⟨rfl, TWO.out _ _ B2.out b3⟩
  | true =>
    have HFEW := Lib.hid hfew
    cases nil with
    | true =>
      clear hfew h
      go_enter Tryd.func3, Tryd.ntmps3
      go_wp2_with fail
      refine (awake_any _ G0.out N0.out).mono ?_
      rintro e w1 ⟨rfl, b1⟩
      have K1 := Lib.hid (K0.out.below b1 K0.out.lt)
      have M1 := Lib.hid (M0.out.below0 b1)
      have G1 := Lib.hid (G0.out.below b1)
      have N1 := Lib.hid (N0.out.below b1)
      have B1 := Lib.hid b1
      clear b1
      obtain ⟨e10, e11, e12, e13, e14⟩ := desc_cells K1.out
      go_wp2_with fail
      refine (few_any _ _ f q A c code place l hc hcm M1.out).mono ?_
      rw [HFEW.out]
      rintro e w2 ⟨rfl, b2⟩
      have K2 := Lib.hid (K1.out.below b2 K1.out.lt)
      have G2 := Lib.hid (G1.out.below b2)
      have N2 := Lib.hid (N1.out.below b2)
      have B2 := Lib.hid (B1.out.trans (b2.mono B1.out.size))
      clear b2 e10 e11 e12 e13 e14
      obtain ⟨e20, e21, e22, e23, e24⟩ := desc_cells K2.out
      go_wp2_with fail
      refine (awake_any _ G2.out N2.out).mono ?_
      rintro e w3 ⟨rfl, b3⟩
      go_wp2_with fail
      go_ret
      exact ⟨rfl, TWO.out _ _ B2.out b3⟩
    | false =>
      have hp50 : (50 : Int) < (p.size : Int) := by
        rcases h with h | h | h
        · rw [hfew] at h; cases h
        · cases h
        · omega
      clear hfew h
      go_enter Tryd.func3, Tryd.ntmps3
      go_wp2_with fail
      refine (awake_any _ G0.out N0.out).mono ?_
      rintro e w1 ⟨rfl, b1⟩
      have K1 := Lib.hid (K0.out.below b1 K0.out.lt)
      have M1 := Lib.hid (M0.out.below0 b1)
      have G1 := Lib.hid (G0.out.below b1)
      have N1 := Lib.hid (N0.out.below b1)
      have B1 := Lib.hid b1
      clear b1
      obtain ⟨e10, e11, e12, e13, e14⟩ := desc_cells K1.out
      go_wp2_with fail
      refine (few_any _ _ f q A c code place l hc hcm M1.out).mono ?_
      rw [HFEW.out]
      rintro e w2 ⟨rfl, b2⟩
      have K2 := Lib.hid (K1.out.below b2 K1.out.lt)
      have G2 := Lib.hid (G1.out.below b2)
      have N2 := Lib.hid (N1.out.below b2)
      have B2 := Lib.hid (B1.out.trans (b2.mono B1.out.size))
      clear b2 e10 e11 e12 e13 e14
      obtain ⟨e20, e21, e22, e23, e24⟩ := desc_cells K2.out
      go_wp2_with fail
      refine (awake_any _ G2.out N2.out).mono ?_
      rintro e w3 ⟨rfl, b3⟩
      go_wp2_with fail
      go_ret
      exact ⟨rfl, TWO.out _ _ B2.out b3⟩

set_option maxHeartbeats 4000000 in
theorem walk (w : World) (T : Nat → Int) (f : Bool) (q : Nat) (A : Option Addr) (c : Nat) (code place : Int) (l : List ByteArray) (p : ByteArray) (hc : l.length ≤ c) (hcm : c ≤ maxLen) (hm : MemS w q A l) (hg : EtAt w) (hn : NmAt w) (htab : TabAt T w)
    (hc0 : -9223372036854775808 ≤ code) (hc1 : code ≤ 9223372036854775807) (hfew : fewB l = true) (hp50 : p.size ≤ 50) :
    Calls Tryd.prog 3 #[descV false A l.length c code place f, .string p] w fun e w' => e = .returned (.bool true) ∧ Below w.heap.size w w' := by
  obtain ⟨t, ht27, hct⟩ := code_text T code hc0 hc1
  have hfew' : (∀ s ∈ l, s.size ≤ 50) ∧ l.length ≤ 20 := of_decide_eq_true hfew
  have hsz : (textOf t (wrap l (base code place f))).size ≤ 1000000 := by
    have := text_wrap t l hfew'.1 (base code place f)
    rw [text_base] at this
    omega
  have hcode : (wrap l (base code place f)).codeOf = code := by rw [wrap_code, base_code]
  have hb0 := (Below.refl w.heap.size w).alloc (Nat.le_refl _) (descC false A l.length c code place f)
  have hk0 := Blk.new w 24 #[.bool false, .slice A l.length c, .int .i64 code, .int .i64 place, .bool f]
  have H0 := Lib.hid hb0
  have K0 := Lib.hid hk0
  have M0 := Lib.hid (hm.alloc (descC false A l.length c code place f))
  have G0 := Lib.hid (hg.alloc (descC false A l.length c code place f))
  have N0 := Lib.hid (hn.alloc (descC false A l.length c code place f))
  have T0 := Lib.hid (htab.below hb0)
  have HFEW := Lib.hid hfew
  have HSZ := Lib.hid hsz
  have HCODE := Lib.hid hcode
  have HCT := Lib.hid hct
  have hcw := Lib.hid (show (code == wrap64 (code + 1)) = false by
    have : ¬ code = wrap64 (code + 1) := by unfold wrap64; omega
    simpa using this)
  clear hb0 hk0 hm hg hn htab hfew hfew' hsz hcode hct ht27
  go_enter Tryd.func3, Tryd.ntmps3
  go_wp2_with fail
  refine (awake_any _ G0.out N0.out).mono ?_
  rintro e w1 ⟨rfl, b1⟩
  have K1 := Lib.hid (K0.out.below b1 K0.out.lt)
  have M1 := Lib.hid (M0.out.below0 b1)
  have T1 := Lib.hid (T0.out.below b1)
  have H1 := Lib.hid (H0.out.trans (b1.mono H0.out.size))
  clear b1 K0 M0 T0 H0 G0 N0
  obtain ⟨e10, e11, e12, e13, e14⟩ := desc_cells K1.out
  go_wp2_with fail
  refine (few_any _ false f q A c code place l hc hcm M1.out).mono ?_
  rw [HFEW.out]
  rintro e w2 ⟨rfl, b2⟩
  have K2 := Lib.hid (K1.out.below b2 K1.out.lt)
  have M2 := Lib.hid (M1.out.below0 b2)
  have T2 := Lib.hid (T1.out.below b2)
  have H2 := Lib.hid (H1.out.trans (b2.mono H1.out.size))
  clear b2 K1 M1 T1 H1 e10 e11 e12 e13 e14
  obtain ⟨e20, e21, e22, e23, e24⟩ := desc_cells K2.out
  go_wp2_with fail
  refine (build_any _ f q A c code place l hc hcm M2.out).mono ?_
  rintro e w3 ⟨⟨v, rfl, hv⟩, b3⟩
  have K3 := Lib.hid (K2.out.below b3 K2.out.lt)
  have T3 := Lib.hid (T2.out.below b3)
  have H3 := Lib.hid (H2.out.trans (b3.mono H2.out.size))
  clear b3 K2 M2 T2 H2 e20 e21 e22 e23 e24 HFEW
  have HER : ∃ er, wrap l (base code place f) = er := ⟨_, rfl⟩
  obtain ⟨er, her⟩ := HER
  rw [her] at hv
  have hsz := HSZ.out
  have hcode := HCODE.out
  rw [her] at hsz hcode
  clear her HSZ HCODE
  have HSZ := Lib.hid hsz
  have HCODE := Lib.hid hcode
  clear hsz hcode
  have HV := Lib.hid hv
  obtain ⟨tv, xv, rfl⟩ := hv.iface
  clear hv
  go_wp2_with fail
  refine (in_part p er _ _ HV.out).mono ?_
  rintro e w4 ⟨b, rfl, ha, b4⟩
  have K4 := Lib.hid (K3.out.below b4 K3.out.lt)
  have T4 := Lib.hid (T3.out.below b4)
  have H4 := Lib.hid (H3.out.trans (b4.mono H3.out.size))
  have HV4 := Lib.hid (HV.out.below b4)
  have HA := Lib.hid ha
  clear b4 K3 T3 H3 HV ha
  go_wp2_with fail
  refine (unwrap_any p er _ _ HA.out).mono ?_
  rintro e w5 ⟨⟨u, rfl, hu⟩, rfl⟩
  have HU := Lib.hid hu
  have hv := HV4.out
  clear HV4
  have HVX := Lib.hid hv
  obtain ⟨e40, e41, e42, e43, e44⟩ := desc_cells K4.out
  have mC := @methodErrC
  have mF := methodErrF
  have mP := methodErrP
  cases er with
  | code d =>
    unfold ErrAt at hu hv
    subst hu
    injection hv with hv1 hv2
    subst hv1
    subst hv2
    go_wp2_with fail
    refine (text_any HCT.out _ _ _ HCODE.out HSZ.out HU.out T4.out).mono ?_
    rintro e w6 ⟨rfl, b6⟩
    have K6 := Lib.hid (K4.out.below b6 K4.out.lt)
    have T6 := Lib.hid (T4.out.below b6)
    have H6 := Lib.hid (H4.out.trans (b6.mono H4.out.size))
    have A6 := Lib.hid (HA.out.below b6)
    have V6 := Lib.hid (HVX.out.below b6)
    clear b6 K4 T4 H4 HA HVX HU e40 e41 e42 e43 e44
    go_wp2_with fail
    refine (text_any HCT.out _ _ _ HCODE.out HSZ.out V6.out T6.out).mono ?_
    rintro e w7 ⟨rfl, b7⟩
    have K7 := Lib.hid (K6.out.below b7 K6.out.lt)
    have H7 := Lib.hid (H6.out.trans (b7.mono H6.out.size))
    have A7 := Lib.hid (A6.out.below b7)
    clear b7 K6 T6 H6 A6 V6
    obtain ⟨e70, e71, e72, e73, e74⟩ := desc_cells K7.out
    go_wp2_with fail
    refine (Is_any _ _ _ code A7.out).mono ?_
    rw [show ((Err.part p (.code d)).codeOf == code) = true from beq_iff_eq.2 HCODE.out]
    rintro e w8 ⟨rfl, b8⟩
    have K8 := Lib.hid (K7.out.below b8 K7.out.lt)
    have H8 := Lib.hid (H7.out.trans (b8.mono H7.out.size))
    have A8 := Lib.hid (A7.out.below b8)
    clear b8 K7 H7 A7 e70 e71 e72 e73 e74
    obtain ⟨e80, e81, e82, e83, e84⟩ := desc_cells K8.out
    go_wp2_with fail
    refine (Is_any _ _ _ (wrap64 (code + 1)) A8.out).mono ?_
    rw [show ((Err.part p (.code d)).codeOf == wrap64 (code + 1)) = false from (by rw [show (Err.part p (.code d)).codeOf = code from HCODE.out]; exact hcw.out)]
    rintro e w9 ⟨rfl, b9⟩
    go_wp2_with fail
    go_ret
    exact ⟨rfl, H8.out.trans (b9.mono H8.out.size)⟩
  | fault d a =>
    unfold ErrAt at hu hv
    subst hu
    injection hv with hv1 hv2
    subst hv1
    subst hv2
    go_wp2_with fail
    refine (text_any HCT.out _ _ _ HCODE.out HSZ.out HU.out T4.out).mono ?_
    rintro e w6 ⟨rfl, b6⟩
    have K6 := Lib.hid (K4.out.below b6 K4.out.lt)
    have T6 := Lib.hid (T4.out.below b6)
    have H6 := Lib.hid (H4.out.trans (b6.mono H4.out.size))
    have A6 := Lib.hid (HA.out.below b6)
    have V6 := Lib.hid (HVX.out.below b6)
    clear b6 K4 T4 H4 HA HVX HU e40 e41 e42 e43 e44
    go_wp2_with fail
    refine (text_any HCT.out _ _ _ HCODE.out HSZ.out V6.out T6.out).mono ?_
    rintro e w7 ⟨rfl, b7⟩
    have K7 := Lib.hid (K6.out.below b7 K6.out.lt)
    have H7 := Lib.hid (H6.out.trans (b7.mono H6.out.size))
    have A7 := Lib.hid (A6.out.below b7)
    clear b7 K6 T6 H6 A6 V6
    obtain ⟨e70, e71, e72, e73, e74⟩ := desc_cells K7.out
    go_wp2_with fail
    refine (Is_any _ _ _ code A7.out).mono ?_
    rw [show ((Err.part p (.fault d a)).codeOf == code) = true from beq_iff_eq.2 HCODE.out]
    rintro e w8 ⟨rfl, b8⟩
    have K8 := Lib.hid (K7.out.below b8 K7.out.lt)
    have H8 := Lib.hid (H7.out.trans (b8.mono H7.out.size))
    have A8 := Lib.hid (A7.out.below b8)
    clear b8 K7 H7 A7 e70 e71 e72 e73 e74
    obtain ⟨e80, e81, e82, e83, e84⟩ := desc_cells K8.out
    go_wp2_with fail
    refine (Is_any _ _ _ (wrap64 (code + 1)) A8.out).mono ?_
    rw [show ((Err.part p (.fault d a)).codeOf == wrap64 (code + 1)) = false from (by rw [show (Err.part p (.fault d a)).codeOf = code from HCODE.out]; exact hcw.out)]
    rintro e w9 ⟨rfl, b9⟩
    go_wp2_with fail
    go_ret
    exact ⟨rfl, H8.out.trans (b9.mono H8.out.size)⟩
  | part s e2 =>
    obtain ⟨g2, u2, rfl, _, _⟩ := hu
    obtain ⟨g3, u3, hv1, _, _⟩ := hv
    injection hv1 with hv1 hv2
    subst hv1
    subst hv2
    go_wp2_with fail
    refine (text_any HCT.out _ _ _ HCODE.out HSZ.out HU.out T4.out).mono ?_
    rintro e w6 ⟨rfl, b6⟩
    have K6 := Lib.hid (K4.out.below b6 K4.out.lt)
    have T6 := Lib.hid (T4.out.below b6)
    have H6 := Lib.hid (H4.out.trans (b6.mono H4.out.size))
    have A6 := Lib.hid (HA.out.below b6)
    have V6 := Lib.hid (HVX.out.below b6)
    clear b6 K4 T4 H4 HA HVX HU e40 e41 e42 e43 e44
    go_wp2_with fail
    refine (text_any HCT.out _ _ _ HCODE.out HSZ.out V6.out T6.out).mono ?_
    rintro e w7 ⟨rfl, b7⟩
    have K7 := Lib.hid (K6.out.below b7 K6.out.lt)
    have H7 := Lib.hid (H6.out.trans (b7.mono H6.out.size))
    have A7 := Lib.hid (A6.out.below b7)
    clear b7 K6 T6 H6 A6 V6
    obtain ⟨e70, e71, e72, e73, e74⟩ := desc_cells K7.out
    go_wp2_with fail
    refine (Is_any _ _ _ code A7.out).mono ?_
    rw [show ((Err.part p (.part s e2)).codeOf == code) = true from beq_iff_eq.2 HCODE.out]
    rintro e w8 ⟨rfl, b8⟩
    have K8 := Lib.hid (K7.out.below b8 K7.out.lt)
    have H8 := Lib.hid (H7.out.trans (b8.mono H7.out.size))
    have A8 := Lib.hid (A7.out.below b8)
    clear b8 K7 H7 A7 e70 e71 e72 e73 e74
    obtain ⟨e80, e81, e82, e83, e84⟩ := desc_cells K8.out
    go_wp2_with fail
    refine (Is_any _ _ _ (wrap64 (code + 1)) A8.out).mono ?_
    rw [show ((Err.part p (.part s e2)).codeOf == wrap64 (code + 1)) = false from (by rw [show (Err.part p (.part s e2)).codeOf = code from HCODE.out]; exact hcw.out)]
    rintro e w9 ⟨rfl, b9⟩
    go_wp2_with fail
    go_ret
    exact ⟨rfl, H8.out.trans (b9.mono H8.out.size)⟩
theorem walk_all (w : World) (T : Nat → Int) (nil f : Bool) (q : Nat) (A : Option Addr) (c : Nat) (code place : Int) (l : List ByteArray) (p : ByteArray) (hc : l.length ≤ c) (hcm : c ≤ maxLen) (hps : p.size ≤ maxLen) (hm : MemS w q A l) (hg : EtAt w) (hn : NmAt w) (htab : TabAt T w)
    (hc0 : -9223372036854775808 ≤ code) (hc1 : code ≤ 9223372036854775807) :
    Calls Tryd.prog 3 #[descV nil A l.length c code place f, .string p] w fun e w' => e = .returned (.bool true) ∧ Below w.heap.size w w' := by
  by_cases h : fewB l = false ∨ nil = true ∨ 50 < p.size
  · exact walk_out w nil f q A c code place l p hc hcm hps hm hg hn h
  · have h1 : fewB l = true := by
      cases hf : fewB l with
      | true => rfl
      | false => exact absurd (.inl hf) h
    have h2 : nil = false := by
      cases nil with
      | false => rfl
      | true => exact absurd (.inr (.inl rfl)) h
    subst h2
    exact walk w T f q A c code place l p hc hcm hm hg hn htab hc0 hc1 h1 (by omega)

set_option maxRecDepth 100000 in
theorem lifted (os : Os) (started : os.Started) (H : Type) (enc : TypeId × Value → H) :
    ReturnsInHanded {} Tryd.checked os 3 .any (fun w args => (Rows.faultWrapsSpec.pre enc Tryd.prog Tryd.f3 [] false w args ∧ laidMetH Tryd.prog laidL w) ∧ sizedMet enc Tryd.prog Tryd.f3 (OpenSpec.ofChange Rows.faultWrapsSpec) false w args)
      (Rows.faultWrapsSpec.post enc Tryd.prog Tryd.f3 false true false false) := by
  refine returnsInHanded_of_calls own_knob started (by kernel_rfl)
    (ChangeSpec.witness_at (enc := enc) (C := Tryd.checked) (os := os) (X := fun w _ => laidMetH Tryd.prog laidL w) false (laidWorld os) #[.agg #[.bool false, .slice none 0 0, .int .i64 0, .int .i64 0, .bool false], .string ⟨#[]⟩] 8 rfl (by kernel_rfl) (by kernel_rfl) (by kernel_rfl) (by kernel_rfl) (by kernel_rfl) (laidWorld_met os _)) ?_
  intro w tape inp _ hsh _ hok hpre _
  obtain ⟨_, _, _, fn', hfn', _, _, _, _, hval0⟩ := hok
  have efn : fn' = Tryd.f3 := Option.some.inj (hfn'.symm.trans Tryd.func3)
  subst efn
  obtain ⟨⟨⟨ds, gs, before, hw0, _⟩, hx⟩, _⟩ := hpre
  have hW := DataW.Whole.of_heap (w' := w.forCall tape inp) (by rfl) hw0
  have hL : laidMetH Tryd.prog laidL (w.forCall tape inp) := laidMetH.of_heap (by rfl) hx
  generalize w.forCall tape inp = W at hsh hval0 hW hL
  generalize inp.args = args at hval0 hW
  have hval : ∀ (j : Nat) t v, Tryd.f3.params[j]? = some t → args[j]? = some v → Value.okWide Tryd.prog W .any w.heap.size t v := hval0
  have hW' := hW
  obtain ⟨p, q, hA0, hV, rfl, hfz, hnd⟩ := hW
  have hA : DataW.TrodAll enc Tryd.prog W 0 (fun _ => true) true Tryd.f3.params.toList args.toList ds p := hA0
  rw [Tryd.params3] at hA hval
  obtain ⟨v0, v1, d0, d1, p0, p1, rfl, rfl, rfl, h0, h1⟩ := trodAll_two hA
  obtain ⟨rfl, rfl⟩ := trodVars_none hV
  obtain ⟨nil, f, qq, A, c, code, place, l, rfl, hc, hcm, hm, hb0, hb1⟩ := open_desc (hval 0 24 v0 rfl rfl) h0
  obtain ⟨s, rfl, rfl, rfl, hs⟩ := Go.ChangeMaps.open_string Tryd.underlying9 (hval 1 9 v1 rfl rfl) h1
  obtain ⟨T, hT⟩ := tab_of_shape hsh
  clear hA0 hval0
  refine (walk_all W T nil f A qq c code place l s hc hcm hs hm (et_of_laid hL) (nm_of_laid hL) hT hb0 hb1).mono fun e W' ⟨he, bel⟩ => ?_
  subst he
  refine ChangeSpec.post_blind (enc := enc) ⟨_, _, _, [], _, [], hW', trodAll_mk1 (shut_bool Tryd.underlying4 _), trodAll_mk2 (keep_arg (by kernel_rfl) (of_decide_eq_true (by kernel_rfl)) h0 bel) (Go.ChangeMaps.shut_string Tryd.underlying9 hs), rfl, bel.frame _, fun h => by cases h⟩

theorem over : Rows.faultWrapsRow.holds Tryd.pinned (OpenSpec.ofChange Rows.faultWrapsSpec) :=
  OpenClaim.holds_of_wide 3 Tryd.f3 rfl rfl rfl rfl rfl rfl rfl ⟨rfl, rfl, rfl, rfl, rfl⟩ rfl rfl rfl rfl rfl (by kernel_rfl) Tryd.func3 (by kernel_rfl)
    (of_decide_eq_true (by kernel_rfl)) (by unfold Func.isWrapper; first | (rw [if_pos (by decide +kernel)]; kernel_rfl) | (rw [if_neg (by decide +kernel)]; exact ⟨rfl, rfl⟩))
    (fun os started H enc _ => lifted os started H enc)

/-- The statement: the tied card. -/
theorem proved : Rows.FaultWrapsCardSaid :=
  Claim7.holds_tied_plain_at .later [] _ true _ true over (fun _ h => by cases h) (by kernel_rfl) (fun _ h => by cases h) faultWraps_row_tie rfl ⟨rfl, rfl⟩ (by kernel_rfl) rfl
    (fun f fn hf hfn => by
      obtain rfl : f = 3 := Option.some.inj ((show Tryd.prog.funcNamed "toll/tolllaw02.FaultWraps" = some 3 by kernel_rfl).symm.trans hf) |>.symm
      obtain rfl : fn = Tryd.f3 := (Option.some.inj (Tryd.func3.symm.trans hfn)).symm
      exact ⟨by kernel_rfl, fun j t ht => by
        rw [Tryd.params3] at ht
        have hm : t ∈ [24, 9] := by simpa using Array.mem_of_getElem? ht
        have hall : ([24, 9].all fun u => !Tryd.prog.wantsStandIn u) = true := by kernel_rfl
        exact (show Tryd.prog.wantsStandIn t = false by simpa using List.all_eq_true.1 hall t hm)⟩)
    (by kernel_rfl)
#print axioms proved
end Go.Proofs.YtfecccobihdopaaDoor.faultWraps
