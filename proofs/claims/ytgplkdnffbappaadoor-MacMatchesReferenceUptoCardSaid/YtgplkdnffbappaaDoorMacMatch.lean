/-
  The code of any bytes, in any parts, under any key, is that of the reference: the law MacMatchesReference returns true for every input whose bulk is within the given bound (the second form): beyond it 20 parts of nearly 2^47 bytes each cannot be joined by any machine.
-/
import Derived.Test.YtgplkdnffbappaaDoorMacAwk
import Derived.Test.YtgplkdnffbappaaDoorMacRef
import Derived.Test.YtgplkdnffbappaaDoorHOpen
import Derived.Test.YtgplkdnffbappaaDoorOpenB
import Derived.Test.YtgplkdnffbappaaDoorJoin
import Derived.Test.YtgplkdnffbappaaDoorEqArr
import Derived.Deep.DeepHandedRow
namespace Go.Proofs.YtgplkdnffbappaaDoor.macMatchesReference
open Go.ChangeShapes Go.WideShapes Go.ChangeAt Go.RowKit
set_option linter.unusedVariables false
set_option linter.unusedSimpArgs false

set_option maxHeartbeats 4000000 in
theorem walk_out1 (w : World) (q1 q2 : Nat) (A1 A2 : Option Addr) (c1 c2 : Nat) (k : List UInt8) (L : List (List UInt8)) (hK : KAt w) (m1 : Mem w q1 A1 k) (hc : k.length ≤ c1) (m2 : MemM w q2 A2 L) (hs : (L.map List.length).sum ≤ 1048576) (h : 300 < k.length) :
    Calls Tryd.prog 3 #[.slice A1 k.length c1, .slice A2 L.length c2] w fun e w' => e = .returned (.bool true) ∧ Below w.heap.size w w' := by
  have HK := kept hK
  have hd1 : decide ((300 : Int) < (k.length : Int)) = true := by rw [decide_eq_true_eq]; omega
  clear hK h hs
  go_enter Tryd.func3, Tryd.ntmps3
  go_wp2_with fail
  refine (mawake_any _ HK.out).mono ?_
  rintro e w1 ⟨rfl, b1⟩
  go_wp2_with fail
  refine (mawake_any _ (HK.out.below0 b1)).mono ?_
  rintro e w2 ⟨rfl, b2⟩
  have h2 := b1.trans (b2.mono b1.size)
  clear b1 b2
  go_wp2_with fail
  go_ret
  exact ⟨rfl, h2⟩
set_option maxHeartbeats 4000000 in
theorem walk_out2 (w : World) (q1 q2 : Nat) (A1 A2 : Option Addr) (c1 c2 : Nat) (k : List UInt8) (L : List (List UInt8)) (hK : KAt w) (m1 : Mem w q1 A1 k) (hc : k.length ≤ c1) (m2 : MemM w q2 A2 L) (hs : (L.map List.length).sum ≤ 1048576) (h : k.length ≤ 300 ∧ 20 < L.length) :
    Calls Tryd.prog 3 #[.slice A1 k.length c1, .slice A2 L.length c2] w fun e w' => e = .returned (.bool true) ∧ Below w.heap.size w w' := by
  have HK := kept hK
  have hd1 : decide ((300 : Int) < (k.length : Int)) = false := by rw [decide_eq_false_iff_not]; omega
  have hd2 : decide ((20 : Int) < (L.length : Int)) = true := by rw [decide_eq_true_eq]; omega
  clear hK h hs
  go_enter Tryd.func3, Tryd.ntmps3
  go_wp2_with fail
  refine (mawake_any _ HK.out).mono ?_
  rintro e w1 ⟨rfl, b1⟩
  go_wp2_with fail
  refine (mawake_any _ (HK.out.below0 b1)).mono ?_
  rintro e w2 ⟨rfl, b2⟩
  have h2 := b1.trans (b2.mono b1.size)
  clear b1 b2
  go_wp2_with fail
  go_ret
  exact ⟨rfl, h2⟩
set_option maxHeartbeats 8000000 in
theorem walk_in (w : World) (q1 q2 : Nat) (A1 A2 : Option Addr) (c1 c2 : Nat) (k : List UInt8) (L : List (List UInt8)) (hK : KAt w) (m1 : Mem w q1 A1 k) (hc : k.length ≤ c1) (m2 : MemM w q2 A2 L) (hs : (L.map List.length).sum ≤ 1048576) (h : k.length ≤ 300 ∧ L.length ≤ 20) :
    Calls Tryd.prog 3 #[.slice A1 k.length c1, .slice A2 L.length c2] w fun e w' => e = .returned (.bool true) ∧ Below w.heap.size w w' := by
  have HK := kept hK
  have hd1 : decide ((300 : Int) < (k.length : Int)) = false := by rw [decide_eq_false_iff_not]; omega
  have hd2 : decide ((20 : Int) < (L.length : Int)) = false := by rw [decide_eq_false_iff_not]; omega
  have HM1 := kept m1
  have HM2 := kept m2
  have HJ := kept (fun w' hm' => rejoin_any w' q2 A2 L.length c2 L rfl hm' (by omega) (by omega))
  have HMS := kept (fun w' hk' (a : Mem w' q1 A1 k) (b : MemM w' q2 A2 L) => msum_any w' q1 q2 A1 A2 k.length L.length c1 c2 k L hk' rfl a hc (by omega) rfl b (by omega) (by omega))
  have hfl := flatten_len L
  obtain ⟨F, hF⟩ : ∃ F, L.flatten = F := ⟨_, rfl⟩
  rw [hF] at HJ HMS hfl
  have hFb : F.length ≤ 1048576 := by omega
  have HR := kept (fun w' q' A' c' (a : Mem w' q1 A1 k) (b : Mem w' q' A' F) => rmac_any w' q1 q' A1 A' k.length F.length c1 c' k F rfl a (by omega) rfl b (by omega))
  have hml := hmac_len k F
  obtain ⟨D, hD⟩ : ∃ D, hmac k F = D := ⟨_, rfl⟩
  rw [hD] at HMS HR hml
  have HDL := kept hml
  clear hK m1 m2 hfl h hs hF hD hml hc
  go_enter Tryd.func3, Tryd.ntmps3
  go_wp2_with fail
  refine (mawake_any _ HK.out).mono ?_
  rintro e w1 ⟨rfl, b1⟩
  go_wp2_with fail
  refine (HJ.out w1 (HM2.out.below0 b1)).mono ?_
  rintro e w2 ⟨v2, rfl, o2, b2⟩
  have h2 := b1.trans (b2.mono b1.size)
  obtain ⟨A3, q3, c3, rfl, hc3, _, m3, _⟩ := o2.form
  clear o2 b2 b1 hc3
  have H2 := kept h2
  have M3 := kept m3
  clear h2 m3
  by_cases hlen : 1000 < F.length
  · have hd3 : decide ((1000 : Int) < (F.length : Int)) = true := by rw [decide_eq_true_eq]; omega
    clear hlen
    go_wp2_with fail
    go_ret
    exact ⟨rfl, H2.out⟩
  · have hd3 : decide ((1000 : Int) < (F.length : Int)) = false := by rw [decide_eq_false_iff_not]; omega
    have hg26 : Tryd.prog.eqGuardType Tryd.prog.depth 26 = false := by kernel_rfl
    have heq : ∀ w', (binOp .eql 26 (.agg (D.map bv).toArray) (.agg (D.map bv).toArray)).run Tryd.prog w' = .ok (.bool true) w' := run_eql_arr_same _ _ 32 Tryd.underlying26 .u8 Tryd.underlying5 u8_size (D.map bv).toArray .u8 (fun i => ((D.getD i 0).toNat : Int)) (fun i hi => by rw [gA_list, HDL.out, gA_at _ _ hi]; rfl)
    clear hlen
    go_wp2_with fail
    refine (HMS.out w2 (HK.out.below0 H2.out) (HM1.out.below0 H2.out) (HM2.out.below0 H2.out)).mono ?_
    rintro e w3 ⟨rfl, b3⟩
    have H3 := kept (H2.out.trans (b3.mono H2.out.size))
    have M4 := kept (M3.out.below0 b3)
    clear b3
    go_wp2_with fail
    refine (HR.out w3 _ _ _ (HM1.out.below0 H3.out) M4.out).mono ?_
    rintro e w4 ⟨rfl, b4⟩
    have H4 := kept (H3.out.trans (b4.mono H3.out.size))
    clear b4
    go_wp2_with fail
    go_ret
    exact ⟨rfl, H4.out⟩
theorem walk (w : World) (q1 q2 : Nat) (A1 A2 : Option Addr) (c1 c2 : Nat) (k : List UInt8) (L : List (List UInt8)) (hK : KAt w) (m1 : Mem w q1 A1 k) (hc : k.length ≤ c1) (m2 : MemM w q2 A2 L) (hs : (L.map List.length).sum ≤ 1048576) :
    Calls Tryd.prog 3 #[.slice A1 k.length c1, .slice A2 L.length c2] w fun e w' => e = .returned (.bool true) ∧ Below w.heap.size w w' := by
  by_cases h1 : 300 < k.length
  · exact walk_out1 w q1 q2 A1 A2 c1 c2 k L hK m1 hc m2 hs h1
  · by_cases h2 : 20 < L.length
    · exact walk_out2 w q1 q2 A1 A2 c1 c2 k L hK m1 hc m2 hs ⟨by omega, h2⟩
    · exact walk_in w q1 q2 A1 A2 c1 c2 k L hK m1 hc m2 hs ⟨by omega, by omega⟩
theorem reads (os : Os) {H : Type} (enc : TypeId × Value → H) : ∃ places, DataW.whole enc Tryd.prog ((laidWorld os).forCall (fun _ _ => 0) ⟨#[], #[.slice none 0 0, .slice none 0 0], []⟩).memory Tryd.f3.params.toList Rows.macMatchesReferenceSpec.vars false #[Value.slice none 0 0, Value.slice none 0 0].toList 8 = some ([.nil, .nil], [], places) :=
  ⟨[], by kernel_rfl⟩
set_option maxRecDepth 100000 in
theorem liftedUpto (os : Os) (started : os.Started) (H : Type) (enc : TypeId × Value → H) (F : Stop.Interp) :
    ReturnsInHanded {} Tryd.checked os 3 .any ((Rows.OpenSpec.upto Rows.macMatchesReferenceSpec).preRow enc Tryd.prog Tryd.f3 Rows.macMatchesReferenceUptoRow.domain false Rows.macMatchesReferenceUptoRow.laid) (((Rows.OpenSpec.upto Rows.macMatchesReferenceSpec).at F).post enc Tryd.prog Tryd.f3 false true false false) := by
  obtain ⟨places, hx⟩ := reads os enc
  refine returnsInHanded_of_row (C := Tryd.checked) (s := Rows.OpenSpec.upto Rows.macMatchesReferenceSpec) own_knob started (by kernel_rfl) Tryd.func3
    (witness_row_at (enc := enc) (C := Tryd.checked) false (laidWorld os) #[.slice none 0 0, .slice none 0 0] rfl (by kernel_rfl) (by kernel_rfl) (by kernel_rfl)
      (OpenSpec.preRow_of_cond 8 hx (by kernel_rfl) (fun k hk => by cases hk; kernel_rfl) (by kernel_rfl) (laidWorld_met os _))) ?_
  intro W base args ds gs before hval0 hW _ hcond _ hL _ _
  have hval : ∀ (j : Nat) t v, Tryd.f3.params[j]? = some t → args[j]? = some v → Value.okWide Tryd.prog W .any base t v := hval0
  have hb : Rows.uptoBulkAll (ds ++ gs) ≤ 1048576 := of_decide_eq_true (hcond _ rfl)
  have hW' := hW
  obtain ⟨p, q, hA0, hV, rfl, hfz, hnd⟩ := hW
  have hA : DataW.TrodAll enc Tryd.prog W 0 (fun _ => true) true Tryd.f3.params.toList args.toList ds p := hA0
  rw [Tryd.params3] at hA hval
  obtain ⟨v0, v1, d0, d1, p0, p1, rfl, rfl, rfl, h0, h1⟩ := trodAll_two hA
  obtain ⟨rfl, rfl⟩ := trodVars_none hV
  have hvl0 := hval 0 22 v0 rfl rfl
  have hvl1 := hval 1 23 v1 rfl rfl
  obtain ⟨A0, q0, c0, k, rfl, hc0, hmx0, hm0⟩ := open_bytes hvl0 h0
  obtain ⟨A1, q1, c1, L, rfl, hc1, hm1, hs1⟩ := open_rows hvl1 h1
  have hsum : (L.map List.length).sum ≤ 1048576 := by
    simp only [List.append_nil, Rows.uptoBulkAll] at hb
    omega
  clear hA0 hval0
  refine (walk W q0 q1 A0 A1 c0 c1 k L (ka_of_laid hL) hm0 hc0 hm1 hsum).mono fun e W' ⟨he, bel⟩ => ?_
  subst he
  exact ⟨_, rfl, _, _, _, [], _, [], hW', trodAll_mk1 (shut_bool Tryd.underlying4 _), trodAll_mk2 (keep_arg (by kernel_rfl) (of_decide_eq_true (by kernel_rfl)) h0 bel) (keep_arg (by kernel_rfl) (of_decide_eq_true (by kernel_rfl)) h1 bel), rfl, bel.frame _, fun h => by cases h⟩
theorem saidUpto : Rows.MacMatchesReferenceUptoSaid :=
  OpenClaim.holds_of_cond 3 Tryd.f3 rfl rfl rfl rfl rfl rfl rfl ⟨rfl, rfl, rfl, rfl, rfl⟩ rfl rfl rfl rfl rfl (by kernel_rfl) Tryd.func3 (by kernel_rfl)
    (of_decide_eq_true (by kernel_rfl)) (by unfold Func.isWrapper; first | (rw [if_pos (by decide +kernel)]; kernel_rfl) | (rw [if_neg (by decide +kernel)]; exact ⟨rfl, rfl⟩))
    (fun os started H enc _ F => by rw [OpenClaim.pre_eq_preRow]; exact liftedUpto os started H enc F)
/-- The second form's card. -/
theorem proved : Rows.MacMatchesReferenceUptoCardSaid :=
  Claim7.holds_tied_plain_at .later [] _ _ _ _ saidUpto (fun _ h => by cases h) (by kernel_rfl) (fun _ h => by cases h) macMatchesReferenceUpto_row_tie rfl ⟨rfl, rfl⟩ (by kernel_rfl) rfl
    (fun f fn hf hfn => by
      obtain rfl : f = 3 := Option.some.inj ((show Tryd.prog.funcNamed "toll/tolllaw05.MacMatchesReference" = some 3 by kernel_rfl).symm.trans hf) |>.symm
      obtain rfl : fn = Tryd.f3 := (Option.some.inj (Tryd.func3.symm.trans hfn)).symm
      exact ⟨by kernel_rfl, fun j t ht => by
        rw [Tryd.params3] at ht
        have hm : t ∈ [22, 23] := by simpa using Array.mem_of_getElem? ht
        have hall : ([22, 23].all fun u => !Tryd.prog.wantsStandIn u) = true := by kernel_rfl
        exact (show Tryd.prog.wantsStandIn t = false by simpa using List.all_eq_true.1 hall t hm)⟩)
    (by kernel_rfl)
#print axioms proved
end Go.Proofs.YtgplkdnffbappaaDoor.macMatchesReference
