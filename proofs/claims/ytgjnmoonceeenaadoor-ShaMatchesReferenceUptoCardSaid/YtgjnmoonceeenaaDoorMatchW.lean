/-
  The walk of the law ShaMatchesReference.
-/
import Derived.Test.YtgjnmoonceeenaaDoorShaRSum
import Derived.Test.YtgjnmoonceeenaaDoorJoin
import Derived.Test.YtgjnmoonceeenaaDoorHOpen
import Derived.Test.YtgjnmoonceeenaaDoorEqArr
namespace Go.Proofs.YtgjnmoonceeenaaDoor.shaMatchesReference
open Go.ChangeShapes Go.WideShapes Go.ChangeAt Go.RowKit
set_option linter.unusedVariables false
set_option linter.unusedSimpArgs false

set_option maxHeartbeats 4000000 in
theorem walk_out (w : World) (q : Nat) (A : Option Addr) (c : Nat) (L : List (List UInt8)) (hK : KAt w) (h20 : 20 < L.length) :
    Calls Tryd.prog 3 #[.slice A L.length c] w fun e w' => e = .returned (.bool true) ∧ Below w.heap.size w w' := by
  have HK := kept hK
  have hd : (20 : Int) < (L.length : Int) := by omega
  clear hK
  go_enter Tryd.func3, Tryd.ntmps3
  go_wp2_with fail
  refine (awake_any _ HK.out).mono ?_
  rintro e w1 ⟨rfl, b1⟩
  go_wp2_with fail
  refine (awake_any _ (HK.out.below0 b1)).mono ?_
  rintro e w2 ⟨rfl, b2⟩
  have h2 := b1.trans (b2.mono b1.size)
  clear b1 b2
  go_wp2_with fail
  go_ret
  exact ⟨rfl, h2⟩
set_option maxHeartbeats 4000000 in
theorem walk_in (w : World) (q : Nat) (A : Option Addr) (c : Nat) (L : List (List UInt8)) (hK : KAt w) (hm : MemM w q A L) (h20 : L.length ≤ 20) (hs : (L.map List.length).sum ≤ 1048576) :
    Calls Tryd.prog 3 #[.slice A L.length c] w fun e w' => e = .returned (.bool true) ∧ Below w.heap.size w w' := by
  have HK := kept hK
  have HM := kept hm
  have HJ := kept (fun w' hm' => rejoin_any w' q A L.length c L rfl hm' (by omega) (by omega))
  have HSU := kept (fun w' hk' hm' => ssum_any w' q A L.length c L hk' rfl hm' (by omega) (by omega))
  have hfl := flatten_len L
  have hd : decide ((20 : Int) < (L.length : Int)) = false := by simp; omega
  obtain ⟨F, hF⟩ : ∃ F, L.flatten = F := ⟨_, rfl⟩
  rw [hF] at HJ HSU hfl
  have hFb : F.length ≤ 1048576 := by omega
  clear hK hm hfl
  go_enter Tryd.func3, Tryd.ntmps3
  go_wp2_with fail
  refine (awake_any _ HK.out).mono ?_
  rintro e w1 ⟨rfl, b1⟩
  go_wp2_with fail
  refine (HJ.out w1 (HM.out.below0 b1)).mono ?_
  rintro e w2 ⟨v2, rfl, o2, b2⟩
  have h2 := b1.trans (b2.mono b1.size)
  obtain ⟨A2, q2, c2, rfl, hc2, _, m2, _⟩ := o2.form
  clear o2 b2 b1
  by_cases hlen : 2000 < F.length
  · go_wp2_with fail
    go_ret
    exact ⟨rfl, h2⟩
  · obtain ⟨D, hD⟩ : ∃ D, digest F = D := ⟨_, rfl⟩
    have hDl : D.length = 32 := by rw [← hD, dig_len]
    have hg26 : Tryd.prog.eqGuardType Tryd.prog.depth 26 = false := by kernel_rfl
    have heq : ∀ w', (binOp .eql 26 (.agg (D.map bv).toArray) (.agg (D.map bv).toArray)).run Tryd.prog w' = .ok (.bool true) w' := run_eql_arr_same _ _ 32 Tryd.underlying26 .u8 Tryd.underlying5 u8_size (D.map bv).toArray .u8 (fun i => ((D.getD i 0).toNat : Int)) (fun i hi => by rw [gA_list, hDl, gA_at _ _ hi]; rfl)
    have HR := kept (fun w' hm' => rsum_any w' q2 A2 F.length c2 F rfl hm' (by omega))
    rw [hD] at HR HSU
    have HD := kept hD
    clear hD
    go_wp2_with fail
    refine (HSU.out w2 (HK.out.below0 h2) (HM.out.below0 h2)).mono ?_
    rintro e w3 ⟨rfl, b3⟩
    have h3 := h2.trans (b3.mono h2.size)
    have m3 := m2.below0 b3
    clear b3
    go_wp2_with fail
    refine (HR.out w3 m3).mono ?_
    rintro e w4 ⟨rfl, b4⟩
    have h4 := h3.trans (b4.mono h3.size)
    clear b4 h2 h3
    go_wp2_with fail
    go_ret
    exact ⟨rfl, h4⟩
end Go.Proofs.YtgjnmoonceeenaaDoor.shaMatchesReference
