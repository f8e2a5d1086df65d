/-
  The fixed examples that every statement of layer 8 checks first are met.
-/
import Derived.Test.YtnfgmgkdkfeekaaPm29
import Derived.Test.YtnfgmgkdkfeekaaPm31
import Derived.Test.YtnfgmgkdkfeekaaPm32
namespace Go.Proofs.Ytnfgmgkdkfeekaa
open Go.RowKit
set_option linter.unusedVariables false
set_option linter.unusedSimpArgs false

theorem mem_lit3 (w : World) (a b c : UInt8) (q : Nat) (hq : q = w.heap.size) : Mem (w.alloc (.cells #[.int .u8 (a.toNat : Int), .int .u8 (b.toNat : Int), .int .u8 (c.toNat : Int)] 5)) q (some ⟨q, 0, none⟩) [a, b, c] := by
  subst hq
  exact mem_lit (l := [a, b, c]) rfl
theorem mem_lit2 (w : World) (a b : UInt8) (q : Nat) (hq : q = w.heap.size) : Mem (w.alloc (.cells #[.int .u8 (a.toNat : Int), .int .u8 (b.toNat : Int)] 5)) q (some ⟨q, 0, none⟩) [a, b] := by
  subst hq
  exact mem_lit (l := [a, b]) rfl
theorem mem_lit1 (w : World) (a : UInt8) (q : Nat) (hq : q = w.heap.size) : Mem (w.alloc (.cells #[.int .u8 (a.toNat : Int)] 5)) q (some ⟨q, 0, none⟩) [a] := by
  subst hq
  exact mem_lit (l := [a]) rfl
set_option maxHeartbeats 2000000 in
set_option maxRecDepth 100000 in
theorem cawake_any (w : World) : Calls Try.prog 8 #[] w fun e w' => e = .returned (.bool true) ∧ Below w.heap.size w w' := by
  go_enter Try.func8, Try.ntmps8
  go_wp2_with fail
  refine (cstream_any w zr zr 0 3 (by omega) (by omega)).mono ?_
  rw [show sStream (cStr zr zr) 0 3 = [102, 233, 75] from (sStream_in _ 0 3 (by omega) (by omega)).trans z_stream]
  rintro e w1 ⟨v, rfl, o1, k⟩
  have HW := kept k
  obtain ⟨A1, q1, c1, hv, hc1, hx1, m1, hx⟩ := o1.form
  subst hv
  have M1 := kept m1
  clear o1 k m1 hc1 hx hx1
  go_wp2_with fail
  have hW2 := HW.out.alloc HW.out.size (.cells #[.int .u8 102, .int .u8 233, .int .u8 75] 5)
  refine (same_b _ q1 w1.heap.size A1 _ _ _ c1 _ [102, 233, 75] rfl rfl (by simp) (M1.out.alloc _) (mem_lit3 w1 102 233 75 _ rfl)).mono ?_
  rintro e w2 ⟨rfl, k⟩
  replace HW := kept (hW2.trans (k.mono hW2.size))
  clear k hW2 M1
  go_wp2_with fail
  refine (cstream_any w2 zr zr (-1) 3 (by omega) (by omega)).mono ?_
  rw [show sStream (cStr zr zr) (-1) 3 = [] from if_neg (by omega)]
  rintro e w3 ⟨v, rfl, o1, k⟩
  replace HW := kept (below_next HW.out k)
  obtain ⟨A3, q3, c3, hv, hc1, hx1, m1, hx⟩ := o1.form
  subst hv
  clear o1 k m1 hc1 hx hx1
  go_wp2_with fail
  have hW4 := HW.out.alloc HW.out.size (.cells #[.int .u8 1, .int .u8 2] 5)
  refine (ccrypt_any _ zr zr w3.heap.size _ _ _ [1, 2] rfl (mem_lit2 w3 1 2 _ rfl) (by simp)).mono ?_
  rintro e w4 ⟨v, rfl, o1, k⟩
  replace HW := kept (hW4.trans (k.mono hW4.size))
  obtain ⟨A4, q4, c4, hv, hc1, hx1, m1, hx⟩ := o1.form
  subst hv
  rw [sMix_len]
  clear o1 k m1 hc1 hx hx1 hW4
  go_wp2_with fail
  have hW5 := HW.out.alloc HW.out.size (.cells #[.int .u8 1] 5)
  refine (cnext_nil _ w4.heap.size _ _ _ [1] rfl (mem_lit1 w4 1 _ rfl)).mono ?_
  rintro e w5 ⟨v, rfl, o1, k⟩
  replace HW := kept (hW5.trans (k.mono hW5.size))
  obtain ⟨A5, q5, c5, hv, hc1, hx1, m1, hx⟩ := o1.form
  subst hv
  clear o1 k m1 hc1 hx hx1 hW5
  go_wp2_with fail
  refine (cused_nil w5).mono ?_
  rintro e w6 ⟨rfl, k⟩
  replace HW := kept (below_next HW.out k)
  clear k
  go_wp2_with fail
  go_ret
  exact ⟨rfl, HW.out⟩
end Go.Proofs.Ytnfgmgkdkfeekaa
