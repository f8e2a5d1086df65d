/-
  The fixed examples that every statement of layer 1 checks first are met.
-/
import Derived.Test.YtocllhenifgkhaaRefsC
namespace Go.Proofs.Ytocllhenifgkhaa
open Go.RowKit
set_option linter.unusedVariables false

theorem mem_lit {w : World} {l : List UInt8} {cs : Array Value} (h : cs = (l.map bv).toArray) : Mem (w.alloc (.cells cs 5)) w.heap.size (some ⟨w.heap.size, 0, none⟩) l := by
  subst h
  refine .inr ⟨0, rfl, fun j b hj => ?_⟩
  rw [(Blk.new w 5 (l.map bv).toArray).cell]
  simp [hj, bv]
theorem put_a (w : World) : Calls Try.prog 20 #[.int .i64 2, .int .u64 258] w fun e w' => ∃ A q c, e = .returned (.tuple #[.slice A 2 c, .bool true]) ∧ Mem w' q A [1, 2] ∧ Below w.heap.size w w' := by
  refine (putnum_any w 2 258 (by omega)).mono fun e w' ⟨v, he, hown, hb⟩ => ?_
  have e1 : rPut 2 258 = ([1, 2], true) := by decide
  rw [e1] at he hown
  obtain ⟨A, q, c, rfl, _, _, hm, _⟩ := hown.form
  exact ⟨A, q, c, he, hm, hb⟩
theorem put_b (w : World) : Calls Try.prog 20 #[.int .i64 1, .int .u64 256] w fun e w' => ∃ A c, e = .returned (.tuple #[.slice A 0 c, .bool false]) ∧ Below w.heap.size w w' := by
  refine (putnum_any w 1 256 (by omega)).mono fun e w' ⟨v, he, hown, hb⟩ => ?_
  have e1 : rPut 1 256 = ([], false) := by decide
  rw [e1] at he hown
  obtain ⟨A, q, c, rfl, _, _, hm, _⟩ := hown.form
  exact ⟨A, c, he, hb⟩
theorem put_s (w : World) (q : Nat) (A : Option Addr) (hm : Mem w q A [7, 8]) : Calls Try.prog 21 #[.int .i64 1, .slice A 2 2] w fun e w' => ∃ A q c, e = .returned (.tuple #[.slice A 3 c, .bool true]) ∧ Mem w' q A [2, 7, 8] ∧ Below w.heap.size w w' := by
  refine (putstr_any w 1 q A 2 2 [7, 8] rfl hm (by simp)).mono fun e w' ⟨v, he, hown, hb⟩ => ?_
  have e1 : rPutS 1 [7, 8] = ([2, 7, 8], true) := by decide
  rw [e1] at he hown
  obtain ⟨A, q, c, rfl, _, _, hm, _⟩ := hown.form
  exact ⟨A, q, c, he, hm, hb⟩

theorem same_b (w : World) (q1 q2 : Nat) (A1 A2 : Option Addr) (n1 n2 c1 c2 : Nat) (l : List UInt8) (hn1 : n1 = l.length) (hn2 : n2 = l.length) (hl : l.length ≤ 140737488355328) (h1 : Mem w q1 A1 l) (h2 : Mem w q2 A2 l) :
    Calls Try.prog 16 #[.slice A1 n1 c1, .slice A2 n2 c2] w fun e w' => e = .returned (.bool true) ∧ Below w.heap.size w w' :=
  (same_yes w q1 q2 A1 A2 n1 n2 c1 c2 l hn1 hn2 hl h1 h2).mono fun e w' ⟨he, n, hw⟩ => ⟨he, by rw [hw]; exact below_drewN (Below.refl _ _) n⟩

theorem awake_any (w : World) : Calls Try.prog 8 #[] w fun e w' => e = .returned (.bool true) ∧ Below w.heap.size w w' := by
  go_enter Try.func8, Try.ntmps8
  go_wp2_with fail
  refine (put_a _).mono ?_
  rintro e w1 ⟨A1, q1, c1, rfl, m1, b1⟩
  go_wp2_with fail
  have z1 := b1.size
  have b1' := b1.alloc b1.size (.cells #[.int .u8 7, .int .u8 8] 5)
  have m1' := m1.alloc (.cells #[.int .u8 7, .int .u8 8] 5)
  refine (put_s _ w1.heap.size _ (mem_lit rfl)).mono ?_
  rintro e w2 ⟨A2, q2, c2, rfl, m2, b2⟩
  replace m1 := m1'.below0 b2
  replace b2 := b1'.trans (b2.mono b1'.size)
  clear m1' b1' b1
  go_wp2_with fail
  refine (put_b _).mono ?_
  rintro e w3 ⟨A3, c3, rfl, b3⟩
  replace m1 := m1.below0 b3
  replace m2 := m2.below0 b3
  replace b3 := b2.trans (b3.mono b2.size)
  have hq1 := m1.lt (by simp)
  have hq2 := m2.lt (by simp)
  have l3 := b3.size
  go_wp2_with fail
  have b3' := b3.alloc b3.size (.cells #[.int .u8 1, .int .u8 2, .int .u8 2, .int .u8 7, .int .u8 8] 5)
  have m1' := m1.alloc (.cells #[.int .u8 1, .int .u8 2, .int .u8 2, .int .u8 7, .int .u8 8] 5)
  have m2' := m2.alloc (.cells #[.int .u8 1, .int .u8 2, .int .u8 2, .int .u8 7, .int .u8 8] 5)
  refine (new_any _ w3.heap.size _ 5 5 [1, 2, 2, 7, 8] rfl (mem_lit rfl) (by simp)).mono ?_
  rintro e w4 ⟨g, qr, rfl, hr, hg1, hg2, hq, b4⟩
  have hqg : w3.heap.size < g ∧ w.heap.size ≤ g := by simp at hg1; omega
  replace m1 := m1'.below0 b4
  replace m2 := m2'.below0 b4
  replace b4 := b3'.trans (b4.mono b3'.size)
  clear b3 b3' m1' m2' hg1
  have hp : ∀ W, (binOp .eql 25 (.pointer (some ⟨g, 0, none⟩)) (.pointer none)).run Try.prog W = .ok (.bool false) W := fun _ => by kernel_rfl
  go_wp2_with fail
  refine (num_any _ 2 hr).mono ?_
  have e1 : rNum (false, [1, 2, 2, 7, 8]) 2 = ((false, [2, 7, 8]), 258) := by decide
  rw [e1]
  rintro e w5 ⟨rfl, hr5, g5⟩
  replace m1 := m1.grown g5 (by simp; omega)
  replace m2 := m2.grown g5 (by simp; omega)
  have b5 := b4.grown g5 b4.size (fun k hk => by injection hk; omega)
  clear hr b4 g5 e1
  go_wp2_with fail
  refine (str_any _ 1 hr5).mono ?_
  have e1 : rStr (false, [2, 7, 8]) 1 = ((false, []), [7, 8]) := by decide
  rw [e1]
  rintro e w6 ⟨v6, rfl, hown6, hr6, g6⟩
  obtain ⟨A6, q6, c6, rfl, _, _, m6, h6, _⟩ := hown6.form
  have hq6 := (h6 (by simp)).1
  replace m1 := m1.grown g6 (by simp; omega)
  replace m2 := m2.grown g6 (by simp; omega)
  have b6 := b5.grown g6 b5.size (fun k hk => by injection hk; omega)
  have hg5 := hr5.lt
  clear hr5 b5 g6 e1 h6 hown6
  go_wp2_with fail
  refine (done_any _ hr6).mono ?_
  rintro e w7 ⟨rfl, rfl⟩
  go_wp2_with fail
  refine (num_any _ 1 hr6).mono ?_
  have e1 : rNum (false, []) 1 = ((true, []), 0) := by decide
  rw [e1]
  rintro e w8 ⟨rfl, hr8, g8⟩
  replace m1 := m1.grown g8 (by simp; omega)
  replace m2 := m2.grown g8 (by simp; omega)
  replace m6 := m6.grown g8 (by simp; omega)
  have b8 := b6.grown g8 b6.size (fun k hk => by injection hk; omega)
  clear hr6 b6 g8 e1
  go_wp2_with fail
  have b8' := b8.alloc b8.size (.cells #[.int .u8 1, .int .u8 2] 5)
  have m2' := m2.alloc (.cells #[.int .u8 1, .int .u8 2] 5)
  have m6' := m6.alloc (.cells #[.int .u8 1, .int .u8 2] 5)
  have r8' := hr8.alloc (.cells #[.int .u8 1, .int .u8 2] 5)
  refine (same_b _ q1 w8.heap.size A1 _ 2 2 c1 2 [1, 2] rfl rfl (by simp) (m1.alloc _) (mem_lit rfl)).mono ?_
  rintro e w9 ⟨rfl, b9⟩
  replace m2 := m2'.below0 b9
  replace m6 := m6'.below0 b9
  replace hr8 := r8'.below b9
  replace b9 := b8'.trans (b9.mono b8'.size)
  clear b8 b8' m2' m6' r8' m1
  go_wp2_with fail
  have b9' := b9.alloc b9.size (.cells #[.int .u8 2, .int .u8 7, .int .u8 8] 5)
  have m6' := m6.alloc (.cells #[.int .u8 2, .int .u8 7, .int .u8 8] 5)
  have r8' := hr8.alloc (.cells #[.int .u8 2, .int .u8 7, .int .u8 8] 5)
  refine (same_b _ q2 w9.heap.size A2 _ 3 3 c2 3 [2, 7, 8] rfl rfl (by simp) (m2.alloc _) (mem_lit rfl)).mono ?_
  rintro e w10 ⟨rfl, b10⟩
  replace m6 := m6'.below0 b10
  replace hr8 := r8'.below b10
  replace b10 := b9'.trans (b10.mono b9'.size)
  clear b9 b9' m6' r8' m2
  go_wp2_with fail
  have b10' := b10.alloc b10.size (.cells #[.int .u8 7, .int .u8 8] 5)
  have r8' := hr8.alloc (.cells #[.int .u8 7, .int .u8 8] 5)
  refine (same_b _ q6 w10.heap.size A6 _ 2 2 c6 2 [7, 8] rfl rfl (by simp) (m6.alloc _) (mem_lit rfl)).mono ?_
  rintro e w11 ⟨rfl, b11⟩
  replace hr8 := r8'.below b11
  replace b11 := b10'.trans (b11.mono b10'.size)
  clear b10 b10' r8' m6
  go_wp2_with fail
  refine (bad_any _ hr8).mono ?_
  rintro e w12 ⟨rfl, rfl⟩
  go_wp2_with fail
  refine (done_any _ hr8).mono ?_
  rintro e w12 ⟨rfl, rfl⟩
  go_wp2_with fail
  go_ret
  exact ⟨rfl, b11⟩

end Go.Proofs.Ytocllhenifgkhaa
