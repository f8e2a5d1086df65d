/-
  The text of a code, whatever the library's table of powers of ten holds: FormatInt, Itoa, and the code's own text: each a function of the table and the integer alone.
-/
import Derived.Test.YtfecccobihdopaaDoorItoa
import Derived.Test.YtfecccobihdopaaDoorFmtTen
namespace Go.Proofs.YtfecccobihdopaaDoor
open Go.RowKit Go.Sort Go.Lib
set_option linter.unusedVariables false

def digs (N u : Nat) : List UInt8 := (fmtA N u (Array.replicate N 0)).toList
theorem digs_length (N u : Nat) : (digs N u).length = N := by simp [digs, fmtA_size]
theorem digs_at (N u j : Nat) (h : j < (digs N u).length) : (digs N u)[j] = (fmtA N u (Array.replicate N 0))[j]! := by
  have hj : j < (fmtA N u (Array.replicate N 0)).size := by simpa [digs] using h
  rw [getElem!_pos _ j hj]
  simp [digs]
theorem below_grow (w : World) (n : Nat) (os : Array Obj) : Below w.heap.size w (grow (w.drewN n) os) :=
  ⟨rfl, rfl, rfl, by show w.heap.size ≤ (w.heap ++ os).size; simp, fun b hb => by show (w.heap ++ os)[b]? = _; exact Array.getElem?_append_left hb⟩
set_option maxHeartbeats 6400000 in
set_option maxRecDepth 100000 in
theorem fint_neg (T : Nat → Int) (u N : Nat) (w : World) (hu1 : 1 ≤ u) (hu63 : u ≤ 9223372036854775808) (hN : NumIs T u N) (ht : TabAt T w) :
    Calls Tryd.prog 46 #[.int .i64 (-(u : Int)), .int .i64 10] w fun e w' => e = .returned (.string ⟨(45 :: digs N u).toArray⟩) ∧ Below w.heap.size w w' := by
  obtain ⟨hN20, hnum⟩ := hN
  have hu64 : u < 18446744073709551616 := by omega
  have hwr : IntKind.u64.wrap (-IntKind.u64.wrap (-(u : Int))) = (u : Int) := by rw [IntKind.wrap_u64, IntKind.wrap_u64]; omega
  have hal : Tryd.prog.arrayLen 103 = 24 := by simp [Program.arrayLen, Tryd.underlying103]
  have hsl1 : ∀ W, (Instr.sliceAt 103 (.pointer (some ⟨w.heap.size, 0, none⟩)) (some (.int .i64 1)) (some (.int .i64 (1 + (N : Int)))) none).run Tryd.prog W = .ok (.slice (some ⟨w.heap.size, 1, none⟩) N 23) W := fun W => by
    rw [run_sliceAt_array_lh W 103 ⟨w.heap.size, 0, none⟩ (by simp [Program.arrayLen, Program.elem, Tryd.underlying103]) .i64 .i64 1 (1 + (N : Int)) (by omega) (by omega) (by rw [hal]; omega)]
    go_simp
    omega
  have hsl2 : ∀ W, (Instr.sliceAt 103 (.pointer (some ⟨w.heap.size, 0, none⟩)) none (some (.int .i64 (1 + (N : Int)))) none).run Tryd.prog W = .ok (.slice (some ⟨w.heap.size, 0, none⟩) (1 + N) 24) W := fun W => by
    rw [run_sliceAt_array_h W 103 ⟨w.heap.size, 0, none⟩ (by simp [Program.arrayLen, Program.elem, Tryd.underlying103]) .i64 (1 + (N : Int)) (by omega) (by rw [hal]; omega)]
    go_simp
    omega
  have hH0 := Lib.holds_zero w 103 N (by omega)
  have hfmt := fmt_any w.heap.size 1 23 u (Array.replicate N 0) (w.alloc (.cells Lib.zeros24 103)) hH0 hu64 (by rw [Array.size_replicate]; omega)
  rw [Array.size_replicate] at hfmt
  have hnd := hnum _ (ht.below ((Below.refl _ _).alloc (Nat.le_refl _) (.cells Lib.zeros24 103)))
  have HN := Lib.hid hnd
  have HF := Lib.hid hfmt
  have HH0 := Lib.hid hH0
  have neg : -(u : Int) < 0 := by omega
  clear hH0 hal hnum ht hnd hfmt
  go_enter Tryd.func46, Tryd.ntmps46
  go_wp2_with fail
  refine HN.out.mono ?_
  rintro e9 w9 ⟨rfl, rfl⟩
  go_wp2_with fail
  refine HF.out.mono ?_
  rintro e9 w9 ⟨rfl, k, rfl⟩
  have hc0 : ((putRow (fun (b : UInt8) => Value.int .u8 (b.toNat : Int)) (w.alloc (.cells Lib.zeros24 103)) w.heap.size 1 (fmtA N u (Array.replicate N 0))).drewN k).cell? ⟨w.heap.size, 0, none⟩ = some (.int .u8 0) := by
    rw [World.cell?_drewN, cell?_putRow_other _ _ _ _ _ _ (Or.inr (Or.inl (Nat.zero_lt_one))), World.cell?_alloc_new]
    exact Lib.zeros24_at 0 (by omega)
  have hf0 : ((putRow (fun (b : UInt8) => Value.int .u8 (b.toNat : Int)) (w.alloc (.cells Lib.zeros24 103)) w.heap.size 1 (fmtA N u (Array.replicate N 0))).drewN k).frozen? ⟨w.heap.size, 0, none⟩ = false := by
    rw [World.frozen?_drewN, frozen?_putRow]
    exact World.frozen?_alloc_new _ _ _ _
  have hcv : (convert 107 9 (.slice (some ⟨w.heap.size, 0, none⟩) (1 + N) 24)).run Tryd.prog (((putRow (fun (b : UInt8) => Value.int .u8 (b.toNat : Int)) (w.alloc (.cells Lib.zeros24 103)) w.heap.size 1 (fmtA N u (Array.replicate N 0))).drewN k).setCell ⟨w.heap.size, 0, none⟩ (.int .u8 45)) = .ok (.string ⟨(45 :: digs N u).toArray⟩) (((putRow (fun (b : UInt8) => Value.int .u8 (b.toNat : Int)) (w.alloc (.cells Lib.zeros24 103)) w.heap.size 1 (fmtA N u (Array.replicate N 0))).drewN k).setCell ⟨w.heap.size, 0, none⟩ (.int .u8 45)) := by
    have h := run_convert_bytes_back (P := Tryd.prog) (((putRow (fun (b : UInt8) => Value.int .u8 (b.toNat : Int)) (w.alloc (.cells Lib.zeros24 103)) w.heap.size 1 (fmtA N u (Array.replicate N 0))).drewN k).setCell ⟨w.heap.size, 0, none⟩ (.int .u8 45)) 107 9 5 ⟨w.heap.size, 0, none⟩ 24 (45 :: digs N u) Tryd.underlying107 Tryd.underlying5 Tryd.underlying9 (fun j hj => by
      rw [Lib.add_plain]
      cases j with
      | zero => exact World.cell?_setCell_same _ _ _ hc0
      | succ i =>
        have hi : i < (digs N u).length := by simpa using hj
        rw [World.cell?_setCell_other _ _ _ _ (by simp), List.getElem_cons_succ, digs_at N u i hi, World.cell?_drewN, show 0 + (i + 1) = 1 + i by omega]
        exact cell?_putRow (fun (b : UInt8) => Value.int .u8 (b.toNat : Int)) _ w.heap.size 1 _ _ HH0.out (by rw [fmtA_size]) i (by rw [fmtA_size, Array.size_replicate]; rw [digs_length] at hi; exact hi))
    rw [List.length_cons, digs_length, Nat.add_comm] at h
    exact h
  go_wp2
  go_ret
  obtain ⟨os, eo⟩ := Lib.fin_neg w (.cells Lib.zeros24 103) (fmtA N u (Array.replicate N 0)) k (.int .u8 45)
  refine ⟨rfl, ?_⟩
  rw [eo]
  exact below_grow _ _ _
set_option maxHeartbeats 6400000 in
set_option maxRecDepth 100000 in
theorem fint_pos (T : Nat → Int) (u N : Nat) (w : World) (hu1 : 100 ≤ u) (hu63 : u ≤ 9223372036854775807) (hN : NumIs T u N) (ht : TabAt T w) :
    Calls Tryd.prog 46 #[.int .i64 (u : Int), .int .i64 10] w fun e w' => e = .returned (.string ⟨(digs N u).toArray⟩) ∧ Below w.heap.size w w' := by
  obtain ⟨hN20, hnum⟩ := hN
  have hu64 : u < 18446744073709551616 := by omega
  have hal : Tryd.prog.arrayLen 103 = 24 := by simp [Program.arrayLen, Tryd.underlying103]
  have hsl1 : ∀ W, (Instr.sliceAt 103 (.pointer (some ⟨w.heap.size, 0, none⟩)) (some (.int .i64 1)) (some (.int .i64 (1 + (N : Int)))) none).run Tryd.prog W = .ok (.slice (some ⟨w.heap.size, 1, none⟩) N 23) W := fun W => by
    rw [run_sliceAt_array_lh W 103 ⟨w.heap.size, 0, none⟩ (by simp [Program.arrayLen, Program.elem, Tryd.underlying103]) .i64 .i64 1 (1 + (N : Int)) (by omega) (by omega) (by rw [hal]; omega)]
    go_simp
    omega
  have hH0 := Lib.holds_zero w 103 N (by omega)
  have hfmt := fmt_any w.heap.size 1 23 u (Array.replicate N 0) (w.alloc (.cells Lib.zeros24 103)) hH0 hu64 (by rw [Array.size_replicate]; omega)
  rw [Array.size_replicate] at hfmt
  have hnd := hnum _ (ht.below ((Below.refl _ _).alloc (Nat.le_refl _) (.cells Lib.zeros24 103)))
  have HN := Lib.hid hnd
  have HF := Lib.hid hfmt
  have HH0 := Lib.hid hH0
  clear hH0 hal hnum ht hnd hfmt
  go_enter Tryd.func46, Tryd.ntmps46
  go_wp2_with fail
  refine HN.out.mono ?_
  rintro e9 w9 ⟨rfl, rfl⟩
  go_wp2_with fail
  refine HF.out.mono ?_
  rintro e9 w9 ⟨rfl, k, rfl⟩
  have hcv : (convert 107 9 (.slice (some ⟨w.heap.size, 1, none⟩) N 23)).run Tryd.prog ((putRow (fun (b : UInt8) => Value.int .u8 (b.toNat : Int)) (w.alloc (.cells Lib.zeros24 103)) w.heap.size 1 (fmtA N u (Array.replicate N 0))).drewN k) = .ok (.string ⟨(digs N u).toArray⟩) ((putRow (fun (b : UInt8) => Value.int .u8 (b.toNat : Int)) (w.alloc (.cells Lib.zeros24 103)) w.heap.size 1 (fmtA N u (Array.replicate N 0))).drewN k) := by
    have h := run_convert_bytes_back (P := Tryd.prog) ((putRow (fun (b : UInt8) => Value.int .u8 (b.toNat : Int)) (w.alloc (.cells Lib.zeros24 103)) w.heap.size 1 (fmtA N u (Array.replicate N 0))).drewN k) 107 9 5 ⟨w.heap.size, 1, none⟩ 23 (digs N u) Tryd.underlying107 Tryd.underlying5 Tryd.underlying9 (fun j hj => by
      rw [digs_at N u j hj, Lib.add_plain, World.cell?_drewN]
      exact cell?_putRow (fun (b : UInt8) => Value.int .u8 (b.toNat : Int)) _ w.heap.size 1 _ _ HH0.out (by rw [fmtA_size]) j (by rw [fmtA_size, Array.size_replicate]; rw [digs_length] at hj; exact hj))
    rw [digs_length] at h
    exact h
  go_wp2
  go_ret
  obtain ⟨os, eo⟩ := Lib.fin_pos w (.cells Lib.zeros24 103) (fmtA N u (Array.replicate N 0)) k
  refine ⟨rfl, ?_⟩
  rw [eo]
  exact below_grow _ _ _
def smallT (i : Nat) : ByteArray := if i < 10 then Lib.digits36.extract i (i + 1) else Lib.smalls.extract (i * 2) (i * 2 + 2)
theorem smallT_size (i : Nat) : (smallT i).size ≤ 2 := by
  unfold smallT
  split <;> (rw [ByteArray.size_extract]; omega)
set_option maxHeartbeats 2000000 in
set_option maxRecDepth 100000 in
theorem small_any (i : Nat) (h : i < 100) (w : World) :
    Calls Tryd.prog 47 #[.int .i64 i] w fun e w' => e = .returned (.string (smallT i)) ∧ w = w' := by
  go_enter Tryd.func47, Tryd.ntmps47
  go_name_bytes_deep 45 SM hSM
  have eSM : SM = Lib.smalls := by rw [← hSM]; decide +kernel
  subst eSM
  clear hSM
  go_name_bytes_deep 30 DG hDG
  have eDG : DG = Lib.digits36 := by rw [← hDG]; decide +kernel
  subst eDG
  clear hDG
  by_cases h10 : i < 10
  · have hT := Lib.hid (show smallT i = Lib.digits36.extract i (i + 1) from if_pos h10)
    have hsl : ∀ w, (Instr.slice 9 (.string Lib.digits36) (some (.int .i64 (i : Int))) (some (.int .i64 ((i : Int) + 1))) none).run Tryd.prog w = .ok (.string (Lib.digits36.extract i (i + 1))) w := fun w => by
      rw [run_slice_string w 9 Lib.digits36 .i64 .i64 _ _ Tryd.underlying9 (by omega) (by omega) (by rw [Lib.digits36_size]; omega), show ((i : Int)).toNat = i by omega, show ((i : Int) + 1).toNat = i + 1 by omega]
    go_wp2
    go_ret
    refine ⟨?_, rfl⟩
    rw [hT.out]
    rfl
  · have hT := Lib.hid (show smallT i = Lib.smalls.extract (i * 2) (i * 2 + 2) from if_neg h10)
    have hsl : ∀ w, (Instr.slice 9 (.string Lib.smalls) (some (.int .i64 ((i : Int) * 2))) (some (.int .i64 ((i : Int) * 2 + 2))) none).run Tryd.prog w = .ok (.string (Lib.smalls.extract (i * 2) (i * 2 + 2))) w := fun w => by
      rw [run_slice_string w 9 Lib.smalls .i64 .i64 _ _ Tryd.underlying9 (by omega) (by omega) (by rw [Lib.smalls_size]; omega), show ((i : Int) * 2).toNat = i * 2 by omega, show ((i : Int) * 2 + 2).toNat = i * 2 + 2 by omega]
    go_wp2
    go_ret
    refine ⟨?_, rfl⟩
    rw [hT.out]
    rfl
theorem fint_small (i : Nat) (h : i < 100) (w : World) :
    Calls Tryd.prog 46 #[.int .i64 i, .int .i64 10] w fun e w' => e = .returned (.string (smallT i)) ∧ w = w' := by
  go_enter Tryd.func46, Tryd.ntmps46
  go_wp2_with (go_at_call 47; refine (small_any i h _).mono ?_; rintro e9 w9 ⟨rfl, rfl⟩)
  go_ret
  exact ⟨rfl, rfl⟩
/-- The decimal text of an integer: of some length up to 21, the same in every world in which the table holds T. -/
theorem fint_ex (T : Nat → Int) (c : Int) (h0 : -9223372036854775808 ≤ c) (h1 : c ≤ 9223372036854775807) :
    ∃ t : ByteArray, t.size ≤ 21 ∧ ∀ w, TabAt T w → Calls Tryd.prog 46 #[.int .i64 c, .int .i64 10] w fun e w' => e = .returned (.string t) ∧ Below w.heap.size w w' := by
  by_cases hn : c < 0
  · obtain ⟨u, rfl⟩ : ∃ u : Nat, c = -(u : Int) := ⟨c.natAbs, by omega⟩
    obtain ⟨N, hN⟩ := num_ex T u (by omega)
    refine ⟨⟨(45 :: digs N u).toArray⟩, ?_, fun w ht => fint_neg T u N w (by omega) (by omega) hN ht⟩
    have := digs_length N u
    have h20 := hN.1
    show (45 :: digs N u).toArray.size ≤ 21
    simp
    omega
  · obtain ⟨u, rfl⟩ : ∃ u : Nat, c = (u : Int) := ⟨c.toNat, by omega⟩
    by_cases hs : u < 100
    · refine ⟨smallT u, by have := smallT_size u; omega, fun w _ => (fint_small u hs w).mono fun e w' ⟨he, hw⟩ => ⟨he, by rw [← hw]; exact Below.refl _ _⟩⟩
    · obtain ⟨N, hN⟩ := num_ex T u (by omega)
      refine ⟨⟨(digs N u).toArray⟩, ?_, fun w ht => fint_pos T u N w (by omega) (by omega) hN ht⟩
      have := digs_length N u
      have h20 := hN.1
      show (digs N u).toArray.size ≤ 21
      simp
      omega
theorem itoa_ex (T : Nat → Int) (c : Int) (h0 : -9223372036854775808 ≤ c) (h1 : c ≤ 9223372036854775807) :
    ∃ t : ByteArray, t.size ≤ 21 ∧ ∀ w, TabAt T w → Calls Tryd.prog 44 #[.int .i64 c] w fun e w' => e = .returned (.string t) ∧ Below w.heap.size w w' := by
  obtain ⟨t, ht, hc⟩ := fint_ex T c h0 h1
  refine ⟨t, ht, fun w htab => ?_⟩
  have HC := Lib.hid (hc w htab)
  clear hc htab ht
  have h2 : Calls Tryd.prog 45 #[.int .i64 c] w fun e w' => e = .returned (.string t) ∧ Below w.heap.size w w' := by
    go_enter Tryd.func45, Tryd.ntmps45
    go_wp2_with fail
    refine HC.out.mono ?_
    rintro e9 w9 ⟨rfl, hb⟩
    go_wp2_with fail
    go_ret
    exact ⟨rfl, hb⟩
  have H2 := Lib.hid h2
  clear h2
  go_enter Tryd.func44, Tryd.ntmps44
  go_wp2_with fail
  refine H2.out.mono ?_
  rintro e9 w9 ⟨rfl, hb⟩
  go_wp2_with fail
  go_ret
  exact ⟨rfl, hb⟩
end Go.Proofs.YtfecccobihdopaaDoor
