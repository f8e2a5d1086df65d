/-
  The digits that formatBase10 of the library's strconv writes, at whatever number of places: a plain function, and the contract by it. No condition on the number's digits.
-/
import Derived.Test.YtfecccobihdopaaDoorFmtDef
import Derived.Lib.ItoaWalk
import Derived.Lib.ItoaMem
import Derived.Lib.Walk
import Derived.Lib.Hide
import Derived.RegionTactic
import Derived.BigRegion
import Derived.BigCall
import Derived.BigGuard
import Derived.CellFam
namespace Go.Proofs.YtfecccobihdopaaDoor
open Go.RowKit Go.Sort Go.Lib
set_option linter.unusedVariables false

set_option maxHeartbeats 12800000 in
set_option maxRecDepth 100000 in
theorem fmt_any (blk off cap : Nat) (u : Nat) (d : Array UInt8) (w : World) (hH : Holds (fun (b : UInt8) => Value.int .u8 (b.toNat : Int)) w blk off d) (hu64 : u < 18446744073709551616) (hsz : d.size < 4611686018427387904) :
    Calls Tryd.prog 49 #[.slice (some ⟨blk, off, none⟩) d.size cap, .int .u64 u] w fun e w' =>
      e = .returned (.tuple #[]) ∧ ∃ n : Nat, w' = (putRow (fun (b : UInt8) => Value.int .u8 (b.toNat : Int)) w blk off (fmtA d.size u d)).drewN n := by
  obtain ⟨R, hR⟩ : ∃ R, R = fmtA d.size u d := ⟨_, rfl⟩
  rw [← hR]
  have HR := Lib.hid hR
  clear hR
  have hI0 := kept (show fmtA d.size u d = R from HR.out.symm)
  clear HR
  have mixed : Tryd.prog.follows .mixedOrders = true := by kernel_rfl
  go_enter Tryd.func49, Tryd.ntmps49
  go_name_bytes SM hSM
  have eSM : SM = Lib.smalls := by rw [← hSM]; decide +kernel
  subst eSM
  clear hSM
  go_wp2
  go_loopw [1, 4] (fun vu vn wr => ∃ (nd v n : Nat) (dk : Array UInt8), vu = .int .u64 v ∧ vn = .int .i64 nd ∧ wr = (putRow (fun (b : UInt8) => Value.int .u8 (b.toNat : Int)) w blk off dk).drewN n ∧ Hid (dk.size = d.size) ∧ nd ≤ d.size ∧ v < 18446744073709551616 ∧ Kept (fmtA nd v dk = R)) (fun _ vn _ => (RowKit.intOf vn).toNat)
  case atStart => exact ⟨d.size, u, 0, d, rfl, rfl, (putRow_self _ _ _ _ _ hH).symm, Lib.hid rfl, Nat.le_refl _, hu64, hI0⟩
  case round =>
    obtain ⟨nd, v, n, dk0, rfl, rfl, hw0, hsh, hle, hv64, hfin⟩ := hrel
    rename World => W0
    have AH := Lib.hid hH
    clear hH hI0
    have hs0 := hsh.out
    clear hsh
    have hH0 : Holds (fun (b : UInt8) => Value.int .u8 (b.toNat : Int)) W0 blk off dk0 := by rw [hw0]; exact holds_putRow _ w blk off d dk0 AH.out hs0
    obtain ⟨G0, hG0⟩ : ∃ G : Nat → Int, ∀ t, G t = (dk0[t]!.toNat : Int) := ⟨_, fun _ => rfl⟩
    have hc0 : ∀ t, t < d.size → W0.cell? ⟨blk, off + t, none⟩ = some (.int .u8 (G0 t)) := fun t ht => by rw [hG0]; exact (hH0 t (by omega)).1
    have hf0 : ∀ t, t < d.size → W0.frozen? ⟨blk, off + t, none⟩ = false := fun t ht => (hH0 t (by omega)).2
    have AW0 := Lib.hid hw0
    have HS0 := Lib.hid hs0
    clear hw0 hG0 hH0 hs0
    by_cases h8 : 8 ≤ nd
    · obtain ⟨m, rfl⟩ : ∃ m, nd = m + 8 := ⟨nd - 8, by omega⟩
      have HI0 := kept ((fmtA_step m v dk0).symm.trans hfin.out)
      clear hfin
      go_wp2
      have hs0 := HS0.out
      go_name_slot 9 x0 hx0
      have hxe0 : x0 = (((v) % 100 * 2 : Nat) : Int) := by omega
      have hXa0 : ∀ w, (Instr.index 9 (.string Lib.smalls) (.int .u32 (x0 + 1))).run Tryd.prog w = .ok (.int .u8 ((sm ((v) % 100 * 2 + 1)).toNat : Int)) w := idx_smalls 9 Tryd.underlying9 .u32 _ _ (by omega) (by omega)
      have hXb0 : ∀ w, (Instr.index 9 (.string Lib.smalls) (.int .u32 x0)).run Tryd.prog w = .ok (.int .u8 ((sm ((v) % 100 * 2)).toNat : Int)) w := idx_smalls 9 Tryd.underlying9 .u32 _ _ (by omega) (by omega)
      have hlo0 : 0 ≤ x0 := by omega
      have hhi0 : x0 ≤ 198 := by omega
      clear hx0 hxe0
      go_region
      go_wp2
      go_name_world W1 hW1
      have hw1 : W1 = (putRow (fun (b : UInt8) => Value.int .u8 (b.toNat : Int)) w blk off (s2 (m + 6) (v) dk0)).drewN (n + 0 + 1) := by rw [← hW1]; exact (by rw [AW0.out]; exact store2_world w blk off dk0 (n + 0) (m + 6 + 1) (m + 6) _ _ (by omega) (by omega))
      have hs1 : (s2 (m + 6) (v) dk0).size = d.size := by rw [s2_size]; exact hs0
      have hg1 := HI0.out
      generalize s2 (m + 6) (v) dk0 = dk1 at hw1 hs1 hg1
      have HI1 := kept hg1
      clear hg1 hW1 hc0 hf0 AW0 HI0 HS0 hs0 hXa0 hXb0
      have hH1 : Holds (fun (b : UInt8) => Value.int .u8 (b.toNat : Int)) W1 blk off dk1 := by rw [hw1]; exact holds_putRow _ w blk off d dk1 AH.out hs1
      obtain ⟨G1, hG1⟩ : ∃ G : Nat → Int, ∀ t, G t = (dk1[t]!.toNat : Int) := ⟨_, fun _ => rfl⟩
      have hc1 : ∀ t, t < d.size → W1.cell? ⟨blk, off + t, none⟩ = some (.int .u8 (G1 t)) := fun t ht => by rw [hG1]; exact (hH1 t (by omega)).1
      have hf1 : ∀ t, t < d.size → W1.frozen? ⟨blk, off + t, none⟩ = false := fun t ht => (hH1 t (by omega)).2
      have AW1 := Lib.hid hw1
      have HS1 := Lib.hid hs1
      clear hw1 hG1 hH1 hs1
      have hs1 := HS1.out
      go_name_slot 8 x1 hx1
      have hxe1 : x1 = (((v / 100) % 100 * 2 : Nat) : Int) := by omega
      have hXa1 : ∀ w, (Instr.index 9 (.string Lib.smalls) (.int .u32 (x1 + 1))).run Tryd.prog w = .ok (.int .u8 ((sm ((v / 100) % 100 * 2 + 1)).toNat : Int)) w := idx_smalls 9 Tryd.underlying9 .u32 _ _ (by omega) (by omega)
      have hXb1 : ∀ w, (Instr.index 9 (.string Lib.smalls) (.int .u32 x1)).run Tryd.prog w = .ok (.int .u8 ((sm ((v / 100) % 100 * 2)).toNat : Int)) w := idx_smalls 9 Tryd.underlying9 .u32 _ _ (by omega) (by omega)
      have hlo1 : 0 ≤ x1 := by omega
      have hhi1 : x1 ≤ 198 := by omega
      clear hx1 hxe1
      go_region
      go_wp2
      go_name_world W2 hW2
      have hw2 : W2 = (putRow (fun (b : UInt8) => Value.int .u8 (b.toNat : Int)) w blk off (s2 (m + 4) (v / 100) dk1)).drewN (n + 1 + 1) := by rw [← hW2]; exact (by rw [AW1.out]; exact store2_world w blk off dk1 (n + 1) (m + 4 + 1) (m + 4) _ _ (by omega) (by omega))
      have hs2 : (s2 (m + 4) (v / 100) dk1).size = d.size := by rw [s2_size]; exact hs1
      have hg2 := HI1.out
      generalize s2 (m + 4) (v / 100) dk1 = dk2 at hw2 hs2 hg2
      have HI2 := kept hg2
      clear hg2 hW2 hc1 hf1 AW1 HI1 HS1 hs1 hXa1 hXb1
      have hH2 : Holds (fun (b : UInt8) => Value.int .u8 (b.toNat : Int)) W2 blk off dk2 := by rw [hw2]; exact holds_putRow _ w blk off d dk2 AH.out hs2
      obtain ⟨G2, hG2⟩ : ∃ G : Nat → Int, ∀ t, G t = (dk2[t]!.toNat : Int) := ⟨_, fun _ => rfl⟩
      have hc2 : ∀ t, t < d.size → W2.cell? ⟨blk, off + t, none⟩ = some (.int .u8 (G2 t)) := fun t ht => by rw [hG2]; exact (hH2 t (by omega)).1
      have hf2 : ∀ t, t < d.size → W2.frozen? ⟨blk, off + t, none⟩ = false := fun t ht => (hH2 t (by omega)).2
      have AW2 := Lib.hid hw2
      have HS2 := Lib.hid hs2
      clear hw2 hG2 hH2 hs2
      have hs2 := HS2.out
      go_name_slot 11 x2 hx2
      have hxe2 : x2 = (((v / 100 / 100) % 100 * 2 : Nat) : Int) := by omega
      have hXa2 : ∀ w, (Instr.index 9 (.string Lib.smalls) (.int .u32 (x2 + 1))).run Tryd.prog w = .ok (.int .u8 ((sm ((v / 100 / 100) % 100 * 2 + 1)).toNat : Int)) w := idx_smalls 9 Tryd.underlying9 .u32 _ _ (by omega) (by omega)
      have hXb2 : ∀ w, (Instr.index 9 (.string Lib.smalls) (.int .u32 x2)).run Tryd.prog w = .ok (.int .u8 ((sm ((v / 100 / 100) % 100 * 2)).toNat : Int)) w := idx_smalls 9 Tryd.underlying9 .u32 _ _ (by omega) (by omega)
      have hlo2 : 0 ≤ x2 := by omega
      have hhi2 : x2 ≤ 198 := by omega
      clear hx2 hxe2
      go_region
      go_wp2
      go_name_world W3 hW3
      have hw3 : W3 = (putRow (fun (b : UInt8) => Value.int .u8 (b.toNat : Int)) w blk off (s2 (m + 2) (v / 100 / 100) dk2)).drewN (n + 2 + 1) := by rw [← hW3]; exact (by rw [AW2.out]; exact store2_world w blk off dk2 (n + 2) (m + 2 + 1) (m + 2) _ _ (by omega) (by omega))
      have hs3 : (s2 (m + 2) (v / 100 / 100) dk2).size = d.size := by rw [s2_size]; exact hs2
      have hg3 := HI2.out
      generalize s2 (m + 2) (v / 100 / 100) dk2 = dk3 at hw3 hs3 hg3
      have HI3 := kept hg3
      clear hg3 hW3 hc2 hf2 AW2 HI2 HS2 hs2 hXa2 hXb2
      have hH3 : Holds (fun (b : UInt8) => Value.int .u8 (b.toNat : Int)) W3 blk off dk3 := by rw [hw3]; exact holds_putRow _ w blk off d dk3 AH.out hs3
      obtain ⟨G3, hG3⟩ : ∃ G : Nat → Int, ∀ t, G t = (dk3[t]!.toNat : Int) := ⟨_, fun _ => rfl⟩
      have hc3 : ∀ t, t < d.size → W3.cell? ⟨blk, off + t, none⟩ = some (.int .u8 (G3 t)) := fun t ht => by rw [hG3]; exact (hH3 t (by omega)).1
      have hf3 : ∀ t, t < d.size → W3.frozen? ⟨blk, off + t, none⟩ = false := fun t ht => (hH3 t (by omega)).2
      have AW3 := Lib.hid hw3
      have HS3 := Lib.hid hs3
      clear hw3 hG3 hH3 hs3
      have hs3 := HS3.out
      go_name_slot 10 x3 hx3
      have hxe3 : x3 = (((v / 100 / 100 / 100) % 100 * 2 : Nat) : Int) := by omega
      have hXa3 : ∀ w, (Instr.index 9 (.string Lib.smalls) (.int .u32 (x3 + 1))).run Tryd.prog w = .ok (.int .u8 ((sm ((v / 100 / 100 / 100) % 100 * 2 + 1)).toNat : Int)) w := idx_smalls 9 Tryd.underlying9 .u32 _ _ (by omega) (by omega)
      have hXb3 : ∀ w, (Instr.index 9 (.string Lib.smalls) (.int .u32 x3)).run Tryd.prog w = .ok (.int .u8 ((sm ((v / 100 / 100 / 100) % 100 * 2)).toNat : Int)) w := idx_smalls 9 Tryd.underlying9 .u32 _ _ (by omega) (by omega)
      have hlo3 : 0 ≤ x3 := by omega
      have hhi3 : x3 ≤ 198 := by omega
      clear hx3 hxe3
      go_region
      go_wp2
      go_roundw
      case rel => exact ⟨m, v / 100000000, n + 3 + 1, s2 m (v / 100 / 100 / 100) dk3, by first | go_num | (congr 1; omega), by first | go_num | (congr 1; omega), by rw [AW3.out]; exact store2_world w blk off dk3 (n + 3) (m + 1) (m) _ _ (by omega) (by omega), Lib.hid (by rw [s2_size]; exact hs3), by omega, by omega, HI3⟩
      case measure => simp [RowKit.intOf]; omega
    · obtain ⟨x, hxv⟩ : ∃ x, x = v % 4294967296 := ⟨_, rfl⟩
      have hx32 : x < 4294967296 := by omega
      have ex : (v : Int) % 4294967296 = (x : Int) := by omega
      have hfin' := kept (show tailA nd x dk0 = R by rw [hxv]; exact (fmtA_tail nd v dk0 (by omega)).symm.trans hfin.out)
      clear hfin hxv
      by_cases h4 : 4 ≤ nd
      · by_cases h6 : 6 ≤ nd
        · obtain ⟨k, rfl⟩ : ∃ k, nd = k + 6 := ⟨nd - 6, by omega⟩
          by_cases hk : 0 < k
          · have HI0 := kept ((tail_61 k x dk0 hk (by omega)).symm.trans hfin'.out)
            have hk2 : k < 2 := by omega
            clear hfin' h8
            go_wp2
            have hs0 := HS0.out
            go_name_slot 15 x0 hx0
            have hxe0 : x0 = (((x) % 100 * 2 : Nat) : Int) := by omega
            have hXa0 : ∀ w, (Instr.index 9 (.string Lib.smalls) (.int .u32 (x0 + 1))).run Tryd.prog w = .ok (.int .u8 ((sm ((x) % 100 * 2 + 1)).toNat : Int)) w := idx_smalls 9 Tryd.underlying9 .u32 _ _ (by omega) (by omega)
            have hXb0 : ∀ w, (Instr.index 9 (.string Lib.smalls) (.int .u32 x0)).run Tryd.prog w = .ok (.int .u8 ((sm ((x) % 100 * 2)).toNat : Int)) w := idx_smalls 9 Tryd.underlying9 .u32 _ _ (by omega) (by omega)
            have hlo0 : 0 ≤ x0 := by omega
            have hhi0 : x0 ≤ 198 := by omega
            clear hx0 hxe0
            go_region
            go_wp2
            go_name_world W1 hW1
            have hw1 : W1 = (putRow (fun (b : UInt8) => Value.int .u8 (b.toNat : Int)) w blk off (s2 (k + 4) (x) dk0)).drewN (n + 0 + 1) := by rw [← hW1]; exact (by rw [AW0.out]; exact store2_world w blk off dk0 (n + 0) (k + 4 + 1) (k + 4) _ _ (by omega) (by omega))
            have hs1 : (s2 (k + 4) (x) dk0).size = d.size := by rw [s2_size]; exact hs0
            have hg1 := HI0.out
            generalize s2 (k + 4) (x) dk0 = dk1 at hw1 hs1 hg1
            have HI1 := kept hg1
            clear hg1 hW1 hc0 hf0 AW0 HI0 HS0 hs0 hXa0 hXb0
            have hH1 : Holds (fun (b : UInt8) => Value.int .u8 (b.toNat : Int)) W1 blk off dk1 := by rw [hw1]; exact holds_putRow _ w blk off d dk1 AH.out hs1
            obtain ⟨G1, hG1⟩ : ∃ G : Nat → Int, ∀ t, G t = (dk1[t]!.toNat : Int) := ⟨_, fun _ => rfl⟩
            have hc1 : ∀ t, t < d.size → W1.cell? ⟨blk, off + t, none⟩ = some (.int .u8 (G1 t)) := fun t ht => by rw [hG1]; exact (hH1 t (by omega)).1
            have hf1 : ∀ t, t < d.size → W1.frozen? ⟨blk, off + t, none⟩ = false := fun t ht => (hH1 t (by omega)).2
            have AW1 := Lib.hid hw1
            have HS1 := Lib.hid hs1
            clear hw1 hG1 hH1 hs1
            have hs1 := HS1.out
            go_name_slot 14 x1 hx1
            have hxe1 : x1 = (((x / 100) % 100 * 2 : Nat) : Int) := by omega
            have hXa1 : ∀ w, (Instr.index 9 (.string Lib.smalls) (.int .u32 (x1 + 1))).run Tryd.prog w = .ok (.int .u8 ((sm ((x / 100) % 100 * 2 + 1)).toNat : Int)) w := idx_smalls 9 Tryd.underlying9 .u32 _ _ (by omega) (by omega)
            have hXb1 : ∀ w, (Instr.index 9 (.string Lib.smalls) (.int .u32 x1)).run Tryd.prog w = .ok (.int .u8 ((sm ((x / 100) % 100 * 2)).toNat : Int)) w := idx_smalls 9 Tryd.underlying9 .u32 _ _ (by omega) (by omega)
            have hlo1 : 0 ≤ x1 := by omega
            have hhi1 : x1 ≤ 198 := by omega
            clear hx1 hxe1
            go_region
            go_wp2
            go_name_world W2 hW2
            have hw2 : W2 = (putRow (fun (b : UInt8) => Value.int .u8 (b.toNat : Int)) w blk off (s2 (k + 2) (x / 100) dk1)).drewN (n + 1 + 1) := by rw [← hW2]; exact (by rw [AW1.out]; exact store2_world w blk off dk1 (n + 1) (k + 2 + 1) (k + 2) _ _ (by omega) (by omega))
            have hs2 : (s2 (k + 2) (x / 100) dk1).size = d.size := by rw [s2_size]; exact hs1
            have hg2 := HI1.out
            generalize s2 (k + 2) (x / 100) dk1 = dk2 at hw2 hs2 hg2
            have HI2 := kept hg2
            clear hg2 hW2 hc1 hf1 AW1 HI1 HS1 hs1 hXa1 hXb1
            have hH2 : Holds (fun (b : UInt8) => Value.int .u8 (b.toNat : Int)) W2 blk off dk2 := by rw [hw2]; exact holds_putRow _ w blk off d dk2 AH.out hs2
            obtain ⟨G2, hG2⟩ : ∃ G : Nat → Int, ∀ t, G t = (dk2[t]!.toNat : Int) := ⟨_, fun _ => rfl⟩
            have hc2 : ∀ t, t < d.size → W2.cell? ⟨blk, off + t, none⟩ = some (.int .u8 (G2 t)) := fun t ht => by rw [hG2]; exact (hH2 t (by omega)).1
            have hf2 : ∀ t, t < d.size → W2.frozen? ⟨blk, off + t, none⟩ = false := fun t ht => (hH2 t (by omega)).2
            have AW2 := Lib.hid hw2
            have HS2 := Lib.hid hs2
            clear hw2 hG2 hH2 hs2
            have hs2 := HS2.out
            go_name_slot 16 x2 hx2
            have hxe2 : x2 = (((x / 10000) % 100 * 2 : Nat) : Int) := by omega
            have hXa2 : ∀ w, (Instr.index 9 (.string Lib.smalls) (.int .u32 (x2 + 1))).run Tryd.prog w = .ok (.int .u8 ((sm ((x / 10000) % 100 * 2 + 1)).toNat : Int)) w := idx_smalls 9 Tryd.underlying9 .u32 _ _ (by omega) (by omega)
            have hXb2 : ∀ w, (Instr.index 9 (.string Lib.smalls) (.int .u32 x2)).run Tryd.prog w = .ok (.int .u8 ((sm ((x / 10000) % 100 * 2)).toNat : Int)) w := idx_smalls 9 Tryd.underlying9 .u32 _ _ (by omega) (by omega)
            have hlo2 : 0 ≤ x2 := by omega
            have hhi2 : x2 ≤ 198 := by omega
            clear hx2 hxe2
            go_region
            go_wp2
            go_end0
            exact ⟨rfl, n + 2 + 1, by rw [AW2.out, ← HI2.out]; exact store21_world w blk off dk2 (n + 2) (k + 1) (k) _ _ _ (x / 10000 / 100) (by have e : ((x / 10000 / 100 : Nat) : Int) = (x : Int) / 10000 / 100 := (by rw [Int.natCast_ediv, Int.natCast_ediv]; rfl); omega) (by omega) (by omega)⟩
          · have HI0 := kept ((tail_60 k x dk0 (by omega)).symm.trans hfin'.out)
            have hk2 : k ≤ 0 := by omega
            clear hfin' h8 hk
            go_wp2
            have hs0 := HS0.out
            go_name_slot 15 x0 hx0
            have hxe0 : x0 = (((x) % 100 * 2 : Nat) : Int) := by omega
            have hXa0 : ∀ w, (Instr.index 9 (.string Lib.smalls) (.int .u32 (x0 + 1))).run Tryd.prog w = .ok (.int .u8 ((sm ((x) % 100 * 2 + 1)).toNat : Int)) w := idx_smalls 9 Tryd.underlying9 .u32 _ _ (by omega) (by omega)
            have hXb0 : ∀ w, (Instr.index 9 (.string Lib.smalls) (.int .u32 x0)).run Tryd.prog w = .ok (.int .u8 ((sm ((x) % 100 * 2)).toNat : Int)) w := idx_smalls 9 Tryd.underlying9 .u32 _ _ (by omega) (by omega)
            have hlo0 : 0 ≤ x0 := by omega
            have hhi0 : x0 ≤ 198 := by omega
            clear hx0 hxe0
            go_region
            go_wp2
            go_name_world W1 hW1
            have hw1 : W1 = (putRow (fun (b : UInt8) => Value.int .u8 (b.toNat : Int)) w blk off (s2 (k + 4) (x) dk0)).drewN (n + 0 + 1) := by rw [← hW1]; exact (by rw [AW0.out]; exact store2_world w blk off dk0 (n + 0) (k + 4 + 1) (k + 4) _ _ (by omega) (by omega))
            have hs1 : (s2 (k + 4) (x) dk0).size = d.size := by rw [s2_size]; exact hs0
            have hg1 := HI0.out
            generalize s2 (k + 4) (x) dk0 = dk1 at hw1 hs1 hg1
            have HI1 := kept hg1
            clear hg1 hW1 hc0 hf0 AW0 HI0 HS0 hs0 hXa0 hXb0
            have hH1 : Holds (fun (b : UInt8) => Value.int .u8 (b.toNat : Int)) W1 blk off dk1 := by rw [hw1]; exact holds_putRow _ w blk off d dk1 AH.out hs1
            obtain ⟨G1, hG1⟩ : ∃ G : Nat → Int, ∀ t, G t = (dk1[t]!.toNat : Int) := ⟨_, fun _ => rfl⟩
            have hc1 : ∀ t, t < d.size → W1.cell? ⟨blk, off + t, none⟩ = some (.int .u8 (G1 t)) := fun t ht => by rw [hG1]; exact (hH1 t (by omega)).1
            have hf1 : ∀ t, t < d.size → W1.frozen? ⟨blk, off + t, none⟩ = false := fun t ht => (hH1 t (by omega)).2
            have AW1 := Lib.hid hw1
            have HS1 := Lib.hid hs1
            clear hw1 hG1 hH1 hs1
            have hs1 := HS1.out
            go_name_slot 14 x1 hx1
            have hxe1 : x1 = (((x / 100) % 100 * 2 : Nat) : Int) := by omega
            have hXa1 : ∀ w, (Instr.index 9 (.string Lib.smalls) (.int .u32 (x1 + 1))).run Tryd.prog w = .ok (.int .u8 ((sm ((x / 100) % 100 * 2 + 1)).toNat : Int)) w := idx_smalls 9 Tryd.underlying9 .u32 _ _ (by omega) (by omega)
            have hXb1 : ∀ w, (Instr.index 9 (.string Lib.smalls) (.int .u32 x1)).run Tryd.prog w = .ok (.int .u8 ((sm ((x / 100) % 100 * 2)).toNat : Int)) w := idx_smalls 9 Tryd.underlying9 .u32 _ _ (by omega) (by omega)
            have hlo1 : 0 ≤ x1 := by omega
            have hhi1 : x1 ≤ 198 := by omega
            clear hx1 hxe1
            go_region
            go_wp2
            go_name_world W2 hW2
            have hw2 : W2 = (putRow (fun (b : UInt8) => Value.int .u8 (b.toNat : Int)) w blk off (s2 (k + 2) (x / 100) dk1)).drewN (n + 1 + 1) := by rw [← hW2]; exact (by rw [AW1.out]; exact store2_world w blk off dk1 (n + 1) (k + 2 + 1) (k + 2) _ _ (by omega) (by omega))
            have hs2 : (s2 (k + 2) (x / 100) dk1).size = d.size := by rw [s2_size]; exact hs1
            have hg2 := HI1.out
            generalize s2 (k + 2) (x / 100) dk1 = dk2 at hw2 hs2 hg2
            have HI2 := kept hg2
            clear hg2 hW2 hc1 hf1 AW1 HI1 HS1 hs1 hXa1 hXb1
            have hH2 : Holds (fun (b : UInt8) => Value.int .u8 (b.toNat : Int)) W2 blk off dk2 := by rw [hw2]; exact holds_putRow _ w blk off d dk2 AH.out hs2
            obtain ⟨G2, hG2⟩ : ∃ G : Nat → Int, ∀ t, G t = (dk2[t]!.toNat : Int) := ⟨_, fun _ => rfl⟩
            have hc2 : ∀ t, t < d.size → W2.cell? ⟨blk, off + t, none⟩ = some (.int .u8 (G2 t)) := fun t ht => by rw [hG2]; exact (hH2 t (by omega)).1
            have hf2 : ∀ t, t < d.size → W2.frozen? ⟨blk, off + t, none⟩ = false := fun t ht => (hH2 t (by omega)).2
            have AW2 := Lib.hid hw2
            have HS2 := Lib.hid hs2
            clear hw2 hG2 hH2 hs2
            have hs2 := HS2.out
            go_name_slot 16 x2 hx2
            have hxe2 : x2 = (((x / 10000) % 100 * 2 : Nat) : Int) := by omega
            have hXa2 : ∀ w, (Instr.index 9 (.string Lib.smalls) (.int .u32 (x2 + 1))).run Tryd.prog w = .ok (.int .u8 ((sm ((x / 10000) % 100 * 2 + 1)).toNat : Int)) w := idx_smalls 9 Tryd.underlying9 .u32 _ _ (by omega) (by omega)
            have hXb2 : ∀ w, (Instr.index 9 (.string Lib.smalls) (.int .u32 x2)).run Tryd.prog w = .ok (.int .u8 ((sm ((x / 10000) % 100 * 2)).toNat : Int)) w := idx_smalls 9 Tryd.underlying9 .u32 _ _ (by omega) (by omega)
            have hlo2 : 0 ≤ x2 := by omega
            have hhi2 : x2 ≤ 198 := by omega
            clear hx2 hxe2
            go_region
            go_wp2
            go_end0
            exact ⟨rfl, n + 2 + 1, by rw [AW2.out, ← HI2.out]; first | exact store2_world w blk off dk2 (n + 2) (k + 1) (k) _ _ (by omega) (by omega) | (have hk0 : k = 0 := (by omega); subst hk0; exact store2_world w blk off dk2 (n + 2) (0 + 1) 0 _ _ (by omega) (by omega))⟩
        · obtain ⟨k, rfl⟩ : ∃ k, nd = k + 4 := ⟨nd - 4, by omega⟩
          by_cases hk : 0 < k
          · have HI0 := kept ((tail_41 k x dk0 hk (by omega)).symm.trans hfin'.out)
            have hk2 : k < 2 := by omega
            clear hfin' h8
            go_wp2
            have hs0 := HS0.out
            go_name_slot 15 x0 hx0
            have hxe0 : x0 = (((x) % 100 * 2 : Nat) : Int) := by omega
            have hXa0 : ∀ w, (Instr.index 9 (.string Lib.smalls) (.int .u32 (x0 + 1))).run Tryd.prog w = .ok (.int .u8 ((sm ((x) % 100 * 2 + 1)).toNat : Int)) w := idx_smalls 9 Tryd.underlying9 .u32 _ _ (by omega) (by omega)
            have hXb0 : ∀ w, (Instr.index 9 (.string Lib.smalls) (.int .u32 x0)).run Tryd.prog w = .ok (.int .u8 ((sm ((x) % 100 * 2)).toNat : Int)) w := idx_smalls 9 Tryd.underlying9 .u32 _ _ (by omega) (by omega)
            have hlo0 : 0 ≤ x0 := by omega
            have hhi0 : x0 ≤ 198 := by omega
            clear hx0 hxe0
            go_region
            go_wp2
            go_name_world W1 hW1
            have hw1 : W1 = (putRow (fun (b : UInt8) => Value.int .u8 (b.toNat : Int)) w blk off (s2 (k + 2) (x) dk0)).drewN (n + 0 + 1) := by rw [← hW1]; exact (by rw [AW0.out]; exact store2_world w blk off dk0 (n + 0) (k + 2 + 1) (k + 2) _ _ (by omega) (by omega))
            have hs1 : (s2 (k + 2) (x) dk0).size = d.size := by rw [s2_size]; exact hs0
            have hg1 := HI0.out
            generalize s2 (k + 2) (x) dk0 = dk1 at hw1 hs1 hg1
            have HI1 := kept hg1
            clear hg1 hW1 hc0 hf0 AW0 HI0 HS0 hs0 hXa0 hXb0
            have hH1 : Holds (fun (b : UInt8) => Value.int .u8 (b.toNat : Int)) W1 blk off dk1 := by rw [hw1]; exact holds_putRow _ w blk off d dk1 AH.out hs1
            obtain ⟨G1, hG1⟩ : ∃ G : Nat → Int, ∀ t, G t = (dk1[t]!.toNat : Int) := ⟨_, fun _ => rfl⟩
            have hc1 : ∀ t, t < d.size → W1.cell? ⟨blk, off + t, none⟩ = some (.int .u8 (G1 t)) := fun t ht => by rw [hG1]; exact (hH1 t (by omega)).1
            have hf1 : ∀ t, t < d.size → W1.frozen? ⟨blk, off + t, none⟩ = false := fun t ht => (hH1 t (by omega)).2
            have AW1 := Lib.hid hw1
            have HS1 := Lib.hid hs1
            clear hw1 hG1 hH1 hs1
            have hs1 := HS1.out
            go_name_slot 14 x1 hx1
            have hxe1 : x1 = (((x / 100) % 100 * 2 : Nat) : Int) := by omega
            have hXa1 : ∀ w, (Instr.index 9 (.string Lib.smalls) (.int .u32 (x1 + 1))).run Tryd.prog w = .ok (.int .u8 ((sm ((x / 100) % 100 * 2 + 1)).toNat : Int)) w := idx_smalls 9 Tryd.underlying9 .u32 _ _ (by omega) (by omega)
            have hXb1 : ∀ w, (Instr.index 9 (.string Lib.smalls) (.int .u32 x1)).run Tryd.prog w = .ok (.int .u8 ((sm ((x / 100) % 100 * 2)).toNat : Int)) w := idx_smalls 9 Tryd.underlying9 .u32 _ _ (by omega) (by omega)
            have hlo1 : 0 ≤ x1 := by omega
            have hhi1 : x1 ≤ 198 := by omega
            clear hx1 hxe1
            go_region
            go_wp2
            go_end0
            exact ⟨rfl, n + 1 + 1, by rw [AW1.out, ← HI1.out]; exact store21_world w blk off dk1 (n + 1) (k + 1) (k) _ _ _ (x / 10000) (by omega) (by omega) (by omega)⟩
          · have HI0 := kept ((tail_40 k x dk0 (by omega)).symm.trans hfin'.out)
            have hk2 : k ≤ 0 := by omega
            clear hfin' h8 hk
            go_wp2
            have hs0 := HS0.out
            go_name_slot 15 x0 hx0
            have hxe0 : x0 = (((x) % 100 * 2 : Nat) : Int) := by omega
            have hXa0 : ∀ w, (Instr.index 9 (.string Lib.smalls) (.int .u32 (x0 + 1))).run Tryd.prog w = .ok (.int .u8 ((sm ((x) % 100 * 2 + 1)).toNat : Int)) w := idx_smalls 9 Tryd.underlying9 .u32 _ _ (by omega) (by omega)
            have hXb0 : ∀ w, (Instr.index 9 (.string Lib.smalls) (.int .u32 x0)).run Tryd.prog w = .ok (.int .u8 ((sm ((x) % 100 * 2)).toNat : Int)) w := idx_smalls 9 Tryd.underlying9 .u32 _ _ (by omega) (by omega)
            have hlo0 : 0 ≤ x0 := by omega
            have hhi0 : x0 ≤ 198 := by omega
            clear hx0 hxe0
            go_region
            go_wp2
            go_name_world W1 hW1
            have hw1 : W1 = (putRow (fun (b : UInt8) => Value.int .u8 (b.toNat : Int)) w blk off (s2 (k + 2) (x) dk0)).drewN (n + 0 + 1) := by rw [← hW1]; exact (by rw [AW0.out]; exact store2_world w blk off dk0 (n + 0) (k + 2 + 1) (k + 2) _ _ (by omega) (by omega))
            have hs1 : (s2 (k + 2) (x) dk0).size = d.size := by rw [s2_size]; exact hs0
            have hg1 := HI0.out
            generalize s2 (k + 2) (x) dk0 = dk1 at hw1 hs1 hg1
            have HI1 := kept hg1
            clear hg1 hW1 hc0 hf0 AW0 HI0 HS0 hs0 hXa0 hXb0
            have hH1 : Holds (fun (b : UInt8) => Value.int .u8 (b.toNat : Int)) W1 blk off dk1 := by rw [hw1]; exact holds_putRow _ w blk off d dk1 AH.out hs1
            obtain ⟨G1, hG1⟩ : ∃ G : Nat → Int, ∀ t, G t = (dk1[t]!.toNat : Int) := ⟨_, fun _ => rfl⟩
            have hc1 : ∀ t, t < d.size → W1.cell? ⟨blk, off + t, none⟩ = some (.int .u8 (G1 t)) := fun t ht => by rw [hG1]; exact (hH1 t (by omega)).1
            have hf1 : ∀ t, t < d.size → W1.frozen? ⟨blk, off + t, none⟩ = false := fun t ht => (hH1 t (by omega)).2
            have AW1 := Lib.hid hw1
            have HS1 := Lib.hid hs1
            clear hw1 hG1 hH1 hs1
            have hs1 := HS1.out
            go_name_slot 14 x1 hx1
            have hxe1 : x1 = (((x / 100) % 100 * 2 : Nat) : Int) := by omega
            have hXa1 : ∀ w, (Instr.index 9 (.string Lib.smalls) (.int .u32 (x1 + 1))).run Tryd.prog w = .ok (.int .u8 ((sm ((x / 100) % 100 * 2 + 1)).toNat : Int)) w := idx_smalls 9 Tryd.underlying9 .u32 _ _ (by omega) (by omega)
            have hXb1 : ∀ w, (Instr.index 9 (.string Lib.smalls) (.int .u32 x1)).run Tryd.prog w = .ok (.int .u8 ((sm ((x / 100) % 100 * 2)).toNat : Int)) w := idx_smalls 9 Tryd.underlying9 .u32 _ _ (by omega) (by omega)
            have hlo1 : 0 ≤ x1 := by omega
            have hhi1 : x1 ≤ 198 := by omega
            clear hx1 hxe1
            go_region
            go_wp2
            go_end0
            exact ⟨rfl, n + 1 + 1, by rw [AW1.out, ← HI1.out]; first | exact store2_world w blk off dk1 (n + 1) (k + 1) (k) _ _ (by omega) (by omega) | (have hk0 : k = 0 := (by omega); subst hk0; exact store2_world w blk off dk1 (n + 1) (0 + 1) 0 _ _ (by omega) (by omega))⟩
      · by_cases h2 : 2 ≤ nd
        · obtain ⟨k, rfl⟩ : ∃ k, nd = k + 2 := ⟨nd - 2, by omega⟩
          by_cases hk : 0 < k
          · have HI0 := kept ((tail_21 k x dk0 hk (by omega)).symm.trans hfin'.out)
            have hk2 : k < 2 := by omega
            clear hfin' h8
            go_wp2
            have hs0 := HS0.out
            go_name_slot 16 x0 hx0
            have hxe0 : x0 = (((x) % 100 * 2 : Nat) : Int) := by omega
            have hXa0 : ∀ w, (Instr.index 9 (.string Lib.smalls) (.int .u32 (x0 + 1))).run Tryd.prog w = .ok (.int .u8 ((sm ((x) % 100 * 2 + 1)).toNat : Int)) w := idx_smalls 9 Tryd.underlying9 .u32 _ _ (by omega) (by omega)
            have hXb0 : ∀ w, (Instr.index 9 (.string Lib.smalls) (.int .u32 x0)).run Tryd.prog w = .ok (.int .u8 ((sm ((x) % 100 * 2)).toNat : Int)) w := idx_smalls 9 Tryd.underlying9 .u32 _ _ (by omega) (by omega)
            have hlo0 : 0 ≤ x0 := by omega
            have hhi0 : x0 ≤ 198 := by omega
            clear hx0 hxe0
            go_region
            go_wp2
            go_end0
            exact ⟨rfl, n + 0 + 1, by rw [AW0.out, ← HI0.out]; exact store21_world w blk off dk0 (n + 0) (k + 1) (k) _ _ _ (x / 100) (by omega) (by omega) (by omega)⟩
          · have HI0 := kept ((tail_20 k x dk0 (by omega)).symm.trans hfin'.out)
            have hk2 : k ≤ 0 := by omega
            clear hfin' h8 hk
            go_wp2
            have hs0 := HS0.out
            go_name_slot 16 x0 hx0
            have hxe0 : x0 = (((x) % 100 * 2 : Nat) : Int) := by omega
            have hXa0 : ∀ w, (Instr.index 9 (.string Lib.smalls) (.int .u32 (x0 + 1))).run Tryd.prog w = .ok (.int .u8 ((sm ((x) % 100 * 2 + 1)).toNat : Int)) w := idx_smalls 9 Tryd.underlying9 .u32 _ _ (by omega) (by omega)
            have hXb0 : ∀ w, (Instr.index 9 (.string Lib.smalls) (.int .u32 x0)).run Tryd.prog w = .ok (.int .u8 ((sm ((x) % 100 * 2)).toNat : Int)) w := idx_smalls 9 Tryd.underlying9 .u32 _ _ (by omega) (by omega)
            have hlo0 : 0 ≤ x0 := by omega
            have hhi0 : x0 ≤ 198 := by omega
            clear hx0 hxe0
            go_region
            go_wp2
            go_end0
            exact ⟨rfl, n + 0 + 1, by rw [AW0.out, ← HI0.out]; first | exact store2_world w blk off dk0 (n + 0) (k + 1) (k) _ _ (by omega) (by omega) | (have hk0 : k = 0 := (by omega); subst hk0; exact store2_world w blk off dk0 (n + 0) (0 + 1) 0 _ _ (by omega) (by omega))⟩
        · by_cases h1 : nd = 1
          · subst h1
            have HI0 := kept ((tail_1 x dk0).symm.trans hfin'.out)
            clear hfin' h8 h4 h2
            have hs0 := HS0.out
            go_wp2
            go_end0
            exact ⟨rfl, n, by rw [AW0.out, ← HI0.out]; exact store1_world0 w blk off dk0 n _ x (by omega) (by omega)⟩
          · obtain rfl : nd = 0 := by omega
            have HI0 := kept ((tail_0 x dk0).symm.trans hfin'.out)
            clear hfin' h8 h4 h2 h1
            go_wp2
            go_end0
            exact ⟨rfl, n, by rw [AW0.out, ← HI0.out]⟩

end Go.Proofs.YtfecccobihdopaaDoor
