/-
  Package aes: the next round key, by a contract.
-/
import Derived.Test.YtnfgmgkdkfeekaaPm13
import Derived.Test.YtnfgmgkdkfeekaaPm17
import Derived.Test.YtnfgmgkdkfeekaaPm8
import Derived.Test.YtnfgmgkdkfeekaaPm7
namespace Go.Proofs.Ytnfgmgkdkfeekaa
open Go.RowKit
set_option linter.unusedVariables false
set_option linter.unusedSimpArgs false

/-- What the first column of the next key is combined with. -/
def nkT (key : Nat → UInt8) (p : UInt8) : Nat → UInt8 := fun r => if r = 0 then gxr (gsub (key 13)) p else gsub (key (12 + (r + 1) % 4))
/-- A byte of the next key: its column and its row. -/
def nkC (key t : Nat → UInt8) : Nat → Nat → UInt8
  | 0, r => gxr (key r) (t r)
  | q + 1, r => gxr (key (4 * (q + 1) + r)) (nkC key t q r)
def nkV (key t : Nat → UInt8) (i : Nat) : UInt8 := nkC key t (i / 4) (i % 4)
/-- What the key and the column hold behind n bytes. -/
def nkK (key t : Nat → UInt8) (n : Nat) : Nat → UInt8 := fun j => if j < n then nkV key t j else key j
def nkL (key t : Nat → UInt8) (n : Nat) : Nat → UInt8 := fun r => if n ≤ r then t r else nkC key t ((n - 1 - r) / 4) r
theorem nkK_set (key t : Nat → UInt8) (n j : Nat) : nkK key t (n + 1) j = if j = n then nkV key t n else nkK key t n j := by
  unfold nkK
  by_cases e : j = n
  · subst e; rw [if_pos (by omega), if_pos rfl]
  · rw [if_neg e]
    by_cases h : j < n
    · rw [if_pos h, if_pos (by omega)]
    · rw [if_neg h, if_neg (by omega)]
theorem nkK_at (key t : Nat → UInt8) (n : Nat) : nkK key t n n = key n := if_neg (by omega)
theorem nkL_set (key t : Nat → UInt8) (n j : Nat) (hj : j < 4) : nkL key t (n + 1) j = if j = n % 4 then nkV key t n else nkL key t n j := by
  unfold nkL nkV
  by_cases e : j = n % 4
  · rw [if_pos e, if_neg (by omega), e, show (n + 1 - 1 - n % 4) / 4 = n / 4 by omega]
  · rw [if_neg e]
    by_cases h : n ≤ j
    · rw [if_pos h, if_pos (by omega)]
    · rw [if_neg h, if_neg (by omega), show (n + 1 - 1 - j) / 4 = (n - 1 - j) / 4 by omega]
theorem nkV_step (key t : Nat → UInt8) (n : Nat) : gxr (key n) (nkL key t n (n % 4)) = nkV key t n := by
  unfold nkL nkV
  obtain ⟨q, r, hr, rfl⟩ : ∃ q r, r < 4 ∧ n = 4 * q + r := ⟨n / 4, n % 4, by omega, by omega⟩
  rw [show (4 * q + r) % 4 = r by omega, show (4 * q + r) / 4 = q by omega]
  cases q with
  | zero => rw [if_pos (by omega), nkC, show 4 * 0 + r = r by omega]
  | succ q => rw [if_neg (by omega), nkC, show (4 * (q + 1) + r - 1 - r) / 4 = q by omega]
theorem nkK_all (key t : Nat → UInt8) : bA 16 (nkK key t 16) = bA 16 (nkV key t) := bA_ext fun j hj => if_pos hj
/-- The column that is replaced byte by byte. -/
def sbF (c : Nat → UInt8) (n : Nat) : Nat → UInt8 := fun j => if j < n then gsub (c j) else c j
theorem sbF_set (c : Nat → UInt8) (n j : Nat) : sbF c (n + 1) j = if j = n then gsub (c n) else sbF c n j := by
  unfold sbF
  by_cases e : j = n
  · subst e; rw [if_pos (by omega), if_pos rfl]
  · rw [if_neg e]
    by_cases h : j < n
    · rw [if_pos h, if_pos (by omega)]
    · rw [if_neg h, if_neg (by omega)]
theorem sbF_at (c : Nat → UInt8) (n : Nat) : sbF c n n = c n := if_neg (by omega)
structure NEnv (w : World) (key : Nat → UInt8) (W : World) : Prop where
  bk : Blk W w.heap.size 22 (bA 16 key)
  br : Blk W (w.heap.size + 1) 22 (bA 16 fun _ => 0)
  bw : Below w.heap.size w W
theorem NEnv.set {w W : World} {key : Nat → UInt8} (h : NEnv w key W) {g : Nat} (hg : w.heap.size + 2 ≤ g) (i : Nat) (u : Value) : NEnv w key (W.setCell ⟨g, i, none⟩ u) :=
  ⟨h.bk.far (by show w.heap.size ≠ g; omega) u, h.br.far (by show w.heap.size + 1 ≠ g; omega) u, h.bw.setCell (by show w.heap.size ≤ g; omega) u⟩
theorem NEnv.alloc {w W : World} {key : Nat → UInt8} (h : NEnv w key W) (o : Obj) : NEnv w key (W.alloc o) := ⟨h.bk.alloc o, h.br.alloc o, h.bw.alloc h.bw.size o⟩
theorem NEnv.drew {w W : World} {key : Nat → UInt8} (h : NEnv w key W) : NEnv w key W.drew := ⟨h.bk.drew_, h.br.drew_, h.bw.drew⟩
theorem NEnv.below {w W W' : World} {key : Nat → UInt8} (h : NEnv w key W) (k : Below W.heap.size W W') : NEnv w key W' := ⟨h.bk.below k h.bk.lt, h.br.below k h.br.lt, h.bw.trans (k.mono h.bw.size)⟩
theorem NEnv.row {w W : World} {key : Nat → UInt8} (h : NEnv w key W) {g : Nat} (hg : w.heap.size + 2 ≤ g) (ds : Array Value) : NEnv w key (W.setRow g ds) := ⟨h.bk.row_far (by omega), h.br.row_far (by omega), below_setRow h.bw (by omega) _⟩
set_option maxHeartbeats 4000000 in
set_option maxRecDepth 100000 in
theorem anext_any (w : World) (key : Nat → UInt8) (p : UInt8) : Calls Try.prog 35 #[.agg (bA 16 key), .int .u8 (p.toNat : Int)] w fun e w' => e = .returned (.agg (bA 16 (nkV key (nkT key p)))) ∧ Below w.heap.size w w' := by
  have hp := byte_lt p
  have HCOL := kept (fun w => acol_any w key 3 (by omega))
  obtain ⟨c, hc⟩ : ∃ c : Nat → UInt8, (fun r => key (4 * 3 + r)) = c := ⟨_, rfl⟩
  rw [hc] at HCOL
  obtain ⟨m, hm⟩ : ∃ m, mvd c = m := ⟨_, rfl⟩
  have HMOV := kept (fun w => amov_any w c)
  rw [hm] at HMOV
  have HT := kept (show ∀ j, j < 4 → nkT key p j = if j = 0 then gxr (gsub (m 0)) p else gsub (m j) from fun j hj => by
    rw [← hm, ← hc]
    unfold nkT mvd
    rfl)
  generalize nkT key p = t at HT
  obtain ⟨RR, hRR⟩ : ∃ RR, nkV key t = RR := ⟨_, rfl⟩
  rw [hRR]
  have HRR := kept hRR
  clear hc hm hRR
  go_enter Try.func35, Try.ntmps35
  go_upto_region 1 with (fail)
  go_name_world W0 hW0
  have HE0 := kept (show NEnv w key W0 by
    rw [← hW0]
    have n0 := Blk.new w 22 (bA 16 key)
    have n1 := Blk.new (w.alloc (.cells (bA 16 key) 22)) 22 (bA 16 fun _ => 0)
    simp only [World.size_alloc] at n1
    exact ⟨n0.alloc _, n1, ((Below.refl _ _).alloc (Nat.le_refl _) _).alloc (by simp) _⟩)
  clear hW0
  go_wp2_with (refine wpList_load_row rfl 22 (.tmp 2) rfl w.heap.size rfl 22 (bA 16 key) (0, 0) _ HE0.out.bk Try.underlying22 rfl (by rw [b16_size, bA_size]) ?_)
  refine (HCOL.out W0).mono ?_
  rintro e W1 ⟨rfl, kb⟩
  have HE1 := kept (HE0.out.below kb)
  clear HE0 kb HCOL
  go_wp2_with fail
  refine (HMOV.out W1).mono ?_
  rintro e W2 ⟨rfl, kb⟩
  have HE2 := kept (HE1.out.below kb)
  clear HE1 kb HMOV
  have hg5 : w.heap.size + 1 < W2.heap.size := HE2.out.br.lt
  go_upto_region 2 with (refine wpList_store_row rfl 70 (.tmp 5) (.tmp 10) rfl W2.heap.size (bA 4 m) rfl rfl 70 (bA 4 fun _ => 0) (Blk.new W2 _ _) (by rw [b4_size, bA_size]) (by rw [bA_size, bA_size]) (bA_one _ _) ?_)
  go_name_world W3 hW3
  have HE3 := kept (show NEnv w key W3 by rw [← hW3]; exact (HE2.out.alloc _).row (by omega) _)
  have HM3 := kept (show Blk W3 W2.heap.size 70 (bA 4 (sbF m 0)) by
    rw [← hW3, show bA 4 (sbF m 0) = bA 4 m from bA_ext fun j _ => if_neg (by omega)]
    exact setRow_heap _ _ _ _ _ _ (Blk.new W2 _ _))
  clear hW3 HE2
  generalize W2.heap.size = g5 at hg5 HM3
  go_wp2_with fail
  go_loopw [11] (fun i wr => ∃ n : Nat, n ≤ 4 ∧ i = .int .i64 n ∧ Kept (NEnv w key wr) ∧ Kept (Blk wr g5 70 (bA 4 (sbF m n)))) (fun i _ => 4 - (intOf i).toNat)
  case atStart => exact ⟨0, Nat.zero_le _, rfl, HE3, HM3⟩
  case round =>
    obtain ⟨n, hn, rfl, HE4, HM4⟩ := hrel
    rename World => W4
    clear HE3 HM3
    by_cases hlt : n < 4
    · have hn4 : (n : Int) < 4 := by omega
      have HST := kept (sbF_set m n)
      have c1 : W4.cell? ⟨g5, n, none⟩ = some (.int .u8 ((m n).toNat : Int)) := by rw [HM4.out.cell, bA_at _ _ hlt, sbF_at]
      generalize m n = x at c1 HST
      go_wp2_with fail
      refine (fsub_any W4 x).mono ?_
      rintro e W5 ⟨rfl, kb⟩
      have HE5 := kept (HE4.out.below kb)
      have HM5 := kept (HM4.out.below kb HM4.out.lt)
      have c2 : W5.cell? ⟨g5, n, none⟩ = some (.int .u8 (x.toNat : Int)) := by rw [← c1]; exact kb.cell (p := ⟨g5, n, none⟩) HM4.out.lt
      have f2 := HM5.out.frozen n
      clear HE4 HM4 kb c1
      generalize gsub x = y at HST
      go_wp2
      go_roundw
      case rel => exact ⟨n + 1, by omega, by go_num, kept (HE5.out.set (by omega) _ _), kept (HM5.out.putB n y fun j _ => HST.out j)⟩
      case measure => simp [intOf]; omega
    · obtain rfl : n = 4 := by omega
      have c1 : W4.cell? ⟨g5, 0, none⟩ = some (.int .u8 ((gsub (m 0)).toNat : Int)) := by rw [HM4.out.cell]; rfl
      have f1 := HM4.out.frozen 0
      have HT0 := kept (HT.out 0 (by omega))
      rw [if_pos rfl] at HT0
      have HT1 := kept (show ∀ j, j < 4 → j ≠ 0 → t j = sbF m 4 j from fun j hj h0 => by
        rw [HT.out j hj, if_neg h0]
        unfold sbF
        rw [if_pos hj])
      clear HT
      have hx := gx8 (gsub (m 0)) p
      generalize gxr (gsub (m 0)) p = z at hx HT0
      generalize gsub (m 0) = y at hx c1
      go_upto_region 8 with (fail)
      go_name_world W5 hW5
      have HT5 := kept (show Blk W5 g5 70 (bA 4 (nkL key t 0)) by
        rw [← hW5]
        refine HM4.out.putB 0 z fun j hj => ?_
        show t j = _
        by_cases h : j = 0
        · rw [if_pos h, h, HT0.out]
        · rw [if_neg h, HT1.out j hj h])
      have HE5 := kept (show NEnv w key W5 by rw [← hW5]; exact HE4.out.set (by omega) _ _)
      have HK5 := kept (show Blk W5 w.heap.size 22 (bA 16 (nkK key t 0)) by rw [show bA 16 (nkK key t 0) = bA 16 key from bA_ext fun j _ => if_neg (by omega)]; exact HE5.out.bk)
      have HZ5 := kept HE5.out.br
      have HW5 := kept HE5.out.bw
      clear hW5 HM4 HE4 HE5 HT0 HT1 hx c1 f1 hn hlt
      go_wp2_with fail
      go_loopw [26] (fun i wr => ∃ n : Nat, n ≤ 16 ∧ i = .int .i64 n ∧ Kept (Blk wr g5 70 (bA 4 (nkL key t n))) ∧ Kept (Blk wr w.heap.size 22 (bA 16 (nkK key t n))) ∧ Kept (Blk wr (w.heap.size + 1) 22 (bA 16 fun _ => 0)) ∧ Kept (Below w.heap.size w wr)) (fun i _ => 16 - (intOf i).toNat)
      case atStart => exact ⟨0, Nat.zero_le _, rfl, HT5, HK5, HZ5, HW5⟩
      case round =>
        obtain ⟨n, hn, rfl, HT6, HK6, HZ6, HW6⟩ := hrel
        rename World => W6
        clear HT5 HK5 HZ5 HW5
        by_cases hlt : n < 16
        · have hn16 : (n : Int) < 16 := by omega
          have HS1 := kept (nkK_set key t n)
          have HS2 := kept (nkL_set key t n)
          have hx := gx8 (key n) (nkL key t n (n % 4))
          rw [nkV_step] at hx
          have hr4 : n % 4 < 4 := by omega
          have hd : (n : Int).tmod 4 = ((n % 4 : Nat) : Int) := by
            rw [Int.tmod_eq_emod_of_nonneg (by omega)]
            omega
          have c1 : W6.cell? ⟨w.heap.size, n, none⟩ = some (.int .u8 ((key n).toNat : Int)) := by rw [HK6.out.cell, bA_at _ _ hlt, nkK_at]
          have c2 : W6.cell? ⟨g5, n % 4, none⟩ = some (.int .u8 ((nkL key t n (n % 4)).toNat : Int)) := by rw [HT6.out.cell]; exact bA_at _ _ hr4
          have f1 := HK6.out.frozen n
          have f2 := HT6.out.frozen (n % 4)
          generalize nkV key t n = z at hx HS1 HS2
          generalize key n = x at hx c1
          generalize nkL key t n (n % 4) = y at hx c2
          generalize n % 4 = r at hr4 hd c2 f2 HS2
          have hr4' : (r : Int) < 4 := by omega
          have hne1 : ¬ g5 = w.heap.size := by omega
          have hne2 : ¬ w.heap.size = g5 := by omega
          go_wp2_with fail
          go_region
          all_goals go_wp2
          go_roundw
          case rel => exact ⟨n + 1, by omega, by go_num, kept ((HT6.out.far (p := ⟨w.heap.size, n, none⟩) hne1 _).putB r z fun j hj => HS2.out j hj).drew_, kept ((HK6.out.putB n z fun j _ => HS1.out j).far (p := ⟨g5, r, none⟩) hne2 _).drew_, kept ((HZ6.out.far (p := ⟨w.heap.size, n, none⟩) (by show w.heap.size + 1 ≠ w.heap.size; omega) _).far (p := ⟨g5, r, none⟩) (by show w.heap.size + 1 ≠ g5; omega) _).drew_, kept ((HW6.out.setCell (p := ⟨w.heap.size, n, none⟩) (by show w.heap.size ≤ w.heap.size; omega) _).setCell (p := ⟨g5, r, none⟩) (by show w.heap.size ≤ g5; omega) _).drew⟩
          case measure => simp [intOf]; omega
        · obtain rfl : n = 16 := by omega
          have HK7 := kept (show Blk W6 w.heap.size 22 (bA 16 RR) by rw [← HRR.out, ← nkK_all]; exact HK6.out)
          clear HK6 HT6 hn hlt
          go_wp2_with (first | (refine wpList_load_row rfl 22 (.tmp 2) rfl w.heap.size rfl 22 (bA 16 RR) (0, 0) _ HK7.out Try.underlying22 rfl (by rw [b16_size, bA_size]) ?_) | (refine wpList_store_row rfl 22 (.tmp 4) (.tmp 45) rfl (w.heap.size + 1) (bA 16 RR) rfl rfl 22 (bA 16 fun _ => 0) HZ6.out (by rw [b16_size, bA_size]) (by rw [bA_size, bA_size]) (bA_one _ _) ?_))
          exact bodyPost_ret (v := .agg (bA 16 RR)) (results_cell_row Try.results35 _ _ (w.heap.size + 1) 22 (bA 16 RR) (0, 0) _ rfl (setRow_heap _ _ _ _ _ _ HZ6.out) Try.underlying22 rfl (by rw [b16_size, bA_size])) rfl ⟨rfl, below_setRow HW6.out (by omega) _⟩
end Go.Proofs.Ytnfgmgkdkfeekaa
