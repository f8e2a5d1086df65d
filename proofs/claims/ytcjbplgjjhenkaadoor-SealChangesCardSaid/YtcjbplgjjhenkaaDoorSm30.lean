/-
  divide of package seal, by a contract.
-/
import Derived.Test.YtcjbplgjjhenkaaDoorSm24
import Derived.Test.YtcjbplgjjhenkaaDoorSm20
import Derived.Test.YtcjbplgjjhenkaaDoorSm8
import Derived.Test.YtcjbplgjjhenkaaDoorSm12
import Derived.Test.YtcjbplgjjhenkaaDoorSm4
import Derived.Test.YtcjbplgjjhenkaaDoorSm22
import Derived.Test.YtcjbplgjjhenkaaDoorSm23
import Derived.Deep.Cut
/-
  Package aes: the next round key, by a contract.
-/
namespace Go.Proofs.YtcjbplgjjhenkaaDoor
open Go.RowKit
set_option linter.unusedVariables false
set_option linter.unusedSimpArgs false

/-- What the first column of the next key is combined with. -/
def nkT (key : Nat → UInt8) (p : UInt8) : Nat → UInt8 := fun r => if r = 0 then gxr (gsub (key 13)) p else gsub (key (12 + (r + 1) % 4))
/-- A byte of the next key: its column and its row. -/
def nkC (key t : Nat → UInt8) : Nat → Nat → UInt8
  | 0, r => gxr (key r) (t r)
  | q + 1, r => gxr (key (4 * (q + 1) + r)) (nkC key t q r)
def nkV (key t : Nat → UInt8) (i : Nat) : UInt8 := nkC key t (i / 4) (i % 4)
/-- What the key and the column hold behind n bytes. -/
def nkK (key t : Nat → UInt8) (n : Nat) : Nat → UInt8 := fun j => if j < n then nkV key t j else key j
def nkL (key t : Nat → UInt8) (n : Nat) : Nat → UInt8 := fun r => if n ≤ r then t r else nkC key t ((n - 1 - r) / 4) r
theorem nkK_set (key t : Nat → UInt8) (n j : Nat) : nkK key t (n + 1) j = if j = n then nkV key t n else nkK key t n j := by
  unfold nkK
  by_cases e : j = n
  · subst e; rw [if_pos (by omega), if_pos rfl]
  · rw [if_neg e]
    by_cases h : j < n
    · rw [if_pos h, if_pos (by omega)]
    · rw [if_neg h, if_neg (by omega)]
theorem nkK_at (key t : Nat → UInt8) (n : Nat) : nkK key t n n = key n := if_neg (by omega)
theorem nkL_set (key t : Nat → UInt8) (n j : Nat) (hj : j < 4) : nkL key t (n + 1) j = if j = n % 4 then nkV key t n else nkL key t n j := by
  unfold nkL nkV
  by_cases e : j = n % 4
  · rw [if_pos e, if_neg (by omega), e, show (n + 1 - 1 - n % 4) / 4 = n / 4 by omega]
  · rw [if_neg e]
    by_cases h : n ≤ j
    · rw [if_pos h, if_pos (by omega)]
    · rw [if_neg h, if_neg (by omega), show (n + 1 - 1 - j) / 4 = (n - 1 - j) / 4 by omega]
theorem nkV_step (key t : Nat → UInt8) (n : Nat) : gxr (key n) (nkL key t n (n % 4)) = nkV key t n := by
  unfold nkL nkV
  obtain ⟨q, r, hr, rfl⟩ : ∃ q r, r < 4 ∧ n = 4 * q + r := ⟨n / 4, n % 4, by omega, by omega⟩
  rw [show (4 * q + r) % 4 = r by omega, show (4 * q + r) / 4 = q by omega]
  cases q with
  | zero => rw [if_pos (by omega), nkC, show 4 * 0 + r = r by omega]
  | succ q => rw [if_neg (by omega), nkC, show (4 * (q + 1) + r - 1 - r) / 4 = q by omega]
theorem nkK_all (key t : Nat → UInt8) : bA 16 (nkK key t 16) = bA 16 (nkV key t) := bA_ext fun j hj => if_pos hj
/-- The column that is replaced byte by byte. -/
def sbF (c : Nat → UInt8) (n : Nat) : Nat → UInt8 := fun j => if j < n then gsub (c j) else c j
theorem sbF_set (c : Nat → UInt8) (n j : Nat) : sbF c (n + 1) j = if j = n then gsub (c n) else sbF c n j := by
  unfold sbF
  by_cases e : j = n
  · subst e; rw [if_pos (by omega), if_pos rfl]
  · rw [if_neg e]
    by_cases h : j < n
    · rw [if_pos h, if_pos (by omega)]
    · rw [if_neg h, if_neg (by omega)]
theorem sbF_at (c : Nat → UInt8) (n : Nat) : sbF c n n = c n := if_neg (by omega)
structure NEnv (w : World) (key : Nat → UInt8) (W : World) : Prop where
  bk : Blk W w.heap.size 22 (bA 16 key)
  br : Blk W (w.heap.size + 1) 22 (bA 16 fun _ => 0)
  bw : Below w.heap.size w W
theorem NEnv.set {w W : World} {key : Nat → UInt8} (h : NEnv w key W) {g : Nat} (hg : w.heap.size + 2 ≤ g) (i : Nat) (u : Value) : NEnv w key (W.setCell ⟨g, i, none⟩ u) :=
  ⟨h.bk.far (by show w.heap.size ≠ g; omega) u, h.br.far (by show w.heap.size + 1 ≠ g; omega) u, h.bw.setCell (by show w.heap.size ≤ g; omega) u⟩
theorem NEnv.alloc {w W : World} {key : Nat → UInt8} (h : NEnv w key W) (o : Obj) : NEnv w key (W.alloc o) := ⟨h.bk.alloc o, h.br.alloc o, h.bw.alloc h.bw.size o⟩
theorem NEnv.drew {w W : World} {key : Nat → UInt8} (h : NEnv w key W) : NEnv w key W.drew := ⟨h.bk.drew_, h.br.drew_, h.bw.drew⟩
theorem NEnv.below {w W W' : World} {key : Nat → UInt8} (h : NEnv w key W) (k : Below W.heap.size W W') : NEnv w key W' := ⟨h.bk.below k h.bk.lt, h.br.below k h.br.lt, h.bw.trans (k.mono h.bw.size)⟩
theorem NEnv.row {w W : World} {key : Nat → UInt8} (h : NEnv w key W) {g : Nat} (hg : w.heap.size + 2 ≤ g) (ds : Array Value) : NEnv w key (W.setRow g ds) := ⟨h.bk.row_far (by omega), h.br.row_far (by omega), below_setRow h.bw (by omega) _⟩
set_option maxHeartbeats 4000000 in
set_option maxRecDepth 100000 in
theorem anext_any (w : World) (key : Nat → UInt8) (p : UInt8) : Calls Tryd.prog 70 #[.agg (bA 16 key), .int .u8 (p.toNat : Int)] w fun e w' => e = .returned (.agg (bA 16 (nkV key (nkT key p)))) ∧ Below w.heap.size w w' := by
  have hp := byte_lt p
  have HCOL := kept (fun w => acol_any w key 3 (by omega))
  obtain ⟨c, hc⟩ : ∃ c : Nat → UInt8, (fun r => key (4 * 3 + r)) = c := ⟨_, rfl⟩
  rw [hc] at HCOL
  obtain ⟨m, hm⟩ : ∃ m, mvd c = m := ⟨_, rfl⟩
  have HMOV := kept (fun w => amov_any w c)
  rw [hm] at HMOV
  have HT := kept (show ∀ j, j < 4 → nkT key p j = if j = 0 then gxr (gsub (m 0)) p else gsub (m j) from fun j hj => by
    rw [← hm, ← hc]
    unfold nkT mvd
    rfl)
  generalize nkT key p = t at HT
  obtain ⟨RR, hRR⟩ : ∃ RR, nkV key t = RR := ⟨_, rfl⟩
  rw [hRR]
  have HRR := kept hRR
  clear hc hm hRR
  go_enter Tryd.func70, Tryd.ntmps70
  go_upto_region 1 with (fail)
  go_name_world W0 hW0
  have HE0 := kept (show NEnv w key W0 by
    rw [← hW0]
    have n0 := Blk.new w 22 (bA 16 key)
    have n1 := Blk.new (w.alloc (.cells (bA 16 key) 22)) 22 (bA 16 fun _ => 0)
    simp only [World.size_alloc] at n1
    exact ⟨n0.alloc _, n1, ((Below.refl _ _).alloc (Nat.le_refl _) _).alloc (by simp) _⟩)
  clear hW0
  go_wp2_with (refine wpList_load_row rfl 22 (.tmp 2) rfl w.heap.size rfl 22 (bA 16 key) (0, 0) _ HE0.out.bk Tryd.underlying22 rfl (by rw [b16_size, bA_size]) ?_)
  refine (HCOL.out W0).mono ?_
  rintro e W1 ⟨rfl, kb⟩
  have HE1 := kept (HE0.out.below kb)
  clear HE0 kb HCOL
  go_wp2_with fail
  refine (HMOV.out W1).mono ?_
  rintro e W2 ⟨rfl, kb⟩
  have HE2 := kept (HE1.out.below kb)
  clear HE1 kb HMOV
  have hg5 : w.heap.size + 1 < W2.heap.size := HE2.out.br.lt
  go_upto_region 2 with (refine wpList_store_row rfl 105 (.tmp 5) (.tmp 10) rfl W2.heap.size (bA 4 m) rfl rfl 105 (bA 4 fun _ => 0) (Blk.new W2 _ _) (by rw [b4_size, bA_size]) (by rw [bA_size, bA_size]) (bA_one _ _) ?_)
  go_name_world W3 hW3
  have HE3 := kept (show NEnv w key W3 by rw [← hW3]; exact (HE2.out.alloc _).row (by omega) _)
  have HM3 := kept (show Blk W3 W2.heap.size 105 (bA 4 (sbF m 0)) by
    rw [← hW3, show bA 4 (sbF m 0) = bA 4 m from bA_ext fun j _ => if_neg (by omega)]
    exact setRow_heap _ _ _ _ _ _ (Blk.new W2 _ _))
  clear hW3 HE2
  generalize W2.heap.size = g5 at hg5 HM3
  go_wp2_with fail
  go_loopw [11] (fun i wr => ∃ n : Nat, n ≤ 4 ∧ i = .int .i64 n ∧ Kept (NEnv w key wr) ∧ Kept (Blk wr g5 105 (bA 4 (sbF m n)))) (fun i _ => 4 - (intOf i).toNat)
  case atStart => exact ⟨0, Nat.zero_le _, rfl, HE3, HM3⟩
  case round =>
    obtain ⟨n, hn, rfl, HE4, HM4⟩ := hrel
    rename World => W4
    clear HE3 HM3
    by_cases hlt : n < 4
    · have hn4 : (n : Int) < 4 := by omega
      have HST := kept (sbF_set m n)
      have c1 : W4.cell? ⟨g5, n, none⟩ = some (.int .u8 ((m n).toNat : Int)) := by rw [HM4.out.cell, bA_at _ _ hlt, sbF_at]
      generalize m n = x at c1 HST
      go_wp2_with fail
      refine (fsub_any W4 x).mono ?_
      rintro e W5 ⟨rfl, kb⟩
      have HE5 := kept (HE4.out.below kb)
      have HM5 := kept (HM4.out.below kb HM4.out.lt)
      have c2 : W5.cell? ⟨g5, n, none⟩ = some (.int .u8 (x.toNat : Int)) := by rw [← c1]; exact kb.cell (p := ⟨g5, n, none⟩) HM4.out.lt
      have f2 := HM5.out.frozen n
      clear HE4 HM4 kb c1
      generalize gsub x = y at HST
      go_wp2
      go_roundw
      case rel => exact ⟨n + 1, by omega, by go_num, kept (HE5.out.set (by omega) _ _), kept (HM5.out.putB n y fun j _ => HST.out j)⟩
      case measure => simp [intOf]; omega
    · obtain rfl : n = 4 := by omega
      have c1 : W4.cell? ⟨g5, 0, none⟩ = some (.int .u8 ((gsub (m 0)).toNat : Int)) := by rw [HM4.out.cell]; rfl
      have f1 := HM4.out.frozen 0
      have HT0 := kept (HT.out 0 (by omega))
      rw [if_pos rfl] at HT0
      have HT1 := kept (show ∀ j, j < 4 → j ≠ 0 → t j = sbF m 4 j from fun j hj h0 => by
        rw [HT.out j hj, if_neg h0]
        unfold sbF
        rw [if_pos hj])
      clear HT
      have hx := gx8 (gsub (m 0)) p
      generalize gxr (gsub (m 0)) p = z at hx HT0
      generalize gsub (m 0) = y at hx c1
      go_upto_region 8 with (fail)
      go_name_world W5 hW5
      have HT5 := kept (show Blk W5 g5 105 (bA 4 (nkL key t 0)) by
        rw [← hW5]
        refine HM4.out.putB 0 z fun j hj => ?_
        show t j = _
        by_cases h : j = 0
        · rw [if_pos h, h, HT0.out]
        · rw [if_neg h, HT1.out j hj h])
      have HE5 := kept (show NEnv w key W5 by rw [← hW5]; exact HE4.out.set (by omega) _ _)
      have HK5 := kept (show Blk W5 w.heap.size 22 (bA 16 (nkK key t 0)) by rw [show bA 16 (nkK key t 0) = bA 16 key from bA_ext fun j _ => if_neg (by omega)]; exact HE5.out.bk)
      have HZ5 := kept HE5.out.br
      have HW5 := kept HE5.out.bw
      clear hW5 HM4 HE4 HE5 HT0 HT1 hx c1 f1 hn hlt
      go_wp2_with fail
      go_loopw [26] (fun i wr => ∃ n : Nat, n ≤ 16 ∧ i = .int .i64 n ∧ Kept (Blk wr g5 105 (bA 4 (nkL key t n))) ∧ Kept (Blk wr w.heap.size 22 (bA 16 (nkK key t n))) ∧ Kept (Blk wr (w.heap.size + 1) 22 (bA 16 fun _ => 0)) ∧ Kept (Below w.heap.size w wr)) (fun i _ => 16 - (intOf i).toNat)
      case atStart => exact ⟨0, Nat.zero_le _, rfl, HT5, HK5, HZ5, HW5⟩
      case round =>
        obtain ⟨n, hn, rfl, HT6, HK6, HZ6, HW6⟩ := hrel
        rename World => W6
        clear HT5 HK5 HZ5 HW5
        by_cases hlt : n < 16
        · have hn16 : (n : Int) < 16 := by omega
          have HS1 := kept (nkK_set key t n)
          have HS2 := kept (nkL_set key t n)
          have hx := gx8 (key n) (nkL key t n (n % 4))
          rw [nkV_step] at hx
          have hr4 : n % 4 < 4 := by omega
          have hd : (n : Int).tmod 4 = ((n % 4 : Nat) : Int) := by
            rw [Int.tmod_eq_emod_of_nonneg (by omega)]
            omega
          have c1 : W6.cell? ⟨w.heap.size, n, none⟩ = some (.int .u8 ((key n).toNat : Int)) := by rw [HK6.out.cell, bA_at _ _ hlt, nkK_at]
          have c2 : W6.cell? ⟨g5, n % 4, none⟩ = some (.int .u8 ((nkL key t n (n % 4)).toNat : Int)) := by rw [HT6.out.cell]; exact bA_at _ _ hr4
          have f1 := HK6.out.frozen n
          have f2 := HT6.out.frozen (n % 4)
          generalize nkV key t n = z at hx HS1 HS2
          generalize key n = x at hx c1
          generalize nkL key t n (n % 4) = y at hx c2
          generalize n % 4 = r at hr4 hd c2 f2 HS2
          have hr4' : (r : Int) < 4 := by omega
          have hne1 : ¬ g5 = w.heap.size := by omega
          have hne2 : ¬ w.heap.size = g5 := by omega
          go_wp2_with fail
          go_region
          all_goals go_wp2
          go_roundw
          case rel => exact ⟨n + 1, by omega, by go_num, kept ((HT6.out.far (p := ⟨w.heap.size, n, none⟩) hne1 _).putB r z fun j hj => HS2.out j hj).drew_, kept ((HK6.out.putB n z fun j _ => HS1.out j).far (p := ⟨g5, r, none⟩) hne2 _).drew_, kept ((HZ6.out.far (p := ⟨w.heap.size, n, none⟩) (by show w.heap.size + 1 ≠ w.heap.size; omega) _).far (p := ⟨g5, r, none⟩) (by show w.heap.size + 1 ≠ g5; omega) _).drew_, kept ((HW6.out.setCell (p := ⟨w.heap.size, n, none⟩) (by show w.heap.size ≤ w.heap.size; omega) _).setCell (p := ⟨g5, r, none⟩) (by show w.heap.size ≤ g5; omega) _).drew⟩
          case measure => simp [intOf]; omega
        · obtain rfl : n = 16 := by omega
          have HK7 := kept (show Blk W6 w.heap.size 22 (bA 16 RR) by rw [← HRR.out, ← nkK_all]; exact HK6.out)
          clear HK6 HT6 hn hlt
          go_wp2_with (first | (refine wpList_load_row rfl 22 (.tmp 2) rfl w.heap.size rfl 22 (bA 16 RR) (0, 0) _ HK7.out Tryd.underlying22 rfl (by rw [b16_size, bA_size]) ?_) | (refine wpList_store_row rfl 22 (.tmp 4) (.tmp 45) rfl (w.heap.size + 1) (bA 16 RR) rfl rfl 22 (bA 16 fun _ => 0) HZ6.out (by rw [b16_size, bA_size]) (by rw [bA_size, bA_size]) (bA_one _ _) ?_))
          exact bodyPost_ret (v := .agg (bA 16 RR)) (results_cell_row Tryd.results70 _ _ (w.heap.size + 1) 22 (bA 16 RR) (0, 0) _ rfl (setRow_heap _ _ _ _ _ _ HZ6.out) Tryd.underlying22 rfl (by rw [b16_size, bA_size])) rfl ⟨rfl, below_setRow HW6.out (by omega) _⟩
end Go.Proofs.YtcjbplgjjhenkaaDoor
/-
  Package aes: the round keys, by a contract.
-/
namespace Go.Proofs.YtcjbplgjjhenkaaDoor
open Go.RowKit
set_option linter.unusedVariables false
set_option linter.unusedSimpArgs false

theorem kp_pow (n : Nat) : kp n = gpow 2 n := by
  induction n with
  | zero => rfl
  | succ n ih =>
    rw [kp, ih, xt_two, gf_comm]
    rfl
/-- The next row of the round keys. -/
theorem aKey_next (key : Nat → UInt8) (i : Nat) (hi : i < 10) : ∀ q r, q < 4 → r < 4 → aKey key (16 * (i + 1) + (4 * q + r)) = nkC (kRow (aKey key) i) (nkT (kRow (aKey key) i) (kp i)) q r := by
  intro q
  induction q with
  | zero =>
    intro r _ hr
    have h := aKey_at key (4 * (i + 1) + 0) r (by omega) hr
    rw [if_neg (by omega)] at h
    rw [show 16 * (i + 1) + (4 * 0 + r) = 4 * (4 * (i + 1) + 0) + r by omega, h, nkC]
    unfold kRow
    rw [show 4 * (4 * (i + 1) + 0 - 4) + r = 16 * i + r by omega]
    congr 1
    unfold kT nkT
    rw [if_pos (by omega), show (4 * (i + 1) + 0 - 1) / 4 = i by omega, show 4 * (4 * (i + 1) + 0 - 1) + 1 = 16 * i + 13 by omega, show 4 * (4 * (i + 1) + 0 - 1) + (r + 1) % 4 = 16 * i + (12 + (r + 1) % 4) by omega, sbx_at, sbx_at]
  | succ q ih =>
    intro r hq hr
    have h := aKey_at key (4 * (i + 1) + (q + 1)) r (by omega) hr
    rw [if_neg (by omega)] at h
    rw [show 16 * (i + 1) + (4 * (q + 1) + r) = 4 * (4 * (i + 1) + (q + 1)) + r by omega, h, nkC, ← ih r (by omega) hr]
    rw [show kRow (aKey key) i (4 * (q + 1) + r) = aKey key (16 * i + (4 * (q + 1) + r)) from rfl]
    rw [show 4 * (4 * (i + 1) + (q + 1) - 4) + r = 16 * i + (4 * (q + 1) + r) by omega]
    congr 1
    unfold kT
    rw [if_neg (by omega), show 4 * (4 * (i + 1) + (q + 1) - 1) + r = 16 * (i + 1) + (4 * q + r) by omega]
theorem aKey_row (key : Nat → UInt8) (i : Nat) (hi : i < 10) : Eq16 (nkV (kRow (aKey key) i) (nkT (kRow (aKey key) i) (gpowZ 2 (i : Int)))) (kRow (aKey key) (i + 1)) := fun j hj => by
  have h := aKey_next key i hi (j / 4) (j % 4) (by omega) (by omega)
  have e : gpowZ 2 (i : Int) = kp i := by
    unfold gpowZ
    rw [if_neg (by omega), kp_pow]
    rfl
  rw [e]
  unfold nkV
  rw [← h]
  unfold kRow
  rw [show 4 * (j / 4) + j % 4 = j by omega]
/-- The round keys behind i rounds. -/
def ksF (ks : Nat → UInt8) (i : Nat) : Nat → UInt8 := fun j => if j < 16 * (i + 1) then ks j else 0
theorem ksF_all (ks : Nat → UInt8) : bA 176 (ksF ks 10) = bA 176 ks := bA_ext fun j hj => if_pos (by omega)
theorem ksF_row (ks : Nat → UInt8) (i : Nat) : Eq16 (kRow (ksF ks i) i) (kRow ks i) := fun j hj => if_pos (by omega)
theorem blk_setBytes {g : Nat} {t : TypeId} {n : Nat} (L : List UInt8) : ∀ (o : Nat) (w : World) (f : Nat → UInt8), Blk w g t (bA n f) → Blk (w.setCells g o (L.map bv)) g t (bA n fun j => if o ≤ j ∧ j < o + L.length then L.getD (j - o) 0 else f j) := by
  induction L with
  | nil =>
    intro o w f h
    rw [show bA n (fun j => if o ≤ j ∧ j < o + ([] : List UInt8).length then ([] : List UInt8).getD (j - o) 0 else f j) = bA n f from bA_ext fun j _ => if_neg (by rw [List.length_nil]; omega)]
    exact h
  | cons x L ih =>
    intro o w f h
    have h1 := ih (o + 1) (w.setCell ⟨g, o, none⟩ (bv x)) (fun j => if j = o then x else f j) (h.putB o x fun j _ => rfl)
    refine Eq.mp ?_ h1
    congr 1
    refine bA_ext fun j _ => ?_
    by_cases e : j = o
    · subst e
      rw [if_neg (by omega), if_pos rfl, if_pos (by simp), Nat.sub_self]
      rfl
    · by_cases h2 : o + 1 ≤ j ∧ j < o + 1 + L.length
      · rw [if_pos h2, if_pos (by simp; omega), show j - o = (j - (o + 1)) + 1 by omega]
        rfl
      · rw [if_neg h2, if_neg e, if_neg (by simp; omega)]
theorem below_setBytes {B : Nat} (g : Nat) (vs : List Value) (hb : B ≤ g) : ∀ (o : Nat) (w : World), Below B w (w.setCells g o vs) := by
  induction vs with
  | nil => exact fun _ _ => Below.refl _ _
  | cons v r ih => exact fun o w => ((Below.refl B w).setCell (p := ⟨g, o, none⟩) hb v).trans (ih _ _)
theorem bA_list (n : Nat) (f : Nat → UInt8) : (bA n f).toList = ((List.range n).map f).map bv := by
  rw [List.map_map]
  rfl
theorem ksF_step {w : World} {g : Nat} {t : TypeId} (ks m : Nat → UInt8) (i : Nat) (hi : i < 10) (hm : Eq16 m (kRow ks (i + 1))) (h : Blk w g t (bA 176 (ksF ks i))) : Blk (w.setCells g ((i + 1) * 16) (bA 16 m).toList) g t (bA 176 (ksF ks (i + 1))) := by
  have e : bA 176 (fun j => if (i + 1) * 16 ≤ j ∧ j < (i + 1) * 16 + ((List.range 16).map m).length then ((List.range 16).map m).getD (j - (i + 1) * 16) 0 else ksF ks i j) = bA 176 (ksF ks (i + 1)) := bA_ext fun j hj => by
    rw [List.length_map, List.length_range]
    unfold ksF
    by_cases h2 : (i + 1) * 16 ≤ j ∧ j < (i + 1) * 16 + 16
    · rw [if_pos h2, if_pos (by omega)]
      have h16 : j - (i + 1) * 16 < 16 := by omega
      rw [List.getD_eq_getElem?_getD, List.getElem?_map, List.getElem?_range h16]
      show m (j - (i + 1) * 16) = ks j
      rw [hm _ h16]
      unfold kRow
      rw [show 16 * (i + 1) + (j - (i + 1) * 16) = j by omega]
    · rw [if_neg h2]
      by_cases h3 : j < 16 * (i + 1)
      · rw [if_pos h3, if_pos (by omega)]
      · rw [if_neg h3, if_neg (by omega)]
  have h1 := blk_setBytes (g := g) (t := t) (n := 176) ((List.range 16).map m) ((i + 1) * 16) w (ksF ks i) h
  rw [e, ← bA_list] at h1
  exact h1
/-- The first row alone. -/
def iniF (key : Nat → UInt8) : Nat → UInt8 := fun j => if j < 16 then key j else 0
theorem built_ini (key : Nat → UInt8) : Tryd.prog.built 98 [(0, .agg (bA 16 key))] = some (bA 176 (iniF key)) := by kernel_rfl
theorem iniF_ks (key : Nat → UInt8) : bA 176 (iniF key) = bA 176 (ksF (aKey key) 0) := bA_ext fun j hj => by
  unfold iniF ksF
  by_cases h : j < 16
  · rw [if_pos h, if_pos (by omega)]
    have := aKey_first key j h
    unfold kRow at this
    rw [show 16 * 0 + j = j by omega] at this
    exact this.symm
  · rw [if_neg h, if_neg (by omega)]
theorem wpList_builtA {P : Program} {ops : Array Oper} {rest : List Oper} {o : Oper} {a : Act} {w : World} {Q : Exit → Act → World → Prop} (hg : o.guard = none) (t : TypeId) (parts : Array (Nat × Operand)) (ho : o.op = .build t parts) (ps : List (Nat × Value)) (cells : Array Value)
    (hp : (parts.toList.map fun (i, x) => (i, a.eval x)) = ps) (hb : P.built t ps = some cells) (h : wpList P ops Q rest (a.put o.dst (.agg cells)) w) : wpList P ops Q (o :: rest) a w := by
  have e : P.built t (parts.map fun (i, x) => (i, a.eval x)).toList = some cells := by rw [Array.toList_map, hp]; exact hb
  exact wpList_build hg t parts ho (by rw [e]; rfl) (by rw [e]; exact h)
set_option maxHeartbeats 1000000 in
set_option maxRecDepth 100000 in
theorem akeys_any (w : World) (key : Nat → UInt8) : Calls Tryd.prog 64 #[.agg (bA 16 key)] w fun e w' => e = .returned (.agg (bA 176 (aKey key))) ∧ Below w.heap.size w w' := by
  have HROW := kept (aKey_row key)
  have HINI := kept (iniF_ks key)
  obtain ⟨ks, hks⟩ : ∃ ks, aKey key = ks := ⟨_, rfl⟩
  rw [hks] at HROW HINI
  rw [hks]
  clear hks
  have hz1 := zero11
  go_enter Tryd.func64, Tryd.ntmps64
  go_upto_region 1 with (fail)
  go_name_world W0 hW0
  have HK0 := kept (show Blk W0 w.heap.size 22 (bA 16 key) by rw [← hW0]; exact (Blk.new w _ _).alloc _)
  have HZ0 := kept (show Blk W0 (w.heap.size + 1) 98 (bA 176 fun _ => 0) by
    rw [← hW0]
    have n1 := Blk.new (w.alloc (.cells (bA 16 key) 22)) 98 (bA 176 fun _ => 0)
    simp only [World.size_alloc] at n1
    exact n1)
  have HW0 := kept (show Below w.heap.size w W0 by rw [← hW0]; exact ((Below.refl _ _).alloc (Nat.le_refl _) _).alloc (by simp) _)
  clear hW0
  have HBU := kept (built_ini key)
  clear hz1
  have hg : w.heap.size + 1 < W0.heap.size := HZ0.out.lt
  have hz1 := zero11
  go_upto_region 2 with (first | (refine wpList_builtA rfl 98 #[(0, .tmp 5)] rfl [(0, .agg (bA 16 key))] (bA 176 (iniF key)) rfl HBU.out ?_) | (refine wpList_load_row rfl 22 (.tmp 1) rfl w.heap.size rfl 22 (bA 16 key) (0, 0) _ HK0.out Tryd.underlying22 rfl (by rw [b16_size, bA_size]) ?_) | (refine wpList_store_row rfl 98 (.tmp 3) (.tmp 6) rfl W0.heap.size (bA 176 (iniF key)) rfl rfl 98 (bA 176 fun _ => 0) (Blk.new W0 _ _) (by rw [b176_size, bA_size]) (by rw [bA_size, bA_size]) (bA_one _ _) ?_))
  go_name_world W2 hW2
  have HZ2 := kept (show Blk W2 (w.heap.size + 1) 98 (bA 176 fun _ => 0) by rw [← hW2]; exact (HZ0.out.alloc _).row_far (by omega))
  have HW2 := kept (show Below w.heap.size w W2 by rw [← hW2]; exact below_setRow (HW0.out.alloc HW0.out.size _) (by omega) _)
  have HS2 := kept (show Blk W2 W0.heap.size 98 (bA 176 (ksF ks 0)) by rw [← hW2, ← HINI.out]; exact setRow_heap _ _ _ _ _ _ (Blk.new W0 _ _))
  clear hW2 hz1 HK0 HZ0 HW0 HBU
  generalize W0.heap.size = g3 at hg HS2
  go_wp2_with fail
  go_loopw [7] (fun i wr => ∃ n : Nat, n ≤ 10 ∧ i = .int .i64 n ∧ Kept (Blk wr g3 98 (bA 176 (ksF ks n))) ∧ Kept (Blk wr (w.heap.size + 1) 98 (bA 176 fun _ => 0)) ∧ Kept (Below w.heap.size w wr)) (fun i _ => 10 - (intOf i).toNat)
  case atStart => exact ⟨0, Nat.zero_le _, rfl, HS2, HZ2, HW2⟩
  case round =>
    obtain ⟨n, hn, rfl, HS3, HZ3, HW3⟩ := hrel
    rename World => W3
    clear HS2 HZ2 HW2
    by_cases hlt : n < 10
    · have hn10 : (n : Int) < 10 := by omega
      have hn11 : (n : Int) < 11 := by omega
      have hm11 : (n : Int) + 1 < 11 := by omega
      have hn0 : 0 ≤ (n : Int) := by omega
      have hwr : IntKind.i64.wrap ((n : Int) + 1) = ((n + 1 : Nat) : Int) := IntWalk.i64_in _ (by omega)
      have HR := kept (HROW.out n hlt)
      have hcong : Eq16 (kRow (ksF ks n) n) (kRow ks n) := ksF_row ks n
      obtain ⟨C, hCd⟩ : ∃ C : World → Prop, C = fun w' => Below W3.heap.size W3 w' := ⟨_, rfl⟩
      have HC := kept (show ∀ w', C w' → Below W3.heap.size W3 w' from fun w' h => by rw [hCd] at h; exact h)
      have HC' := kept (show ∀ w', Below W3.heap.size W3 w' → C w' from fun w' h => by rw [hCd]; exact h)
      clear hCd
      have R1 := kept (show ∀ w', C w' → w'.rangeAt g3 (n * 16) (bA 16 (kRow ks n)).toList from fun w' h => by
        rw [← hcong.arr]
        exact (HS3.out.below (HC.out _ h) HS3.out.lt).row_range n (by omega))
      have HP := kept (fun w => fpow_any w 2 (n : Int) (by omega) (by omega))
      have HNX := kept (fun w => anext_any w (kRow ks n) (gpowZ 2 (n : Int)))
      generalize gpowZ 2 (n : Int) = pw at HP HNX HR
      generalize kRow ks n = K at R1 HNX HR hcong
      obtain ⟨M, hM⟩ : ∃ M, nkV K (nkT K pw) = M := ⟨_, rfl⟩
      rw [hM] at HR HNX
      clear hM hcong
      obtain ⟨m, hm⟩ : ∃ m, n + 1 = m := ⟨_, rfl⟩
      have HM := kept hm
      have hm11' : (m : Int) < 11 := by omega
      have hm0 : 0 ≤ (m : Int) := by omega
      rw [hm] at hwr
      have hlt10 := hlt
      have HLT := kept hlt
      clear hm hlt10 hlt hn hm11
      go_wp2_with fail
      refine wp_region_tail C 9 (by kernel_rfl) (by kernel_rfl) (HC'.out _ (Below.refl _ W3).drew) ?_
      simp only [List.take_succ_cons, List.take_zero, List.drop_succ_cons, List.drop_zero]
      quiet_step (exact fun _ => rfl)
      quiet_step (exact fun _ => rfl)
      quiet_step (exact fun _ => rfl)
      quiet_step (exact fun _ => rfl)
      refine quiet_load (by rfl) 22 (.tmp 13) rfl g3 (n * 16) (by rfl) (bA 16 K).toList _ R1.out Tryd.underlying22 rfl (s16_len _) ?_
      quiet_step (exact fun _ => rfl)
      quiet_step (exact fun hw' => (HP.out _).mono fun e w'' he => ⟨he.1, HC'.out _ ((HC.out _ hw').trans (he.2.mono (HC.out _ hw').size))⟩)
      quiet_step (exact fun hw' => (HNX.out _).mono fun e w'' he => ⟨he.1, HC'.out _ ((HC.out _ hw').trans (he.2.mono (HC.out _ hw').size))⟩)
      quiet_step (exact fun _ => rfl)
      refine wpQuiet_nil ?_
      intro W4 hC4
      have hb4 := HC.out _ hC4
      have HS4 := kept (HS3.out.below hb4 HS3.out.lt)
      have HZ4 := kept (HZ3.out.below hb4 HZ3.out.lt)
      have HW4 := kept (HW3.out.trans (hb4.mono HW3.out.size))
      clear hC4 hb4 HC HC' R1 HS3 HZ3 HW3 HP HNX
      have HTH := kept (show W4.there g3 (m * 16) (bA 16 M).size from fun j hj => by
        rw [bA_size] at hj
        have h1 := HM.out
        have h2 := HLT.out
        refine ⟨?_, HS4.out.frozen _⟩
        rw [HS4.out.cell, bA_at _ _ (by omega)]
        rfl)
      have HST := kept (show Blk (W4.setCells g3 (m * 16) (bA 16 M).toList) g3 98 (bA 176 (ksF ks (n + 1))) by
        rw [← HM.out]
        exact ksF_step ks M n HLT.out HR.out HS4.out)
      have HZT := kept (show Blk (W4.setCells g3 (m * 16) (bA 16 M).toList) (w.heap.size + 1) 98 (bA 176 fun _ => 0) from HZ4.out.below (below_setBytes (B := w.heap.size + 1 + 1) g3 _ (by omega) _ _) (by omega))
      have HWT := kept (show Below w.heap.size w (W4.setCells g3 (m * 16) (bA 16 M).toList) from HW4.out.trans (below_setBytes g3 _ (by omega) _ _))
      obtain ⟨R, hR⟩ : ∃ R, bA 16 M = R := ⟨_, rfl⟩
      have hR1 : R.all (·.oneCell') = true := by rw [← hR]; exact bA_one _ _
      have hRS : R.size = 16 := by rw [← hR]; exact bA_size _ _
      rw [hR] at HTH HST HZT HWT
      rw [hR]
      clear hR HS4 HZ4 HW4
      refine wpList_store_mid rfl 22 (.tmp 18) (.tmp 17) rfl g3 (m * 16) R rfl rfl HTH.out (by rw [b16_size, hRS]) hR1 ?_
      generalize W4.setCells g3 (m * 16) R.toList = W5 at HST HZT HWT
      go_wp2
      refine ⟨⟨n + 1, by have := HLT.out; omega, by rw [HM.out], HST, HZT, HWT⟩, ?_⟩
      have h1 := HM.out
      have h2 := HLT.out
      simp [intOf]
      omega
    · obtain rfl : n = 10 := by omega
      have HS4 := kept (show Blk W3 g3 98 (bA 176 ks) by rw [← ksF_all]; exact HS3.out)
      clear HS3 hn hlt HROW HINI
      go_wp2_with (first | (refine wpList_load_row rfl 98 (.tmp 3) rfl g3 rfl 98 (bA 176 ks) (0, 0) _ HS4.out Tryd.underlying98 rfl (by rw [b176_size, bA_size]) ?_) | (refine wpList_store_row rfl 98 (.tmp 2) (.tmp 20) rfl (w.heap.size + 1) (bA 176 ks) rfl rfl 98 (bA 176 fun _ => 0) HZ3.out (by rw [b176_size, bA_size]) (by rw [bA_size, bA_size]) (bA_one _ _) ?_))
      exact bodyPost_ret (v := .agg (bA 176 ks)) (results_cell_row Tryd.results64 _ _ (w.heap.size + 1) 98 (bA 176 ks) (0, 0) _ rfl (setRow_heap _ _ _ _ _ _ HZ3.out) Tryd.underlying98 rfl (by rw [b176_size, bA_size])) rfl ⟨rfl, below_setRow HW3.out (by omega) _⟩
end Go.Proofs.YtcjbplgjjhenkaaDoor
/-
  Package aes: a round, and back, by contracts.
-/
namespace Go.Proofs.YtcjbplgjjhenkaaDoor
open Go.RowKit
set_option linter.unusedVariables false
set_option linter.unusedSimpArgs false

theorem gdot_q4 (c0 c1 c2 c3 : UInt8) (f : Nat → UInt8) : gdot (q4 c0 c1 c2 c3) f = d4 c0 c1 c2 c3 (f 0) (f 1) (f 2) (f 3) := rfl
theorem mixB_at (c0 c1 c2 c3 : UInt8) (s : Nat → UInt8) (j : Nat) : mixB (q4 c0 c1 c2 c3) s j = d4 c0 c1 c2 c3 (s j) (s ((j % 4 + 1) % 4 + 4 * (j / 4))) (s ((j % 4 + 2) % 4 + 4 * (j / 4))) (s ((j % 4 + 3) % 4 + 4 * (j / 4))) := by
  unfold mixB mixC
  rw [gdot_q4]
  show d4 c0 c1 c2 c3 (s (4 * (j / 4) + (0 + j % 4) % 4)) (s (4 * (j / 4) + (1 + j % 4) % 4)) (s (4 * (j / 4) + (2 + j % 4) % 4)) (s (4 * (j / 4) + (3 + j % 4) % 4)) = _
  rw [show 4 * (j / 4) + (0 + j % 4) % 4 = j by omega, show 4 * (j / 4) + (1 + j % 4) % 4 = (j % 4 + 1) % 4 + 4 * (j / 4) by omega, show 4 * (j / 4) + (2 + j % 4) % 4 = (j % 4 + 2) % 4 + 4 * (j / 4) by omega, show 4 * (j / 4) + (3 + j % 4) % 4 = (j % 4 + 3) % 4 + 4 * (j / 4) by omega]
theorem mixB_rnd (s : Nat → UInt8) : mixB (q4 2 3 1 1) s = rndM s := funext fun j => by rw [mixB_at, rndM_mx]; rfl
theorem mixB_un (s : Nat → UInt8) : mixB (q4 14 11 13 9) s = uM s := funext fun j => by rw [mixB_at]; rfl
structure AEnv (w : World) (b key : Nat → UInt8) (W : World) : Prop where
  bb : Blk W w.heap.size 22 (bA 16 b)
  bk : Blk W (w.heap.size + 1) 22 (bA 16 key)
  br : Blk W (w.heap.size + 1 + 1) 22 (bA 16 fun _ => 0)
  bw : Below w.heap.size w W
theorem AEnv.set {w W : World} {b key : Nat → UInt8} (h : AEnv w b key W) {g : Nat} (hg : w.heap.size + 3 ≤ g) (i : Nat) (u : Value) : AEnv w b key (W.setCell ⟨g, i, none⟩ u) :=
  ⟨h.bb.far (by show w.heap.size ≠ g; omega) u, h.bk.far (by show w.heap.size + 1 ≠ g; omega) u, h.br.far (by show w.heap.size + 1 + 1 ≠ g; omega) u, h.bw.setCell (by show w.heap.size ≤ g; omega) u⟩
theorem AEnv.alloc {w W : World} {b key : Nat → UInt8} (h : AEnv w b key W) (o : Obj) : AEnv w b key (W.alloc o) := ⟨h.bb.alloc o, h.bk.alloc o, h.br.alloc o, h.bw.alloc h.bw.size o⟩
theorem AEnv.drew {w W : World} {b key : Nat → UInt8} (h : AEnv w b key W) : AEnv w b key W.drew := ⟨h.bb.drew_, h.bk.drew_, h.br.drew_, h.bw.drew⟩
theorem AEnv.below {w W W' : World} {b key : Nat → UInt8} (h : AEnv w b key W) (k : Below W.heap.size W W') : AEnv w b key W' := ⟨h.bb.below k h.bb.lt, h.bk.below k h.bk.lt, h.br.below k h.br.lt, h.bw.trans (k.mono h.bw.size)⟩
theorem AEnv.row {w W : World} {b key : Nat → UInt8} (h : AEnv w b key W) {g : Nat} (hg : w.heap.size + 3 ≤ g) (ds : Array Value) : AEnv w b key (W.setRow g ds) := ⟨h.bb.row_far (by omega), h.bk.row_far (by omega), h.br.row_far (by omega), below_setRow h.bw (by omega) _⟩
theorem aenv_start (w : World) (b key : Nat → UInt8) : AEnv w b key (((w.alloc (.cells (bA 16 b) 22)).alloc (.cells (bA 16 key) 22)).alloc (.cells (bA 16 fun _ => 0) 22)) := by
  have n0 := Blk.new w 22 (bA 16 b)
  have n1 := Blk.new (w.alloc (.cells (bA 16 b) 22)) 22 (bA 16 key)
  have n2 := Blk.new ((w.alloc (.cells (bA 16 b) 22)).alloc (.cells (bA 16 key) 22)) 22 (bA 16 fun _ => 0)
  simp only [World.size_alloc] at n1 n2
  exact ⟨(n0.alloc _).alloc _, n1.alloc _, n2, (((Below.refl _ _).alloc (Nat.le_refl _) _).alloc (by simp) _).alloc (by simp; omega) _⟩
/-- A byte that is replaced. -/
def subF (b : Nat → UInt8) : Nat → UInt8 := fun i => gsub (b (srcI i))
theorem subF_rnd (b : Nat → UInt8) : subF b = rndS sbx b := funext fun j => by
  unfold subF rndS
  rw [sbx_at]
  rfl
set_option maxHeartbeats 4000000 in
set_option maxRecDepth 100000 in
theorem around_any (w : World) (b key : Nat → UInt8) (last : Bool) : Calls Tryd.prog 66 #[.agg (bA 16 b), .agg (bA 16 key), .bool last] w fun e w' => e = .returned (.agg (bA 16 (aRnd last b key))) ∧ Below w.heap.size w w' := by
  have HRE := kept (aRnd_eq last b key)
  rw [← subF_rnd] at HRE
  generalize aRnd last b key = RR at HRE
  go_enter Tryd.func66, Tryd.ntmps66
  go_upto_region 2 with (fail)
  go_name_world W0 hW0
  have HE0 := kept (show AEnv w b key W0 by rw [← hW0]; exact (aenv_start w b key).alloc _)
  have HO0 := kept (show Blk W0 (w.heap.size + 1 + 1 + 1) 22 (bA 16 (fillF (subF b) 0)) by
    rw [← hW0]
    have n3 := Blk.new (((w.alloc (.cells (bA 16 b) 22)).alloc (.cells (bA 16 key) 22)).alloc (.cells (bA 16 fun _ => 0) 22)) 22 (bA 16 fun _ => 0)
    simp only [World.size_alloc] at n3
    exact n3)
  clear hW0
  go_wp2_with fail
  go_loopw [9] (fun i wr => ∃ n : Nat, n ≤ 16 ∧ i = .int .i64 n ∧ Kept (AEnv w b key wr) ∧ Kept (Blk wr (w.heap.size + 1 + 1 + 1) 22 (bA 16 (fillF (subF b) n)))) (fun i _ => 16 - (intOf i).toNat)
  case atStart => exact ⟨0, Nat.zero_le _, rfl, HE0, HO0⟩
  case round =>
    obtain ⟨n, hn, rfl, HE1, HO1⟩ := hrel
    rename World => W1
    clear HE0 HO0
    by_cases hlt : n < 16
    · have hn16 : (n : Int) < 16 := by omega
      have HG := kept (show subF b n = gsub (b (srcI n)) from rfl)
      have HSRC := kept (asrc_any W1 n hlt)
      have hs16 := srcI_lt n
      have c1 : W1.cell? ⟨w.heap.size, srcI n, none⟩ = some (.int .u8 ((b (srcI n)).toNat : Int)) := by rw [HE1.out.bb.cell]; exact bA_at _ _ hs16
      generalize b (srcI n) = x at c1 HG
      generalize srcI n = k at c1 hs16 HSRC
      go_wp2_with fail
      refine HSRC.out.mono ?_
      rintro e w' ⟨rfl, rfl⟩
      have hk16 : (k : Int) < 16 := by omega
      go_wp2_with fail
      refine (fsub_any W1 x).mono ?_
      rintro e W2 ⟨rfl, kb⟩
      have HE2 := kept (HE1.out.below kb)
      have HO2 := kept (HO1.out.below kb HO1.out.lt)
      clear HE1 HO1 kb c1 HSRC
      have c3 : W2.cell? ⟨w.heap.size + 1 + 1 + 1, n, none⟩ = some (.int .u8 0) := by rw [HO2.out.cell, bA_at _ _ hlt, fillF_at]; rfl
      have f3 := HO2.out.frozen n
      generalize gsub x = y at HG
      go_wp2
      go_roundw
      case rel => exact ⟨n + 1, by omega, by go_num, kept (HE2.out.set (by omega) _ _), kept (HO2.out.putB n y fun j _ => by rw [← HG.out]; exact fillF_set _ _ _ rfl j)⟩
      case measure => simp [intOf]; omega
    · obtain rfl : n = 16 := by omega
      have HT := kept (show Blk W1 (w.heap.size + 1 + 1 + 1) 22 (bA 16 (subF b)) by rw [← fillF_all]; exact HO1.out)
      clear HO1 hn hlt
      generalize subF b = S at HT HRE
      cases last with
      | true =>
        rw [if_pos rfl] at HRE
        go_wp2_with (first | (refine wpList_load_row rfl 22 (.tmp 7) rfl (w.heap.size + 1 + 1 + 1) rfl 22 (bA 16 S) (0, 0) _ HT.out Tryd.underlying22 rfl (by rw [b16_size, bA_size]) ?_) | (refine wpList_load_row rfl 22 (.tmp 4) rfl (w.heap.size + 1) rfl 22 (bA 16 key) (0, 0) _ HE1.out.bk Tryd.underlying22 rfl (by rw [b16_size, bA_size]) ?_))
        refine (axor_any W1 S key).mono ?_
        rintro e W2 ⟨rfl, kb⟩
        have HE2 := kept (HE1.out.below kb)
        clear HE1 HT kb
        rw [← HRE.out]
        go_wp2_with (refine wpList_store_row rfl 22 (.tmp 6) (.tmp 28) rfl (w.heap.size + 1 + 1) (bA 16 RR) rfl rfl 22 (bA 16 fun _ => 0) HE2.out.br (by rw [b16_size, bA_size]) (by rw [bA_size, bA_size]) (bA_one _ _) ?_)
        exact bodyPost_ret (v := .agg (bA 16 RR)) (results_cell_row Tryd.results66 _ _ (w.heap.size + 1 + 1) 22 (bA 16 RR) (0, 0) _ rfl (setRow_heap _ _ _ _ _ _ HE2.out.br) Tryd.underlying22 rfl (by rw [b16_size, bA_size])) rfl ⟨rfl, below_setRow HE2.out.bw (by omega) _⟩
      | false =>
        rw [if_neg Bool.false_ne_true, ← mixB_rnd] at HRE
        go_wp2_with fail
        have RG := kept (show ∀ w', Below W1.heap.size W1 w' → w'.rangeAt (w.heap.size + 1 + 1 + 1) 0 (bA 16 S).toList from fun w' h => (HT.out.below h HT.out.lt).range)
        refine wp_region_flow 4 (fun w' => Below W1.heap.size W1 w') [fun v _ => v = .agg (bA 16 S), fun v _ => v = .agg (bA 4 (q4 2 3 1 1)), fun v w' => ∃ g, v = .func (.func 82) #[] #[.pointer (some ⟨g, 0, none⟩)] ∧ Blk w' g 105 (bA 4 (q4 2 3 1 1)), fun v _ => v = .agg (bA 16 (mixB (q4 2 3 1 1) S))] (by kernel_rfl) (by kernel_rfl) rfl (Below.refl _ W1).drew (fun _ _ h k => below_next h k) ?_ ?_ ?_
        · exact stable_cons (stable_eq _) (stable_cons (stable_eq _) (stable_cons (fun v w w' h k => by obtain ⟨g, e, hb⟩ := h; exact ⟨g, e, hb.below k hb.lt⟩) (stable_cons (stable_eq _) (stable_nil))))
        · simp only [List.take_succ_cons, List.take_zero]
          refine OweAll.cons ?_ (OweAll.cons ?_ (OweAll.cons ?_ (OweAll.cons ?_ OweAll.nil)))
          · intro us w' A hA hC hd K hK
            exact flow_load (φ := fun v _ => v = .agg (bA 16 S)) (by rw [hA]; kernel_rfl) 22 (.tmp 7) rfl (w.heap.size + 1 + 1 + 1) 0 (by rw [hA]; kernel_rfl) (bA 16 S).toList _ (RG.out w' hC) Tryd.underlying22 rfl (s16_len _) rfl hK
          · intro us w' A hA hC hd K hK
            exact flow_value (.agg (bA 4 (q4 2 3 1 1))) (by rw [hA]; kernel_rfl) (by rw [hA]; kernel_rfl) rfl hK
          · intro us w' A hA hC hd K hK
            have e1 : us 1 = .agg (bA 4 (q4 2 3 1 1)) := hd 1 (by kernel_rfl)
            refine flow_call 75 #[us 1] (by rw [hA]; kernel_rfl) (fun _ => by rw [hA]; kernel_rfl) ?_ hK
            rw [e1]
            exact (amixer_any _ _).mono fun e w'' he => by
              obtain ⟨⟨g, h1, _, h3⟩, h4⟩ := he
              exact ⟨_, h1, ⟨g, rfl, h3⟩, h4⟩
          · intro us w' A hA hC hd K hK
            have e0 : us 0 = .agg (bA 16 S) := hd 0 (by kernel_rfl)
            obtain ⟨gm, e2, hgm⟩ := hd 2 (by kernel_rfl)
            refine flow_call 74 #[us 0, us 2] (by rw [hA]; kernel_rfl) (fun _ => by rw [hA]; kernel_rfl) ?_ hK
            rw [e0, e2]
            exact (amixed_any _ gm _ _ hgm).mono fun e w'' he => ⟨_, he.1, rfl, he.2⟩
        · intro us w' A hA hC hd
          subst hA
          have e0 : us 0 = .agg (bA 16 S) := hd 0 (by omega)
          have e1 : us 1 = .agg (bA 4 (q4 2 3 1 1)) := hd 1 (by omega)
          obtain ⟨gm, e2, hgm⟩ := hd 2 (by omega)
          have e3 : us 3 = .agg (bA 16 (mixB (q4 2 3 1 1) S)) := hd 3 (by omega)
          simp only [List.take_succ_cons, List.take_zero, List.drop_succ_cons, List.drop_zero, fillAct, Act.put, Nat.zero_add, Nat.reduceAdd, List.setIfInBounds_toArray, List.set_cons_zero, List.set_cons_succ, e0, e1, e2, e3]
          clear hd 
          have HE2 := kept (HE1.out.below hC)
          have HT2 := kept (HT.out.below hC HT.out.lt)
          clear hC HE1 HT RG e0 e1 e2 e3 hgm
          obtain ⟨M, hM⟩ : ∃ M, mixB (q4 2 3 1 1) S = M := ⟨_, rfl⟩
          rw [hM] at HRE
          rw [hM]
          clear hM
          go_upto_region 9 with (refine wpList_store_row rfl 22 (.tmp 7) (.tmp 25) rfl (w.heap.size + 1 + 1 + 1) (bA 16 M) rfl rfl 22 (bA 16 S) HT2.out (by rw [b16_size, bA_size]) (by rw [bA_size, bA_size]) (bA_one _ _) ?_)
          go_name_world W3 hW3
          have HE3 := kept (show AEnv w b key W3 by rw [← hW3]; exact HE2.out.row (by omega) _)
          have HM3 := kept (show Blk W3 (w.heap.size + 1 + 1 + 1) 22 (bA 16 M) by rw [← hW3]; exact setRow_heap _ _ _ _ _ _ HT2.out)
          clear hW3 HE2 HT2
          go_wp2_with (first | (refine wpList_load_row rfl 22 (.tmp 7) rfl (w.heap.size + 1 + 1 + 1) rfl 22 (bA 16 M) (0, 0) _ HM3.out Tryd.underlying22 rfl (by rw [b16_size, bA_size]) ?_) | (refine wpList_load_row rfl 22 (.tmp 4) rfl (w.heap.size + 1) rfl 22 (bA 16 key) (0, 0) _ HE3.out.bk Tryd.underlying22 rfl (by rw [b16_size, bA_size]) ?_))
          refine (axor_any W3 M key).mono ?_
          rintro e W4 ⟨rfl, kb⟩
          have HE4 := kept (HE3.out.below kb)
          clear HE3 HM3 kb
          rw [← HRE.out]
          go_wp2_with (refine wpList_store_row rfl 22 (.tmp 6) (.tmp 28) rfl (w.heap.size + 1 + 1) (bA 16 RR) rfl rfl 22 (bA 16 fun _ => 0) HE4.out.br (by rw [b16_size, bA_size]) (by rw [bA_size, bA_size]) (bA_one _ _) ?_)
          exact bodyPost_ret (v := .agg (bA 16 RR)) (results_cell_row Tryd.results66 _ _ (w.heap.size + 1 + 1) 22 (bA 16 RR) (0, 0) _ rfl (setRow_heap _ _ _ _ _ _ HE4.out.br) Tryd.underlying22 rfl (by rw [b16_size, bA_size])) rfl ⟨rfl, below_setRow HE4.out.bw (by omega) _⟩
/-- The place to which a byte is moved back. -/
def dstI (j : Nat) : Nat := j % 4 + 4 * ((j / 4 + 4 - j % 4) % 4)
theorem dst_src : ∀ i, i < 16 → dstI (srcI i) = i := by decide
theorem src_dst : ∀ j, j < 16 → srcI (dstI j) = j := by decide
theorem dst_lt : ∀ j, j < 16 → dstI j < 16 := by decide
/-- The block behind n bytes. -/
def unF (b S : Nat → UInt8) (n : Nat) : Nat → UInt8 := fun j => if dstI j < n then gunsub (S (dstI j)) else b j
theorem unF_set (b S : Nat → UInt8) (n : Nat) (hn : n < 16) (j : Nat) (hj : j < 16) : unF b S (n + 1) j = if j = srcI n then gunsub (S n) else unF b S n j := by
  unfold unF
  by_cases e : j = srcI n
  · rw [if_pos e, e, dst_src n hn, if_pos (by omega)]
  · rw [if_neg e]
    have hne : dstI j ≠ n := fun h => e (by rw [← src_dst j hj, h])
    by_cases h : dstI j < n
    · rw [if_pos h, if_pos (by omega)]
    · rw [if_neg h, if_neg (by omega)]
theorem unF_all (b S : Nat → UInt8) : bA 16 (unF b S 16) = bA 16 (uS S) := bA_ext fun j hj => if_pos (dst_lt j hj)
end Go.Proofs.YtcjbplgjjhenkaaDoor
/-
  Package aes: encryption and decryption of a block, by contracts.
-/
namespace Go.Proofs.YtcjbplgjjhenkaaDoor
open Go.RowKit
set_option linter.unusedVariables false
set_option linter.unusedSimpArgs false

structure FEnv (w : World) (g5 : Nat) (ks : Nat → UInt8) (W : World) : Prop where
  br : Blk W (w.heap.size + 1 + 1) 22 (bA 16 fun _ => 0)
  bs : Blk W g5 98 (bA 176 ks)
  bw : Below w.heap.size w W
theorem FEnv.below {w W W' : World} {g5 : Nat} {ks : Nat → UInt8} (h : FEnv w g5 ks W) (k : Below W.heap.size W W') : FEnv w g5 ks W' := ⟨h.br.below k h.br.lt, h.bs.below k h.bs.lt, h.bw.trans (k.mono h.bw.size)⟩
theorem FEnv.row {w W : World} {g5 : Nat} {ks : Nat → UInt8} (h : FEnv w g5 ks W) (hg : w.heap.size + 2 < g5) (ds : Array Value) : FEnv w g5 ks (W.setRow (w.heap.size + 1) ds) := ⟨h.br.row_far (by omega), h.bs.row_far (by omega), below_setRow h.bw (by omega) _⟩
theorem kRow_range {w : World} {g : Nat} {t : TypeId} {ks : Nat → UInt8} (h : Blk w g t (bA 176 ks)) : w.rangeAt g 0 (bA 16 (kRow ks 0)).toList := by
  have := h.row_range 0 (by omega)
  rwa [Nat.zero_mul] at this
set_option maxHeartbeats 4000000 in
set_option maxRecDepth 100000 in
theorem aenc_any (w : World) (key b : Nat → UInt8) : Calls Tryd.prog 58 #[.agg (bA 16 key), .agg (bA 16 b)] w fun e w' => e = .returned (.agg (bA 16 (aEnc key b))) ∧ Below w.heap.size w w' := by
  obtain ⟨ks, hks⟩ : ∃ ks, aKey key = ks := ⟨_, rfl⟩
  have HKY := kept (fun w => akeys_any w key)
  rw [hks] at HKY
  have HRES := kept (show aEnc key b = aSt ks b 10 by rw [← hks]; rfl)
  generalize aEnc key b = RES at HRES
  clear hks
  have hz1 := zero11
  go_enter Tryd.func58, Tryd.ntmps58
  go_upto_region 1 with (fail)
  go_name_world W0 hW0
  have HK0 := kept (show Blk W0 w.heap.size 22 (bA 16 key) by rw [← hW0]; exact ((Blk.new w _ _).alloc _).alloc _)
  have HB0 := kept (show Blk W0 (w.heap.size + 1) 22 (bA 16 b) by
    rw [← hW0]
    have n1 := Blk.new (w.alloc (.cells (bA 16 key) 22)) 22 (bA 16 b)
    simp only [World.size_alloc] at n1
    exact n1.alloc _)
  have HZ0 := kept (show Blk W0 (w.heap.size + 1 + 1) 22 (bA 16 fun _ => 0) by
    rw [← hW0]
    have n2 := Blk.new ((w.alloc (.cells (bA 16 key) 22)).alloc (.cells (bA 16 b) 22)) 22 (bA 16 fun _ => 0)
    simp only [World.size_alloc] at n2
    exact n2)
  have HW0 := kept (show Below w.heap.size w W0 by rw [← hW0]; exact (((Below.refl _ _).alloc (Nat.le_refl _) _).alloc (by simp) _).alloc (by simp; omega) _)
  clear hW0
  go_wp2_with (refine wpList_load_row rfl 22 (.tmp 2) rfl w.heap.size rfl 22 (bA 16 key) (0, 0) _ HK0.out Tryd.underlying22 rfl (by rw [b16_size, bA_size]) ?_)
  refine (HKY.out W0).mono ?_
  rintro e W1 ⟨rfl, kb⟩
  have HB1 := kept (HB0.out.below kb HB0.out.lt)
  have HZ1 := kept (HZ0.out.below kb HZ0.out.lt)
  have HW1 := kept (HW0.out.trans (kb.mono HW0.out.size))
  clear kb HK0 HB0 HZ0 HW0 HKY
  have hg5 : w.heap.size + 2 < W1.heap.size := HZ1.out.lt
  go_upto_region 2 with (refine wpList_store_row rfl 98 (.tmp 5) (.tmp 8) rfl W1.heap.size (bA 176 ks) rfl rfl 98 (bA 176 fun _ => 0) (Blk.new W1 _ _) (by rw [b176_size, bA_size]) (by rw [bA_size, bA_size]) (bA_one _ _) ?_)
  go_name_world W2 hW2
  have HB2 := kept (show Blk W2 (w.heap.size + 1) 22 (bA 16 b) by rw [← hW2]; exact (HB1.out.alloc _).row_far (by omega))
  have HE2 := kept (show FEnv w W1.heap.size ks W2 by
    rw [← hW2]
    exact ⟨(HZ1.out.alloc _).row_far (by omega), setRow_heap _ _ _ _ _ _ (Blk.new W1 _ _), below_setRow (HW1.out.alloc HW1.out.size _) (by omega) _⟩)
  clear hW2 hz1 HB1 HZ1 HW1
  generalize W1.heap.size = g5 at hg5 HE2
  have RG := kept (kRow_range HE2.out.bs)
  go_wp2_with (first | (refine wpList_load_row rfl 22 (.tmp 3) rfl (w.heap.size + 1) rfl 22 (bA 16 b) (0, 0) _ HB2.out Tryd.underlying22 rfl (by rw [b16_size, bA_size]) ?_) | (refine wpList_load_mid rfl 22 (.tmp 10) rfl g5 0 rfl (bA 16 (kRow ks 0)).toList _ RG.out Tryd.underlying22 rfl (s16_len _) ?_))
  refine (axor_any W2 b (kRow ks 0)).mono ?_
  rintro e W3 ⟨rfl, kb⟩
  have HE3 := kept (HE2.out.below kb)
  have HB3 := kept (HB2.out.below kb HB2.out.lt)
  clear HE2 HB2 kb RG
  obtain ⟨X, hX⟩ : ∃ X, aXor b (kRow ks 0) = X := ⟨_, rfl⟩
  rw [hX]
  have HX := kept (show aSt ks b 0 = X from hX)
  clear hX
  go_upto_region 3 with (refine wpList_store_row rfl 22 (.tmp 3) (.tmp 12) rfl (w.heap.size + 1) (bA 16 X) rfl rfl 22 (bA 16 b) HB3.out (by rw [b16_size, bA_size]) (by rw [bA_size, bA_size]) (bA_one _ _) ?_)
  go_name_world W4 hW4
  have HE4 := kept (show FEnv w g5 ks W4 by rw [← hW4]; exact HE3.out.row hg5 _)
  have HB4 := kept (show Blk W4 (w.heap.size + 1) 22 (bA 16 (aSt ks b 0)) by rw [← hW4, HX.out]; exact setRow_heap _ _ _ _ _ _ HB3.out)
  clear hW4 HE3 HB3 HX
  go_wp2_with fail
  go_loopw [6] (fun i wr => ∃ n : Nat, n ≤ 10 ∧ i = .int .i64 ((n + 1 : Nat) : Int) ∧ Kept (FEnv w g5 ks wr) ∧ Kept (Blk wr (w.heap.size + 1) 22 (bA 16 (aSt ks b n)))) (fun i _ => 11 - (intOf i).toNat)
  case atStart => exact ⟨0, Nat.zero_le _, rfl, HE4, HB4⟩
  case round =>
    obtain ⟨n, hn, rfl, HE5, HB5⟩ := hrel
    rename World => W5
    clear HE4 HB4
    by_cases hlt : n < 10
    · have hn10 : ((n + 1 : Nat) : Int) ≤ 10 := by omega
      have hn0 : 0 ≤ ((n + 1 : Nat) : Int) := by omega
      have hn11 : ((n + 1 : Nat) : Int) < 11 := by omega
      have hq : (((n + 1 : Nat) : Int) == 10) = (n + 1 == 10) := by
        rw [Bool.eq_iff_iff, beq_iff_eq, beq_iff_eq]
        omega
      have HN := kept (show aSt ks b (n + 1) = aRnd (n + 1 == 10) (aSt ks b n) (kRow ks (n + 1)) from rfl)
      have hm12 : n + 1 < 11 := by omega
      obtain ⟨m, hm⟩ : ∃ m, n + 1 = m := ⟨_, rfl⟩
      rw [hm] at HN hq hn10 hn0 hn11 hm12
      rw [hm]
      have HM := kept hm
      clear hm hlt hn
      obtain ⟨K, hK⟩ : ∃ K, kRow ks m = K := ⟨_, rfl⟩
      have HKR := kept hK
      rw [hK] at HN
      obtain ⟨S, hS⟩ : ∃ S, aSt ks b n = S := ⟨_, rfl⟩
      rw [hS] at HN HB5
      clear hK hS
      go_wp2_with fail
      obtain ⟨C, hCd⟩ : ∃ C : World → Prop, C = fun w' => Below W5.heap.size W5 w' := ⟨_, rfl⟩
      have HC := kept (show ∀ w', C w' → Below W5.heap.size W5 w' from fun w' h => by rw [hCd] at h; exact h)
      have HC' := kept (show ∀ w', Below W5.heap.size W5 w' → C w' from fun w' h => by rw [hCd]; exact h)
      clear hCd
      have Q1 := kept (show ∀ w', C w' → w'.rangeAt (w.heap.size + 1) 0 (bA 16 S).toList from fun w' h => (HB5.out.below (HC.out _ h) HB5.out.lt).range)
      have Q2 := kept (show ∀ w', C w' → w'.rangeAt g5 (m * 16) (bA 16 K).toList from fun w' h => by rw [← HKR.out]; exact (HE5.out.bs.below (HC.out _ h) HE5.out.bs.lt).row_range m hm12)
      refine wp_region_tail C 7 (by kernel_rfl) (by kernel_rfl) (HC'.out _ (Below.refl _ W5).drew) ?_
      simp only [List.take_succ_cons, List.take_zero, List.drop_succ_cons, List.drop_zero]
      refine quiet_load (by rfl) 22 (.tmp 3) rfl (w.heap.size + 1) 0 rfl (bA 16 S).toList _ Q1.out Tryd.underlying22 rfl (s16_len _) ?_
      quiet_step (exact fun _ => rfl)
      quiet_step (exact fun _ => rfl)
      refine quiet_load (by rfl) 22 (.tmp 19) rfl g5 (m * 16) (by rfl) (bA 16 K).toList _ Q2.out Tryd.underlying22 rfl (s16_len _) ?_
      quiet_step (exact fun _ => rfl)
      quiet_step (exact fun _ => rfl)
      quiet_step (exact fun hw' => (around_any _ S K (m == 10)).mono fun e w'' he => ⟨he.1, HC'.out _ ((HC.out _ hw').trans (he.2.mono (HC.out _ hw').size))⟩)
      refine wpQuiet_nil ?_
      intro W6 hC6
      have hb6 := HC.out _ hC6
      have HE6 := kept (HE5.out.below hb6)
      have HB6 := kept (HB5.out.below hb6 HB5.out.lt)
      clear hC6 hb6 HC HC' Q1 Q2 HE5 HB5
      obtain ⟨T, hT⟩ : ∃ T, aRnd (m == 10) S K = T := ⟨_, rfl⟩
      rw [hT] at HN
      rw [hT]
      clear hT
      go_wp2_with (refine wpList_store_row rfl 22 (.tmp 3) (.tmp 23) rfl (w.heap.size + 1) (bA 16 T) rfl rfl 22 (bA 16 S) HB6.out (by rw [b16_size, bA_size]) (by rw [bA_size, bA_size]) (bA_one _ _) ?_)
      go_roundw
      case rel => exact ⟨n + 1, by have := HM.out; omega, congrArg (Value.int .i64) (by have := HM.out; omega), kept (HE6.out.row hg5 _), kept (by rw [HM.out, HN.out]; exact setRow_heap _ _ _ _ _ _ HB6.out)⟩
      case measure => have := HM.out; simp [intOf]; omega
    · obtain rfl : n = 10 := by omega
      rw [← HRES.out] at HB5
      clear hn hlt HRES
      go_wp2_with (first | (refine wpList_load_row rfl 22 (.tmp 3) rfl (w.heap.size + 1) rfl 22 (bA 16 RES) (0, 0) _ HB5.out Tryd.underlying22 rfl (by rw [b16_size, bA_size]) ?_) | (refine wpList_store_row rfl 22 (.tmp 4) (.tmp 24) rfl (w.heap.size + 1 + 1) (bA 16 RES) rfl rfl 22 (bA 16 (fun _ => 0)) HE5.out.br (by rw [b16_size, bA_size]) (by rw [bA_size, bA_size]) (bA_one _ _) ?_))
      exact bodyPost_ret (v := .agg (bA 16 RES)) (results_cell_row Tryd.results58 _ _ (w.heap.size + 1 + 1) 22 (bA 16 RES) (0, 0) _ rfl (setRow_heap _ _ _ _ _ _ HE5.out.br) Tryd.underlying22 rfl (by rw [b16_size, bA_size])) rfl ⟨rfl, below_setRow HE5.out.bw (by omega) _⟩
end Go.Proofs.YtcjbplgjjhenkaaDoor
/-
  Package ctr: a block of a stream, by a contract.
-/
namespace Go.Proofs.YtcjbplgjjhenkaaDoor
open Go.RowKit
set_option linter.unusedVariables false
set_option linter.unusedSimpArgs false

/-- A nonce, and the last k bytes of a number behind it. -/
def bFill (nonce : Nat → UInt8) (i k : Nat) : Nat → UInt8 := fun j => if j < 8 then nonce j else if 15 < j + k then UInt8.ofNat (i / 256 ^ (15 - j) % 256) else 0
theorem bFill_set (nonce : Nat → UInt8) (i k j : Nat) (hk : k < 8) (hj : j < 16) : bFill nonce i (k + 1) j = if j = 15 - k then UInt8.ofNat (i / 256 ^ k % 256) else bFill nonce i k j := by
  unfold bFill
  by_cases e : j = 15 - k
  · subst e
    rw [if_pos rfl, if_neg (by omega), if_pos (by omega), show 15 - (15 - k) = k by omega]
  · rw [if_neg e]
    by_cases h : j < 8
    · rw [if_pos h, if_pos h]
    · rw [if_neg h, if_neg h]
      by_cases h2 : 15 < j + k
      · rw [if_pos h2, if_pos (by omega)]
      · rw [if_neg h2, if_neg (by omega)]
theorem bFill_zero (nonce : Nat → UInt8) (i : Nat) : (splice (bA 16 fun _ => 0).toList 0 (bA 8 nonce).toList).toArray = bA 16 (bFill nonce i 0) := by
  rw [splice_bA _ _ 16 0 8 (by omega)]
  refine bA_ext fun j hj => ?_
  unfold bFill
  by_cases h : j < 8
  · rw [if_pos (by omega), if_pos h, Nat.sub_zero]
  · rw [if_neg (by omega), if_neg h, if_neg (by omega)]
theorem bFill_all (nonce : Nat → UInt8) (i : Nat) : bA 16 (bFill nonce i 8) = bA 16 (cBlk nonce i) := bA_ext fun j hj => by
  unfold bFill cBlk
  by_cases h : j < 8
  · rw [if_pos h, if_pos h]
  · rw [if_neg h, if_neg h, if_pos (by omega)]
theorem al8 : Tryd.prog.arrayLen 23 = 8 := by simp [Program.arrayLen, Tryd.underlying23]
theorem el8 : Tryd.prog.elem 23 = 5 := by simp [Program.elem, Tryd.underlying23]
theorem slice8_all (w : World) (g : Nat) : (Instr.sliceAt 23 (.pointer (some ⟨g, 0, none⟩)) none none none).run Tryd.prog w = .ok (.slice (some ⟨g, 0, none⟩) 8 8) w := by
  rw [run_sliceAt_array_all w 23 ⟨g, 0, none⟩ (by simp [Program.arrayLen, Program.elem, Tryd.underlying23])]
  rw [al8, el8, size_u8]
  show Result.ok (slicedAt _ _ _ _ _) w = _
  unfold slicedAt
  rw [if_neg (by omega), Addr.add_mid]
theorem slice16_all (w : World) (g : Nat) : (Instr.sliceAt 22 (.pointer (some ⟨g, 0, none⟩)) none none none).run Tryd.prog w = .ok (.slice (some ⟨g, 0, none⟩) 16 16) w := by
  rw [run_sliceAt_array_all w 22 ⟨g, 0, none⟩ (by simp [Program.arrayLen, Program.elem, Tryd.underlying22])]
  rw [al16, el16, size_u8]
  show Result.ok (slicedAt _ _ _ _ _) w = _
  unfold slicedAt
  rw [if_neg (by omega), Addr.add_mid]
structure BEnv (w : World) (key : Nat → UInt8) (W : World) : Prop where
  bk : Blk W w.heap.size 22 (bA 16 key)
  br : Blk W (w.heap.size + 1 + 1) 22 (bA 16 fun _ => 0)
  bw : Below w.heap.size w W
theorem BEnv.set {w W : World} {key : Nat → UInt8} (h : BEnv w key W) {g : Nat} (hg : w.heap.size + 3 ≤ g) (i : Nat) (u : Value) : BEnv w key (W.setCell ⟨g, i, none⟩ u) :=
  ⟨h.bk.far (by show w.heap.size ≠ g; omega) u, h.br.far (by show w.heap.size + 1 + 1 ≠ g; omega) u, h.bw.setCell (by show w.heap.size ≤ g; omega) u⟩
theorem BEnv.row {w W : World} {key : Nat → UInt8} (h : BEnv w key W) {g : Nat} (hg : w.heap.size + 3 ≤ g) (ds : Array Value) : BEnv w key (W.setRow g ds) :=
  ⟨h.bk.row_far (by omega), h.br.row_far (by omega), below_setRow h.bw (by omega) _⟩
theorem BEnv.below {w W W' : World} {key : Nat → UInt8} (h : BEnv w key W) (k : Below W.heap.size W W') : BEnv w key W' :=
  ⟨h.bk.below k h.bk.lt, h.br.below k h.br.lt, below_next h.bw k⟩
theorem BEnv.drew {w W : World} {key : Nat → UInt8} (h : BEnv w key W) : BEnv w key W.drew := ⟨h.bk.drew_, h.br.drew_, h.bw.drew⟩
set_option maxHeartbeats 2000000 in
set_option maxRecDepth 100000 in
theorem cblock_any (w : World) (key nonce : Nat → UInt8) (i : Nat) (hi : i < 18446744073709551616) : Calls Tryd.prog 49 #[.agg (bA 16 key), .agg (bA 8 nonce), .int .u64 (i : Int)] w fun e w' => e = .returned (.agg (bA 16 (cEnc key nonce i))) ∧ Below w.heap.size w w' := by
  go_enter Tryd.func49, Tryd.ntmps49
  go_upto_region 2 with (fail)
  go_name_world W0 hW0
  have n0 := Blk.new w 22 (bA 16 key)
  have n1 := Blk.new (w.alloc (.cells (bA 16 key) 22)) 23 (bA 8 nonce)
  have n2 := Blk.new ((w.alloc (.cells (bA 16 key) 22)).alloc (.cells (bA 8 nonce) 23)) 22 (bA 16 fun _ => 0)
  have n3 := Blk.new (((w.alloc (.cells (bA 16 key) 22)).alloc (.cells (bA 8 nonce) 23)).alloc (.cells (bA 16 fun _ => 0) 22)) 22 (bA 16 fun _ => 0)
  simp only [World.size_alloc] at n1 n2 n3
  have HE0 := kept (show BEnv w key W0 by
    rw [← hW0]
    exact ⟨((n0.alloc _).alloc _).alloc _, n2.alloc _, ((((Below.refl _ _).alloc (Nat.le_refl _) _).alloc (by simp) _).alloc (by simp; omega) _).alloc (by simp; omega) _⟩)
  have HN0 := kept (show Blk W0 (w.heap.size + 1) 23 (bA 8 nonce) by rw [← hW0]; exact (n1.alloc _).alloc _)
  have HB0 := kept (show Blk W0 (w.heap.size + 1 + 1 + 1) 22 (bA 16 fun _ => 0) by rw [← hW0]; exact n3)
  clear hW0 n0 n1 n2 n3
  have hs1 := fun w' => slice16_all w' (w.heap.size + 1 + 1 + 1)
  have hs2 := fun w' => slice8_all w' (w.heap.size + 1)
  have HSRC := kept (show ∀ j v, (bA 8 nonce).toList[j]? = some v → W0.drew.cell? ((⟨w.heap.size + 1, 0, none⟩ : Addr).add j) = some v from fun j v hv => by
    rw [Addr.add_mid, Nat.zero_add]
    show W0.cell? _ = _
    rw [HN0.out.cell]
    simpa using hv)
  have HLM := kept (show (bA 8 nonce).toList.length = 8 by rw [Array.length_toList, bA_size])
  have HONE := kept (show ∀ v ∈ (bA 8 nonce).toList, v.oneCell' = true from fun v hv => by
    have := bA_one 8 nonce
    rw [Array.all_eq_true_iff_forall_mem] at this
    exact this v (by simpa using hv))
  obtain ⟨CC, hCd⟩ : ∃ CC : World → Prop, CC = fun w' => w' = W0.drew := ⟨_, rfl⟩
  have HC := kept (show ∀ w', CC w' → w' = W0.drew from fun w' h => by rw [hCd] at h; exact h)
  have hC0 : CC W0.drew := by rw [hCd]
  clear hCd
  refine wp_region_tail CC 2 (by kernel_rfl) (by kernel_rfl) hC0 ?_
  simp only [List.take_succ_cons, List.take_zero, List.drop_succ_cons, List.drop_zero]
  quiet_step (exact fun _ => rfl)
  quiet_step (exact fun _ => rfl)
  refine wpQuiet_nil ?_
  intro W5 hC5
  rw [HC.out _ hC5]
  clear hC5 hC0 HC
  go_wp2_with (refine wpList_copy_own rfl (.tmp 9) (.tmp 10) 24 24 rfl 5 Tryd.underlying24 u8_size (w.heap.size + 1 + 1 + 1) 0 16 16 ⟨w.heap.size + 1, 0, none⟩ 8 8 rfl rfl (bA 16 fun _ => 0) 22 HB0.out (bA 8 nonce).toList (by rw [HLM.out]; show _ = min _ _; omega) HSRC.out (by rw [HLM.out, bA_size]; omega) HONE.out ?_)
  go_name_world W6 hW6
  have HE6 := kept (show BEnv w key W6 by rw [← hW6]; exact HE0.out.drew.row (by omega) _)
  have HB6 := kept (show Blk W6 (w.heap.size + 1 + 1 + 1) 22 (bA 16 (bFill nonce i 0)) by
    rw [← hW6, ← bFill_zero, show (splice (bA 16 fun _ => 0).toList 0 (bA 8 nonce).toList).toArray = ((bA 8 nonce).toList ++ List.drop (bA 8 nonce).size (bA 16 fun _ => 0).toList).toArray by simp [splice]]
    exact setRow_heap _ _ _ _ _ _ HB0.out.drew_)
  clear hW6 HE0 HB0 HN0 hs1 hs2 HSRC HLM HONE
  generalize (bA 8 nonce).size = sz
  go_loopw [12] (fun k wr => ∃ n : Nat, n ≤ 8 ∧ k = .int .i64 n ∧ Kept (BEnv w key wr) ∧ Kept (Blk wr (w.heap.size + 1 + 1 + 1) 22 (bA 16 (bFill nonce i n)))) (fun k _ => 8 - (intOf k).toNat)
  case atStart => exact ⟨0, Nat.zero_le _, rfl, HE6, HB6⟩
  case round =>
    obtain ⟨n, hn, rfl, HE1, HB1⟩ := hrel
    rename World => W1
    clear HE6 HB6
    by_cases hlt : n < 8
    · have hn8 : (n : Int) < 8 := by omega
      have HS := kept fun j (hj : j < 16) => bFill_set nonce i n j hlt hj
      have HM := kept (digit n i)
      have c3 : ∃ o : UInt8, W1.cell? ⟨w.heap.size + 1 + 1 + 1, 15 - n, none⟩ = some (.int .u8 (o.toNat : Int)) := ⟨_, by rw [HB1.out.cell]; exact bA_at _ _ (by omega)⟩
      obtain ⟨o3, c3⟩ := c3
      have f3 := HB1.out.frozen (15 - n)
      have h15 : (15 : Int) - (n : Int) = ((15 - n : Nat) : Int) := by omega
      go_wp2_with fail
      refine ⟨⟨n + 1, by omega, by go_num, kept (HE1.out.set (by omega) _ _), kept ?_⟩, by simp [intOf]; omega⟩
      rw [HM.out]
      exact HB1.out.putB (15 - n) _ HS.out
    · obtain rfl : n = 8 := by omega
      have HB2 := kept (show Blk W1 (w.heap.size + 1 + 1 + 1) 22 (bA 16 (cBlk nonce i)) by rw [← bFill_all]; exact HB1.out)
      clear HB1 hn hlt
      go_wp2_with (first | (refine wpList_load_row rfl 22 (.tmp 3) rfl w.heap.size rfl 22 (bA 16 key) (0, 0) _ HE1.out.bk Tryd.underlying22 rfl (by rw [b16_size, bA_size]) ?_) | (refine wpList_load_row rfl 22 (.tmp 7) rfl (w.heap.size + 1 + 1 + 1) rfl 22 (bA 16 (cBlk nonce i)) (0, 0) _ HB2.out Tryd.underlying22 rfl (by rw [b16_size, bA_size]) ?_))
      refine (aenc_any W1 key (cBlk nonce i)).mono ?_
      rintro e w2 ⟨rfl, k⟩
      have HE2 := kept (HE1.out.below k)
      clear k HE1 HB2
      obtain ⟨R, hR⟩ : ∃ R, aEnc key (cBlk nonce i) = R := ⟨_, rfl⟩
      rw [hR]
      have HR := kept (show cEnc key nonce i = R from hR)
      clear hR
      go_wp2_with (refine wpList_store_row rfl 22 (.tmp 6) (.tmp 26) rfl (w.heap.size + 1 + 1) (bA 16 R) rfl rfl 22 (bA 16 (fun _ => 0)) HE2.out.br (by rw [b16_size, bA_size]) (by rw [bA_size, bA_size]) (bA_one _ _) ?_)
      exact bodyPost_ret (v := .agg (bA 16 R)) (results_cell_row Tryd.results49 _ _ (w.heap.size + 1 + 1) 22 (bA 16 R) (0, 0) _ rfl (setRow_heap _ _ _ _ _ _ HE2.out.br) Tryd.underlying22 rfl (by rw [b16_size, bA_size])) rfl ⟨by rw [HR.out], below_setRow HE2.out.bw (by omega) _⟩
end Go.Proofs.YtcjbplgjjhenkaaDoor
namespace Go.Proofs.YtcjbplgjjhenkaaDoor
open Go.RowKit
set_option linter.unusedVariables false
set_option linter.unusedSimpArgs false

/-- Where the crypted bytes lie: at the string's own address, if there are none of them. -/
def midA (q o n : Nat) : Option Addr := if n - 16 = 8 then some ⟨q, o, none⟩ else some ⟨q, o + 8, none⟩
theorem Mem.midA {w : World} {q o : Nat} {l : List UInt8} (h : Mem w q (some ⟨q, o, none⟩) l) : Mem w q (midA q o l.length) ((l.take (l.length - 16)).drop 8) := by
  unfold Go.Proofs.YtcjbplgjjhenkaaDoor.midA
  split
  · rename_i e
    rw [e, List.drop_of_length_le (by rw [List.length_take]; omega)]
    exact .inl rfl
  · exact (h.take (l.length - 16)).drop_at 8
/-- The parts, as the struct holds them. -/
def divC (q o n : Nat) : Array Value := #[.slice (some ⟨q, o, none⟩) 8 8, .slice (midA q o n) (n - 24) (n - 24), .slice (some ⟨q, o + (n - 16), none⟩) 16 16]
def divZ : Array Value := #[.slice none 0 0, .slice none 0 0, .slice none 0 0]
theorem elem_bs : Tryd.prog.elem 24 = 5 := by simp [Program.elem, Tryd.underlying24]
theorem cut_nonce (w : World) (q o n c : Nat) (h : 24 ≤ n) (hc : n ≤ c) : (Instr.slice 24 (.slice (some ⟨q, o, none⟩) n c) none (some (.int .i64 8)) (some (.int .i64 8))).run Tryd.prog w = .ok (.slice (some ⟨q, o, none⟩) 8 8) w := by
  rw [run_slice_hm w 24 (some ⟨q, o, none⟩) n c (by rw [elem_bs]; exact Tryd.underlying24) .i64 .i64 8 8 (by omega) (by omega) (by omega)]
  rw [elem_bs, size_u8]
  show Result.ok (sliced _ _ _ _ _) w = _
  unfold sliced
  rw [show (8 : Int).toNat = 8 from rfl, if_neg (by omega)]
  show Result.ok (Value.slice (some (Addr.add _ _)) _ _) w = _
  rw [Addr.add_mid]
  rfl
theorem cut_mid (w : World) (q o n c : Nat) (h : 24 ≤ n) (hc : n ≤ c) : (Instr.slice 24 (.slice (some ⟨q, o, none⟩) n c) (some (.int .i64 8)) (some (.int .i64 ((n - 16 : Nat) : Int))) (some (.int .i64 ((n - 16 : Nat) : Int)))).run Tryd.prog w = .ok (.slice (midA q o n) (n - 24) (n - 24)) w := by
  rw [run_slice_lhm w 24 (some ⟨q, o, none⟩) n c (by rw [elem_bs]; exact Tryd.underlying24) .i64 .i64 .i64 8 ((n - 16 : Nat) : Int) ((n - 16 : Nat) : Int) (by omega) (by omega) (by omega) (by omega)]
  rw [elem_bs, size_u8]
  show Result.ok (sliced _ _ _ _ _) w = _
  unfold sliced Go.Proofs.YtcjbplgjjhenkaaDoor.midA
  rw [show (8 : Int).toNat = 8 from rfl, show ((n - 16 : Nat) : Int).toNat = n - 16 by omega, show n - 16 - 8 = n - 24 by omega]
  split
  · rfl
  · show Result.ok (Value.slice (some (Addr.add _ _)) _ _) w = _
    rw [Addr.add_mid]
theorem cut_code (w : World) (q o n c : Nat) (h : 24 ≤ n) (hc : n ≤ c) : (Instr.slice 24 (.slice (some ⟨q, o, none⟩) n c) (some (.int .i64 ((n - 16 : Nat) : Int))) (some (.int .i64 (n : Int))) (some (.int .i64 (n : Int)))).run Tryd.prog w = .ok (.slice (some ⟨q, o + (n - 16), none⟩) 16 16) w := by
  rw [run_slice_lhm w 24 (some ⟨q, o, none⟩) n c (by rw [elem_bs]; exact Tryd.underlying24) .i64 .i64 .i64 ((n - 16 : Nat) : Int) (n : Int) (n : Int) (by omega) (by omega) (by omega) (by omega)]
  rw [elem_bs, size_u8]
  show Result.ok (sliced _ _ _ _ _) w = _
  unfold sliced
  rw [show ((n - 16 : Nat) : Int).toNat = n - 16 by omega, show (n : Int).toNat = n by omega, if_neg (by omega), show n - (n - 16) = 16 by omega]
  show Result.ok (Value.slice (some (Addr.add _ _)) _ _) w = _
  rw [Addr.add_mid, Nat.mul_one]
theorem results_row_tmp {P : Program} {fn : Func} {p u : Tmp} {ty : TypeId} (h : fn.results = #[.cell p ty, .tmp u]) (tmps : Array Value) (w : World) (g : Nat) (t : TypeId) (cs : Array Value) (fr : Nat × Nat) (d : TypeDesc)
    (hp : tmps.getD p undef = .pointer (some ⟨g, 0, none⟩)) (hg : w.heap[g]? = some (.cells cs t fr)) (hu : P.underlying ty = some d) (hd : (match d with | .struct _ | .array _ _ => true | _ => false) = true) (hi : (P.info? ty).map (·.size) = some cs.size) :
    (results fn tmps).run P w = .ok (.tuple #[.agg cs, tmps.getD u undef]) w := by
  have hp' : tmps[p]?.getD undef = .pointer (some ⟨g, 0, none⟩) := by simpa using hp
  simp [results, h, hp', asAddr, run_loadVar_row w g t ty cs fr d hg hu hd hi]
theorem results_row_row {P : Program} {fn : Func} {p u : Tmp} {ty tz : TypeId} (h : fn.results = #[.cell p ty, .cell u tz]) (tmps : Array Value) (w : World) (g k : Nat) (t t' : TypeId) (cs ds : Array Value) (fr fr' : Nat × Nat) (d d' : TypeDesc)
    (hp : tmps.getD p undef = .pointer (some ⟨g, 0, none⟩)) (hg : w.heap[g]? = some (.cells cs t fr)) (hu : P.underlying ty = some d) (hd : (match d with | .struct _ | .array _ _ => true | _ => false) = true) (hi : (P.info? ty).map (·.size) = some cs.size)
    (hp2 : tmps.getD u undef = .pointer (some ⟨k, 0, none⟩)) (hg2 : w.heap[k]? = some (.cells ds t' fr')) (hu2 : P.underlying tz = some d') (hd2 : (match d' with | .struct _ | .array _ _ => true | _ => false) = true) (hi2 : (P.info? tz).map (·.size) = some ds.size) :
    (results fn tmps).run P w = .ok (.tuple #[.agg cs, .agg ds]) w := by
  have hp' : tmps[p]?.getD undef = .pointer (some ⟨g, 0, none⟩) := by simpa using hp
  have hp2' : tmps[u]?.getD undef = .pointer (some ⟨k, 0, none⟩) := by simpa using hp2
  simp [results, h, hp', hp2', asAddr, run_loadVar_row w g t ty cs fr d hg hu hd hi, run_loadVar_row w k t' tz ds fr' d' hg2 hu2 hd2 hi2]
theorem parts_size : (Tryd.prog.info? 47).map (·.size) = some 3 := by kernel_rfl
theorem divZ_one : divZ.all (·.oneCell') = true := by simp [divZ, Value.oneCell']
theorem divC_one (q o n : Nat) : (divC q o n).all (·.oneCell') = true := by simp [divC, Value.oneCell']
theorem divide_no (w : World) (n c : Nat) (A : Option Addr) (h : n < 24) :
    Calls Tryd.prog 22 #[.slice A n c] w fun e w' => e = .returned (.tuple #[.agg divZ, .bool false]) ∧ Below w.heap.size w w' := by
  have hd : decide ((n : Int) < 24) = true := by rw [decide_eq_true_eq]; omega
  go_enter Tryd.func22, Tryd.ntmps22
  go_upto_region 2 with (fail)
  go_name_world W0 hW0
  have HB := kept (show Blk W0 w.heap.size 47 divZ by rw [← hW0]; exact Blk.new w _ _)
  have HW := kept (show Below w.heap.size w W0 by rw [← hW0]; exact (Below.refl _ w).alloc (Nat.le_refl _) _)
  clear hW0
  go_wp2_with (refine wpList_store_row rfl 47 (.tmp 2) (.tmp 8) rfl w.heap.size divZ rfl rfl 47 divZ HB.out (by rw [parts_size]; rfl) rfl divZ_one ?_)
  (try simp only [Exit.inBlock, Exit.then])
  exact bodyPost_ret (v := .tuple #[.agg divZ, .bool false]) (results_row_tmp Tryd.results22 _ _ w.heap.size 47 divZ (0, 0) _ rfl (setRow_heap _ _ _ _ _ _ HB.out) Tryd.underlying47 rfl (by rw [parts_size]; rfl)) rfl ⟨rfl, below_setRow HW.out (Nat.le_refl _) _⟩
set_option maxHeartbeats 4000000 in
theorem divide_yes (w : World) (q o n c : Nat) (h : 24 ≤ n) (hl : n ≤ 1048600) (hc : n ≤ c) :
    Calls Tryd.prog 22 #[.slice (some ⟨q, o, none⟩) n c] w fun e w' => e = .returned (.tuple #[.agg (divC q o n), .bool true]) ∧ Below w.heap.size w w' := by
  have hd : decide ((n : Int) < 24) = false := by rw [decide_eq_false_iff_not]; omega
  have hsub : IntKind.i64.wrap ((n : Int) - 16) = ((n - 16 : Nat) : Int) := by
    rw [IntWalk.i64_in _ (by omega)]
    omega
  have h1 := fun w' => cut_nonce w' q o n c h hc
  have h2 := fun w' => cut_mid w' q o n c h hc
  have h3 := fun w' => cut_code w' q o n c h hc
  go_enter Tryd.func22, Tryd.ntmps22
  go_upto_region 4 with (fail)
  go_name_world W0 hW0
  have HB := kept (show Blk W0 w.heap.size 47 divZ by rw [← hW0]; exact Blk.new w _ _)
  have HW := kept (show Below w.heap.size w W0 by rw [← hW0]; exact (Below.refl _ w).alloc (Nat.le_refl _) _)
  clear hW0
  obtain ⟨CC, hCd⟩ : ∃ CC : World → Prop, CC = fun w' => w' = W0.drew := ⟨_, rfl⟩
  have HC := kept (show ∀ w', CC w' → w' = W0.drew from fun w' h => by rw [hCd] at h; exact h)
  have hC0 : CC W0.drew := by rw [hCd]
  clear hCd
  refine wp_region_tail CC 14 (by kernel_rfl) (by kernel_rfl) hC0 ?_
  simp only [List.take_succ_cons, List.take_zero, List.drop_succ_cons, List.drop_zero]
  iterate 14 quiet_step (exact fun _ => rfl)
  refine wpQuiet_nil ?_
  intro W5 hC5
  rw [HC.out _ hC5]
  clear hC5 hC0 HC
  clear hsub h1 h2 h3
  go_wp2_with (refine wpList_store_row rfl 47 (.tmp 2) (.tmp 25) rfl w.heap.size (divC q o n) rfl rfl 47 divZ HB.out.drew_ (by rw [parts_size]; rfl) rfl (divC_one _ _ _) ?_)
  (try simp only [Exit.inBlock, Exit.then])
  exact bodyPost_ret (v := .tuple #[.agg (divC q o n), .bool true]) (results_row_tmp Tryd.results22 _ _ w.heap.size 47 (divC q o n) (0, 0) _ rfl (setRow_heap _ _ _ _ _ _ HB.out.drew_) Tryd.underlying47 rfl (by rw [parts_size]; rfl)) rfl ⟨rfl, below_setRow HW.out.drew (Nat.le_refl _) _⟩
end Go.Proofs.YtcjbplgjjhenkaaDoor
