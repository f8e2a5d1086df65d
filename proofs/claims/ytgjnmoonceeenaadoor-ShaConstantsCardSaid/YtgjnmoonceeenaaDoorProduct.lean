/-
  The reference's product, by a contract.
-/
import Derived.Test.YtgjnmoonceeenaaDoorGreater
import Derived.Lib.ItoaWalk
namespace Go.Proofs.YtgjnmoonceeenaaDoor
open Go.RowKit
set_option linter.unusedVariables false
set_option linter.unusedSimpArgs false
def uA (T : Nat) (f : Nat → Nat) : Array Value := gA T fun m => .int .u64 (f m : Int)
def prodV (a b : List Nat) (i k : Nat) : Nat := vF (dL a) i * val b + dL a i * vF (dL b) k * 65536 ^ i
theorem prodV_zero (a b : List Nat) (i : Nat) : prodV a b i 0 = vF (dL a) i * val b := by simp [prodV, vF]
theorem prodV_full (a b : List Nat) (i : Nat) : prodV a b i b.length = prodV a b (i + 1) 0 := by
  rw [prodV_zero]
  unfold prodV
  rw [vF, Nat.add_mul]
  show _ + dL a i * val b * 65536 ^ i = _
  rw [Nat.mul_assoc, Nat.mul_comm (val b), ← Nat.mul_assoc]
theorem prodV_step (a b : List Nat) (i k : Nat) : prodV a b i (k + 1) = prodV a b i k + dL a i * dL b k * 65536 ^ (i + k) := by
  unfold prodV
  rw [vF, Nat.mul_add, Nat.add_mul, ← Nat.mul_assoc, Nat.mul_assoc (dL a i * dL b k), ← Nat.pow_add, Nat.add_comm k i]
  omega
theorem prodV_lt {a b : List Nat} (ha : Digs a) (hb : Digs b) {i k : Nat} (hi : i < a.length) (hk : k ≤ b.length) : prodV a b i k < 65536 ^ (a.length + b.length) := by
  have h1 : prodV a b i k ≤ prodV a b i b.length := by
    unfold prodV
    exact Nat.add_le_add_left (Nat.mul_le_mul_right _ (Nat.mul_le_mul_left _ (vF_mono _ hk))) _
  rw [prodV_full, prodV_zero] at h1
  have h2 : vF (dL a) (i + 1) * val b ≤ val a * val b := Nat.mul_le_mul_right _ (vF_mono _ hi)
  have h3 : val a * val b < 65536 ^ a.length * 65536 ^ b.length := Nat.mul_lt_mul'' (val_lt ha) (val_lt hb)
  rw [← Nat.pow_add] at h3
  omega
theorem bump (f : Nat → Nat) (T j x : Nat) (hj : j < T) : vF (fun m => if m = j then f j + x else f m) T = vF f T + x * 65536 ^ j := by
  have h := vF_set f j (f j + x) T hj
  rw [Nat.add_mul] at h
  omega
theorem uA_cell {w : World} {g : Nat} {t : TypeId} {T : Nat} {f : Nat → Nat} (h : Blk w g t (uA T f)) {m : Nat} (hm : m < T) : w.cell? ⟨g, m, none⟩ = some (.int .u64 (f m : Int)) := by
  rw [h.cell]
  exact gA_at _ _ hm
theorem val_fn (T : Nat) (f : Nat → Nat) : vF f T = val ((List.range T).map f) := by
  unfold val
  rw [List.length_map, List.length_range]
  refine vF_congr _ fun i hi => ?_
  unfold dL
  simp [List.getD, hi]
theorem digs_fn {T : Nat} {f : Nat → Nat} (h : ∀ m, f m < 65536) : Digs ((List.range T).map f) := by
  intro x hx
  obtain ⟨m, _, rfl⟩ := List.mem_map.1 hx
  exact h m
theorem ownU_of_blk {w : World} {g B : Nat} {T : Nat} {f : Nat → Nat} (h : Blk w g 30 (uA T f)) (hT : T ≤ 1000) (hg : B ≤ g := by omega) : OwnU 30 w B (.slice (some ⟨g, 0, none⟩) T T) (nl ((List.range T).map f)) := by
  have e : (uA T f).toList = (nl ((List.range T).map f)).map uv := by
    unfold uA gA nl uv
    simp
  refine ⟨by simp [nl], .inr ⟨g, T, uA T f, by rw [nl_len, List.length_map, List.length_range], hg, h, by simp [nl], by unfold maxLen; omega, by rw [Nat.mul_one]; exact gA_size _ _, ?_⟩⟩
  rw [← e, List.take_of_length_le]
  simp [nl, uA, gA]
set_option maxHeartbeats 2000000 in
theorem rproduct_any (w : World) (qa qb : Nat) (Aa Ab : Option Addr) (ca cb : Nat) (a b : List Nat) (ha : Digs a) (hb : Digs b) (hma : MemU w qa Aa (nl a)) (hmb : MemU w qb Ab (nl b)) (hla : a.length ≤ 100) (hlb : b.length ≤ 100) :
    Calls Tryd.prog 30 #[.slice Aa a.length ca, .slice Ab b.length cb] w fun e w' => ∃ (l : List Nat) (v : Value), e = .returned v ∧ OwnU 30 w' w.heap.size v (nl l) ∧ Below w.heap.size w w' ∧ val l = val a * val b ∧ Digs l ∧ l.length = a.length + b.length + 1 := by
  obtain ⟨T, hT⟩ : ∃ T, a.length + b.length + 1 = T := ⟨_, rfl⟩
  have hmk := run_make_row' (P := Tryd.prog) 58 30 (.int .u64 0) 8 Tryd.underlying58 u64_info rfl .i64 .i64 T (by omega) (by omega)
  have ec : (T : Int) = (a.length : Int) + b.length + 1 := by omega
  rw [madeCells_gA, ec] at hmk
  clear ec
  have DA := kept ha
  have DB := kept hb
  have HMA := kept hma
  have HMB := kept hmb
  clear ha hb hma hmb
  go_enter Tryd.func30, Tryd.ntmps30
  go_wp2
  go_name_world W0 hW0
  have hB : Blk W0 w.heap.size 30 (uA T fun _ => 0) := by rw [← hW0]; exact Blk.new _ _ _
  have hbw : Below w.heap.size w W0 := by rw [← hW0]; exact (Below.refl _ _).alloc (Nat.le_refl _) _
  have HB := kept hB
  have HBW := kept hbw
  have HT := kept hT
  clear hB hW0 hmk hbw hT
  go_loopw [6] (fun i wr => ∃ (k : Nat) (f : Nat → Nat), i = .int .i64 (k : Int) ∧ k ≤ a.length ∧ Kept (vF f T = prodV a b k 0) ∧ Kept (∀ m, f m < 65536) ∧ Kept (Blk wr w.heap.size 30 (uA T f)) ∧ Kept (Below w.heap.size w wr)) (fun i _ => (a.length - intOf i).toNat)
  case atStart => exact ⟨0, fun _ => 0, rfl, Nat.zero_le _, kept (by rw [prodV_zero, vF_zero T (Nat.zero_le _) (fun _ _ _ => rfl)]; simp [vF]), kept (fun m => by show 0 < 65536; omega), HB, HBW⟩
  case round =>
    obtain ⟨i, f, rfl, hi, HV, HF, HB1, HW1⟩ := hrel
    rename World => W1
    by_cases hia : i < a.length
    · go_wp2
      go_loopw [7] (fun y wr => ∃ (k : Nat) (f : Nat → Nat), y = .int .i64 (k : Int) ∧ k ≤ b.length ∧ Kept (vF f T = prodV a b i k) ∧ Kept (∀ m, f m < 65536) ∧ Kept (Blk wr w.heap.size 30 (uA T f)) ∧ Kept (Below w.heap.size w wr)) (fun i _ => (b.length - intOf i).toNat)
      case atStart => exact ⟨0, f, rfl, Nat.zero_le _, HV, HF, HB1, HW1⟩
      case round =>
        obtain ⟨k, f, rfl, hk, HV, HF, HB1, HW1⟩ := hrel
        rename World => W2
        by_cases hkb : k < b.length
        · obtain ⟨oa, rfl, ca1⟩ := memU_at (HMA.out.keep fun hq => HW1.out.block _ hq) hia
          obtain ⟨ob, rfl, cb1⟩ := memU_at (HMB.out.keep fun hq => HW1.out.block _ hq) hkb
          have p1 : i + k < T := by have := HT.out; omega
          have co1 := uA_cell HB1.out p1
          have fo1 := HB1.out.frozen (i + k)
          have z1 : dL a i * dL b k ≤ 65535 * 65535 := Nat.mul_le_mul (by have := DA.out.at_ i; omega) (by have := DB.out.at_ k; omega)
          have z2 := HF.out (i + k)
          go_wp2
          go_region
          generalize hW3 : World.drew (World.setCell W2 _ _) = W3
          obtain ⟨f3, hf3⟩ : ∃ f3, (fun m => if m = i + k then f (i + k) + dL a i * dL b k else f m) = f3 := ⟨_, rfl⟩
          have hB3 : Blk W3 w.heap.size 30 (uA T f3) := by
            rw [← hW3]
            refine Blk.drew_ (Blk.putG HB1.out _ _ fun m _ => ?_)
            rw [← hf3]
            by_cases e : m = i + k
            · simp only [e, if_true]; congr 1
            · simp only [e, if_false]
          have hv3 : vF f3 T = prodV a b i (k + 1) := by
            rw [prodV_step, ← HV.out, ← hf3]
            exact bump f T (i + k) _ p1
          have hl3 : ∀ m, m ≠ i + k → f3 m < 65536 := fun m hm => by
            rw [← hf3]
            show (if m = i + k then _ else f m) < 65536
            rw [if_neg hm]
            exact HF.out m
          have hc3 : f3 (i + k) < 8589934592 := by
            rw [← hf3]
            show (if i + k = i + k then f (i + k) + dL a i * dL b k else _) < _
            rw [if_pos rfl]
            omega
          have hw3 : Below w.heap.size w W3 := by rw [← hW3]; exact (HW1.out.setCell (p := ⟨w.heap.size, i + k, none⟩) (Nat.le_refl _) _).drew
          have HB3 := kept hB3
          have HV3 := kept hv3
          have HL3 := kept hl3
          have HC3 := kept hc3
          have HW3 := kept hw3
          clear hW3 hf3 hB3 hv3 hl3 hc3 hw3 co1 fo1 z1 z2 ca1 cb1
          go_wp2
          go_loopw [8] (fun y wr => ∃ (j : Nat) (f : Nat → Nat), y = .int .i64 (j : Int) ∧ j < T ∧ Kept (vF f T = prodV a b i (k + 1)) ∧ Kept (∀ m, m ≠ j → f m < 65536) ∧ Kept (f j < 8589934592) ∧ Kept (Blk wr w.heap.size 30 (uA T f)) ∧ Kept (Below w.heap.size w wr)) (fun i _ => (T - intOf i).toNat)
          case atStart => exact ⟨i + k, f3, by first | go_num | (congr 1; omega), p1, HV3, HL3, HC3, HB3, HW3⟩
          case round =>
            obtain ⟨j, f, rfl, hj, HV, HL, HC, HB1, HW1⟩ := hrel
            rename World => W4
            have co1 := uA_cell HB1.out hj
            have hge : decide ((65536 : Int) ≤ (f j : Int)) = decide (65536 ≤ f j) := by rw [decide_eq_decide]; omega
            by_cases hc : 65536 ≤ f j
            · have hj1 : j + 1 < T := carry_fits hj HV.out (by rw [← HT.out, Nat.add_sub_cancel]; exact prodV_lt DA.out DB.out hia hkb) hc
              have co2 := uA_cell HB1.out hj1
              have fo2 := HB1.out.frozen (j + 1)
              have z2 := HL.out (j + 1) (by omega)
              have z3 : f j / 65536 < 131072 := by have := HC.out; omega
              have hT201 : T ≤ 201 := by have := HT.out; omega
              have hd : decide ((65536 : Int) ≤ (f j : Int)) = true := by rw [decide_eq_true_iff]; omega
              have HCC := kept hc
              clear hc hge
              go_wp2
              clear hd
              go_region
              generalize hW5 : World.drew (World.setCell W4 _ _) = W5
              obtain ⟨f5, hf5⟩ : ∃ f5, (fun m => if m = j + 1 then f (j + 1) + f j / 65536 else f m) = f5 := ⟨_, rfl⟩
              have hB5 : Blk W5 w.heap.size 30 (uA T f5) := by
                rw [← hW5]
                refine Blk.drew_ (Blk.putG HB1.out _ _ fun m _ => ?_)
                rw [← hf5]
                by_cases e : m = j + 1
                · simp only [e, if_true]; congr 1
                · simp only [e, if_false]
              have h5j : f5 j = f j := by
                rw [← hf5]
                show (if j = j + 1 then _ else f j) = f j
                rw [if_neg (by omega)]
              have hw5 : Below w.heap.size w W5 := by rw [← hW5]; exact (HW1.out.setCell (p := ⟨w.heap.size, j + 1, none⟩) (Nat.le_refl _) _).drew
              have hv6 : vF (fun m => if m = j then f j % 65536 else f5 m) T = prodV a b i (k + 1) := by
                rw [← HV.out, ← carry_step f T j hj1, ← hf5]
              have hl6 : ∀ m, m ≠ j + 1 → (fun m => if m = j then f j % 65536 else f5 m) m < 65536 := fun m hm => by
                rw [← hf5]
                show (if m = j then f j % 65536 else if m = j + 1 then _ else f m) < 65536
                by_cases e : m = j
                · rw [if_pos e]; omega
                · rw [if_neg e, if_neg hm]; exact HL.out m e
              have hc6 : (fun m => if m = j then f j % 65536 else f5 m) (j + 1) < 8589934592 := by
                rw [← hf5]
                show (if j + 1 = j then f j % 65536 else if j + 1 = j + 1 then f (j + 1) + f j / 65536 else f (j + 1)) < _
                rw [if_neg (by omega), if_pos rfl]
                omega
              have co5 := uA_cell hB5 hj
              have fo5 := hB5.frozen j
              rw [h5j] at co5
              have HB5 := kept hB5
              have HV6 := kept hv6
              have HL6 := kept hl6
              have HC6 := kept hc6
              have HW5 := kept hw5
              clear hW5 hf5 hB5 hv6 hl6 hc6 hw5 co1 co2 fo2 z2 z3 h5j
              go_wp2
              go_roundw
              case rel =>
                refine ⟨j + 1, fun m => if m = j then f j % 65536 else f5 m, by first | go_num | (congr 1; omega), hj1, HV6, HL6, HC6, kept (Blk.putG HB5.out _ _ fun m _ => ?_), kept (HW5.out.setCell (p := ⟨w.heap.size, j, none⟩) (Nat.le_refl _) _)⟩
                by_cases e : m = j
                · simp only [e, if_true]; congr 1
                · simp only [e, if_false]
              case measure => simp [intOf]; omega
            · have hd : decide ((65536 : Int) ≤ (f j : Int)) = false := by rw [decide_eq_false_iff_not]; omega
              have HCC := kept hc
              clear hc hge
              go_wp2
              go_roundw
              case rel => exact ⟨k + 1, f, by first | go_num | (congr 1; omega), by omega, HV, kept (fun m => (Decidable.em (m = j)).elim (fun e => by subst e; have := HCC.out; omega) (fun e => HL.out m e)), HB1, HW1⟩
              case measure => simp [intOf]; omega
        · obtain rfl : k = b.length := by omega
          go_wp2
          go_roundw
          case rel => exact ⟨i + 1, f, by first | go_num | (congr 1; omega), by omega, kept (by rw [← prodV_full]; exact HV.out), HF, HB1, HW1⟩
          case measure => simp [intOf]; omega
    · obtain rfl : i = a.length := by omega
      have hv : val ((List.range T).map f) = val a * val b := by
        have := HV.out
        rw [prodV_zero] at this
        rw [← val_fn]
        exact this
      go_wp2
      go_ret
      exact ⟨(List.range T).map f, _, rfl, ownU_of_blk HB1.out (by have := HT.out; omega), HW1.out, hv, digs_fn HF.out, by rw [HT.out]; simp⟩
end Go.Proofs.YtgjnmoonceeenaaDoor
