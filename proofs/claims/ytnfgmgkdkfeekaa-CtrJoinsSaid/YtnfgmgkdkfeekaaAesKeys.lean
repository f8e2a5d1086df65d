/-
  The reference's Keys of package aes, by a contract.
-/
import Derived.Test.YtnfgmgkdkfeekaaAesRef
namespace Go.Proofs.Ytnfgmgkdkfeekaa
open Go.RowKit
set_option linter.unusedVariables false
set_option linter.unusedSimpArgs false

/-- The powers of 2 in the field. -/
def kp : Nat → UInt8
  | 0 => 1
  | n + 1 => xt (kp n)
/-- A byte of the next column. -/
def kNew (box key s : Nat → UInt8) (n r : Nat) : UInt8 :=
  if n < 4 then key (4 * n + r) else gxr (s (4 * (n - 4) + r)) (if n % 4 = 0 then (if r = 0 then gxr (box (s (4 * (n - 1) + 1)).toNat) (kp ((n - 1) / 4)) else box (s (4 * (n - 1) + (r + 1) % 4)).toNat) else s (4 * (n - 1) + r))
/-- The cells behind n columns, and r bytes of the next one. -/
def kPart (box key s : Nat → UInt8) (n r : Nat) : Nat → UInt8 := fun j => if j / 4 = n ∧ j % 4 < r then kNew box key s n (j % 4) else s j
def kW (box key : Nat → UInt8) : Nat → Nat → UInt8
  | 0 => fun _ => 0
  | n + 1 => kPart box key (kW box key n) n 4
theorem kPart_zero (box key s : Nat → UInt8) (n : Nat) : bA 176 (kPart box key s n 0) = bA 176 s := bA_ext fun j _ => if_neg (by omega)
theorem kPart_set (box key s : Nat → UInt8) (n r : Nat) (hr : r < 4) (j : Nat) : kPart box key s n (r + 1) j = if j = 4 * n + r then kNew box key s n r else kPart box key s n r j := by
  unfold kPart
  by_cases e : j = 4 * n + r
  · subst e
    rw [if_pos rfl, if_pos (by omega), show (4 * n + r) % 4 = r by omega]
  · rw [if_neg e]
    by_cases h : j / 4 = n ∧ j % 4 < r
    · rw [if_pos h, if_pos (by omega)]
    · rw [if_neg h, if_neg (by omega)]
theorem kPart_old (box key s : Nat → UInt8) (n r j : Nat) (h : j < 4 * n) : kPart box key s n r j = s j := if_neg (by omega)
structure KEnv (w : World) (key box : Nat → UInt8) (W : World) : Prop where
  bk : Blk W w.heap.size 22 (bA 16 key)
  bx : Blk W (w.heap.size + 1) 42 (bA 256 box)
  br : Blk W (w.heap.size + 1 + 1) 56 (bA 176 fun _ => 0)
  bw : Below w.heap.size w W
theorem KEnv.set {w W : World} {key box : Nat → UInt8} (h : KEnv w key box W) {g : Nat} (hg : w.heap.size + 3 ≤ g) (i : Nat) (u : Value) : KEnv w key box (W.setCell ⟨g, i, none⟩ u) :=
  ⟨h.bk.far (by show w.heap.size ≠ g; omega) u, h.bx.far (by show w.heap.size + 1 ≠ g; omega) u, h.br.far (by show w.heap.size + 1 + 1 ≠ g; omega) u, h.bw.setCell (by show w.heap.size ≤ g; omega) u⟩
theorem KEnv.alloc {w W : World} {key box : Nat → UInt8} (h : KEnv w key box W) (o : Obj) : KEnv w key box (W.alloc o) := ⟨h.bk.alloc o, h.bx.alloc o, h.br.alloc o, h.bw.alloc h.bw.size o⟩
theorem Blk.row_far {W : World} {g k : Nat} {t : TypeId} {cs ds : Array Value} (h : Blk W k t cs) (hk : k ≠ g) : Blk (W.setRow g ds) k t cs := (setRow_other W g k ds hk).trans h
theorem KEnv.row {w W : World} {key box : Nat → UInt8} (h : KEnv w key box W) {g : Nat} (hg : w.heap.size + 3 ≤ g) (ds : Array Value) : KEnv w key box (W.setRow g ds) :=
  ⟨h.bk.row_far (by omega), h.bx.row_far (by omega), h.br.row_far (by omega), below_setRow h.bw (by omega) _⟩
theorem b176_size : (Try.prog.info? 56).map (·.size) = some 176 := by kernel_rfl
theorem b4_size : (Try.prog.info? 70).map (·.size) = some 4 := by kernel_rfl
/-- Four bytes. -/
def q4 (a b c d : UInt8) : Nat → UInt8
  | 0 => a
  | 1 => b
  | 2 => c
  | _ => d
theorem q4_eq (a b c d : UInt8) : #[Value.int .u8 (a.toNat : Int), .int .u8 (b.toNat : Int), .int .u8 (c.toNat : Int), .int .u8 (d.toNat : Int)] = bA 4 (q4 a b c d) := rfl
theorem KEnv.drew {w W : World} {key box : Nat → UInt8} (h : KEnv w key box W) : KEnv w key box W.drew := ⟨h.bk.drew_, h.bx.drew_, h.br.drew_, h.bw.drew⟩
theorem zero11 (w : World) : (zeroValue 56).run Try.prog w = .ok (.agg (bA 176 fun _ => 0)) w := by kernel_rfl
theorem zero44 (w : World) : (zeroValue 71).run Try.prog w = .ok (.agg (bA 176 fun _ => 0)) w := by kernel_rfl
theorem kenv_start (w : World) (key box : Nat → UInt8) :
    KEnv w key box ((((w.alloc (.cells (bA 16 key) 22)).alloc (.cells (bA 256 box) 42)).alloc (.cells (bA 176 fun _ => 0) 56)).alloc (.cells (bA 176 fun _ => 0) 71)) ∧
    Blk ((((w.alloc (.cells (bA 16 key) 22)).alloc (.cells (bA 256 box) 42)).alloc (.cells (bA 176 fun _ => 0) 56)).alloc (.cells (bA 176 fun _ => 0) 71)) (w.heap.size + 1 + 1 + 1) 71 (bA 176 fun _ => 0) := by
  have n0 := Blk.new w 22 (bA 16 key)
  have n1 := Blk.new (w.alloc (.cells (bA 16 key) 22)) 42 (bA 256 box)
  have n2 := Blk.new ((w.alloc (.cells (bA 16 key) 22)).alloc (.cells (bA 256 box) 42)) 56 (bA 176 fun _ => 0)
  have n3 := Blk.new (((w.alloc (.cells (bA 16 key) 22)).alloc (.cells (bA 256 box) 42)).alloc (.cells (bA 176 fun _ => 0) 56)) 71 (bA 176 fun _ => 0)
  simp only [World.size_alloc] at n1 n2 n3
  exact ⟨⟨((n0.alloc _).alloc _).alloc _, (n1.alloc _).alloc _, n2.alloc _, ((((Below.refl _ _).alloc (Nat.le_refl _) _).alloc (by simp) _).alloc (by simp; omega) _).alloc (by simp; omega) _⟩, n3⟩
set_option maxHeartbeats 2000000 in
set_option maxRecDepth 100000 in
theorem rkeys_any (w : World) (key box : Nat → UInt8) : Calls Try.prog 31 #[.agg (bA 16 key), .agg (bA 256 box)] w fun e w' => e = .returned (.agg (bA 176 (kW box key 44))) ∧ Below w.heap.size w w' := by
  have hz1 := zero11
  have hz2 := zero44
  go_enter Try.func31, Try.ntmps31
  go_wp2_with fail
  go_name_world W0 hW0
  have hE := kenv_start w key box
  rw [hW0] at hE
  clear hW0
  have HE0 := kept hE.1
  have HC0 := kept (show Blk W0 (w.heap.size + 1 + 1 + 1) 71 (bA 176 (kW box key 0)) from hE.2)
  clear hE
  go_loopw [6, 7] (fun p i wr => ∃ n : Nat, n ≤ 44 ∧ i = .int .i64 n ∧ p = .int .u8 ((kp ((n - 1) / 4)).toNat : Int) ∧ Kept (KEnv w key box wr) ∧ Kept (Blk wr (w.heap.size + 1 + 1 + 1) 71 (bA 176 (kW box key n)))) (fun _ i _ => 44 - (intOf i).toNat)
  case atStart => exact ⟨0, Nat.zero_le _, rfl, rfl, HE0, HC0⟩
  case round =>
    obtain ⟨n, hn, rfl, rfl, HE1, HC1⟩ := hrel
    rename World => W1
    clear HE0 HC0
    by_cases hlt : n < 44
    · have hn44 : (n : Int) < 44 := by omega
      by_cases h4 : n < 4
      · have hn4 : (n : Int) < 4 := by omega
        have HC2 := kept (show Blk W1 (w.heap.size + 1 + 1 + 1) 71 (bA 176 (kPart box key (kW box key n) n 0)) by rw [kPart_zero]; exact HC1.out)
        clear HC1
        go_wp2_with fail
        go_loopw [8] (fun r wr => ∃ m : Nat, m ≤ 4 ∧ r = .int .i64 m ∧ Kept (KEnv w key box wr) ∧ Kept (Blk wr (w.heap.size + 1 + 1 + 1) 71 (bA 176 (kPart box key (kW box key n) n m)))) (fun r _ => 4 - (intOf r).toNat)
        case atStart => exact ⟨0, Nat.zero_le _, rfl, HE1, HC2⟩
        case round =>
          obtain ⟨r, hr, rfl, HE2, HC3⟩ := hrel
          rename World => W2
          clear HE1 HC2
          by_cases hl : r < 4
          · have hs := kPart_set box key (kW box key n) n r hl
            have hk : kNew box key (kW box key n) n r = key (4 * n + r) := if_pos h4
            rw [hk] at hs
            have HS := kept hs
            clear hs hk
            have c1 : W2.cell? ⟨w.heap.size, 4 * n + r, none⟩ = some (.int .u8 ((key (4 * n + r)).toNat : Int)) := by rw [HE2.out.bk.cell]; exact bA_at _ _ (by omega)
            obtain ⟨o, ho⟩ : ∃ o, kPart box key (kW box key n) n r (4 * n + r) = o := ⟨_, rfl⟩
            have c2 : W2.cell? ⟨w.heap.size + 1 + 1 + 1, n * 4 + r, none⟩ = some (.int .u8 (o.toNat : Int)) := by rw [HC3.out.cell, show n * 4 + r = 4 * n + r by omega, ← ho]; exact bA_at _ _ (by omega)
            have f2 := HC3.out.frozen (n * 4 + r)
            clear ho
            generalize key (4 * n + r) = k0 at c1 HS
            have hr4 : (r : Int) < 4 := by omega
            go_wp2
            go_region
            all_goals go_wp2
            go_roundw
            case rel => exact ⟨r + 1, by omega, by go_num, kept (HE2.out.set (by omega) _ _).drew, kept (HC3.out.putB (n * 4 + r) k0 fun j _ => by rw [show n * 4 + r = 4 * n + r by omega]; exact HS.out j).drew_⟩
            case measure => simp [intOf]; omega
          · obtain rfl : r = 4 := by omega
            go_wp2
            go_roundw
            case rel => exact ⟨n + 1, by omega, by go_num, by rw [show (n - 1) / 4 = 0 by omega, show (n + 1 - 1) / 4 = 0 by omega], HE2, HC3⟩
            case measure => simp [intOf]; omega
      · have hn4 : ¬ (n : Int) < 4 := by omega
        obtain ⟨m, hm⟩ : ∃ m, n = m + 4 := ⟨n - 4, by omega⟩
        subst hm
        have cell : ∀ i, i < 176 → W1.cell? ⟨w.heap.size + 1 + 1 + 1, i, none⟩ = some (.int .u8 ((kW box key (m + 4) i).toNat : Int)) := fun i hi => by rw [HC1.out.cell]; exact bA_at _ _ hi
        have d0 := cell ((m + 3) * 4) (by omega)
        have d1 := cell ((m + 3) * 4 + 1) (by omega)
        have d2 := cell ((m + 3) * 4 + 2) (by omega)
        have d3 := cell ((m + 3) * 4 + 3) (by omega)
        clear cell
        obtain ⟨t0, e0⟩ : ∃ t, kW box key (m + 4) ((m + 3) * 4) = t := ⟨_, rfl⟩
        obtain ⟨t1, e1⟩ : ∃ t, kW box key (m + 4) ((m + 3) * 4 + 1) = t := ⟨_, rfl⟩
        obtain ⟨t2, e2⟩ : ∃ t, kW box key (m + 4) ((m + 3) * 4 + 2) = t := ⟨_, rfl⟩
        obtain ⟨t3, e3⟩ : ∃ t, kW box key (m + 4) ((m + 3) * 4 + 3) = t := ⟨_, rfl⟩
        rw [e0] at d0
        rw [e1] at d1
        rw [e2] at d2
        rw [e3] at d3
        have E0 := kept e0
        have E1 := kept e1
        have E2 := kept e2
        have E3 := kept e3
        clear e0 e1 e2 e3
        have hp : (↑(m + 4) : Int) - 1 = ((m + 3 : Nat) : Int) := by omega
        have hm44 : (m : Int) + 4 < 44 := by omega
        have hm4 : ¬ (m : Int) + 4 < 4 := by omega
        clear hn4 hn44
        by_cases h0 : m % 4 = 0
        · have hq : ((m : Int) % 4 == 0) = true := by
            rw [beq_iff_eq]
            omega
          go_wp2
          go_name_world W2 hW2
          have HE2 := kept (show KEnv w key box W2 by rw [← hW2]; exact HE1.out.alloc _)
          have HC2 := kept (show Blk W2 (w.heap.size + 1 + 1 + 1) 71 (bA 176 (kW box key (m + 4))) by rw [← hW2]; exact HC1.out.alloc _)
          have HT2 := kept (show Blk W2 W1.heap.size 70 (bA 4 (q4 t0 t1 t2 t3)) by rw [← hW2]; exact Blk.new W1 _ _)
          have hg5 : w.heap.size + 3 < W1.heap.size := HC1.out.lt
          clear hW2 d0 d1 d2 d3
          generalize W1.heap.size = g5 at hg5 HT2
          have bx : ∀ t : UInt8, W2.cell? ⟨w.heap.size + 1, t.toNat, none⟩ = some (.int .u8 ((box t.toNat).toNat : Int)) := fun t => by rw [HE2.out.bx.cell]; exact bA_at _ _ (byte_lt t)
          have b0 := bx t0
          have b1 := bx t1
          have b2 := bx t2
          have b3 := bx t3
          have d0 : W2.cell? ⟨g5, 0, none⟩ = some (.int .u8 (t0.toNat : Int)) := by rw [HT2.out.cell]; rfl
          have d1 : W2.cell? ⟨g5, 1, none⟩ = some (.int .u8 (t1.toNat : Int)) := by rw [HT2.out.cell]; rfl
          have d2 : W2.cell? ⟨g5, 2, none⟩ = some (.int .u8 (t2.toNat : Int)) := by rw [HT2.out.cell]; rfl
          have d3 : W2.cell? ⟨g5, 3, none⟩ = some (.int .u8 (t3.toNat : Int)) := by rw [HT2.out.cell]; rfl
          have l0 : (t0.toNat : Int) < 256 := by have := byte_lt t0; omega
          have l1 : (t1.toNat : Int) < 256 := by have := byte_lt t1; omega
          have l2 : (t2.toNat : Int) < 256 := by have := byte_lt t2; omega
          have l3 : (t3.toNat : Int) < 256 := by have := byte_lt t3; omega
          clear bx
          have hx1 := gx8 (box t1.toNat) (kp ((m + 3) / 4))
          refine wp_region_still_tail 19 (by kernel_rfl) (by kernel_rfl) ?_
          simp only [List.take_succ_cons, List.take_zero, List.drop_succ_cons, List.drop_zero]
          iterate 19 still_step
          refine wpStill_nil ?_
          change wpList _ _ _ _ _ W2.drew
          have HT2' := kept (show Blk W2.drew g5 70 (bA 4 (q4 t0 t1 t2 t3)) from HT2.out.drew_)
          go_wp2_with (refine wpList_store_row rfl 70 _ _ rfl g5 (bA 4 (q4 (gxr (box t1.toNat) (kp ((m + 3) / 4))) (box t2.toNat) (box t3.toNat) (box t0.toNat))) rfl rfl 70 (bA 4 (q4 t0 t1 t2 t3)) HT2'.out (by rw [b4_size, bA_size]) (by rw [bA_size, bA_size]) (bA_one _ _) ?_)
          generalize hW3 : W2.drew.setRow g5 (bA 4 (q4 (gxr (box t1.toNat) (kp ((m + 3) / 4))) (box t2.toNat) (box t3.toNat) (box t0.toNat))) = W3
          have HE3 := kept (show KEnv w key box W3 by rw [← hW3]; exact HE2.out.drew.row (by omega) _)
          have HC3 := kept (show Blk W3 (w.heap.size + 1 + 1 + 1) 71 (bA 176 (kW box key (m + 4))) by rw [← hW3]; exact HC2.out.drew_.row_far (by omega))
          have HT3 := kept (show Blk W3 g5 70 (bA 4 (q4 (gxr (box t1.toNat) (kp ((m + 3) / 4))) (box t2.toNat) (box t3.toNat) (box t0.toNat))) by rw [← hW3]; exact setRow_heap _ _ _ _ _ _ HT2'.out)
          have HTT := kept (show ∀ r, r < 4 → kNew box key (kW box key (m + 4)) (m + 4) r = gxr (kW box key (m + 4) (4 * m + r)) (q4 (gxr (box t1.toNat) (kp ((m + 3) / 4))) (box t2.toNat) (box t3.toNat) (box t0.toNat) r) from fun r hr => by
            unfold kNew
            rw [if_neg (by omega), if_pos (by omega), show m + 4 - 4 = m by omega, show 4 * (m + 4 - 1) = (m + 3) * 4 by omega, show (m + 4 - 1) / 4 = (m + 3) / 4 by omega]
            congr 1
            match r, hr with
            | 0, _ => rw [if_pos rfl, E1.out]; rfl
            | 1, _ => rw [if_neg (by omega), E2.out]; rfl
            | 2, _ => rw [if_neg (by omega), E3.out]; rfl
            | 3, _ => rw [if_neg (by omega)]; exact congrArg (fun z : UInt8 => box z.toNat) E0.out)
          have HP := kept (show xt (kp ((m + 3) / 4)) = kp ((m + 4) / 4) by rw [show (m + 4) / 4 = (m + 3) / 4 + 1 by omega]; rfl)
          clear hW3 HE2 HC2 HT2 HT2' d0 d1 d2 d3 b0 b1 b2 b3 l0 l1 l2 l3 E0 E1 E2 E3
          generalize q4 (gxr (box t1.toNat) (kp ((m + 3) / 4))) (box t2.toNat) (box t3.toNat) (box t0.toNat) = T at HT3 HTT
          refine (rtwice_any W3 _).mono ?_
          rintro e w' ⟨rfl, rfl⟩
          rw [HP.out]
          go_wp2_with fail
          go_loopw [10] (fun r wr => ∃ x : Nat, x ≤ 4 ∧ r = .int .i64 x ∧ Kept (KEnv w key box wr) ∧ Kept (Blk wr (w.heap.size + 1 + 1 + 1) 71 (bA 176 (kPart box key (kW box key (m + 4)) (m + 4) x))) ∧ Kept (Blk wr g5 70 (bA 4 T))) (fun r _ => 4 - (intOf r).toNat)
          case atStart => exact ⟨0, Nat.zero_le _, rfl, HE3, kept (by rw [kPart_zero]; exact HC3.out), HT3⟩
          case round =>
            obtain ⟨r, hr, rfl, HE4, HC4, HT4⟩ := hrel
            rename World => W5
            clear HE3 HC3 HT3
            by_cases hl : r < 4
            · have hs := kPart_set box key (kW box key (m + 4)) (m + 4) r hl
              rw [HTT.out r hl] at hs
              have HS := kept hs
              clear hs
              have c1 : W5.cell? ⟨w.heap.size + 1 + 1 + 1, m * 4 + r, none⟩ = some (.int .u8 ((kW box key (m + 4) (4 * m + r)).toNat : Int)) := by rw [HC4.out.cell, show m * 4 + r = 4 * m + r by omega, bA_at _ _ (by omega), kPart_old _ _ _ _ _ _ (by omega)]
              have c2 : W5.cell? ⟨g5, r, none⟩ = some (.int .u8 ((T r).toNat : Int)) := by rw [HT4.out.cell]; exact bA_at _ _ hl
              obtain ⟨o, ho⟩ : ∃ o, kPart box key (kW box key (m + 4)) (m + 4) r (4 * (m + 4) + r) = o := ⟨_, rfl⟩
              have c3 : W5.cell? ⟨w.heap.size + 1 + 1 + 1, (m + 4) * 4 + r, none⟩ = some (.int .u8 (o.toNat : Int)) := by rw [HC4.out.cell, show (m + 4) * 4 + r = 4 * (m + 4) + r by omega, ← ho]; exact bA_at _ _ (by omega)
              have f3 := HC4.out.frozen ((m + 4) * 4 + r)
              clear ho
              have hx := gx8 (kW box key (m + 4) (4 * m + r)) (T r)
              generalize gxr (kW box key (m + 4) (4 * m + r)) (T r) = Z at hx HS
              generalize kW box key (m + 4) (4 * m + r) = a1 at hx c1
              generalize T r = a2 at hx c2
              have hr4 : (r : Int) < 4 := by omega
              go_wp2
              go_region
              all_goals go_wp2
              go_roundw
              case rel => exact ⟨r + 1, by omega, by go_num, kept (HE4.out.set (by omega) _ _).drew, kept (HC4.out.putB ((m + 4) * 4 + r) Z fun j _ => by rw [show (m + 4) * 4 + r = 4 * (m + 4) + r by omega]; exact HS.out j).drew_, kept (HT4.out.far (by show g5 ≠ w.heap.size + 1 + 1 + 1; omega) _).drew_⟩
              case measure => simp [intOf]; omega
            · obtain rfl : r = 4 := by omega
              go_wp2
              go_roundw
              case rel => exact ⟨m + 5, by omega, by go_num, by first | (rw [show (m + 5 - 1) / 4 = (m + 4) / 4 by omega]; done) | rw [show (m + 5 - 1) / 4 = m / 4 + 1 by omega], HE4, HC4⟩
              case measure => simp [intOf]; omega
        · have hq : ((m : Int) % 4 == 0) = false := by
            rw [beq_eq_false_iff_ne]
            omega
          go_wp2
          go_name_world W3 hW3
          have HE3 := kept (show KEnv w key box W3 by rw [← hW3]; exact HE1.out.alloc _)
          have HC3 := kept (show Blk W3 (w.heap.size + 1 + 1 + 1) 71 (bA 176 (kW box key (m + 4))) by rw [← hW3]; exact HC1.out.alloc _)
          have HT3 := kept (show Blk W3 W1.heap.size 70 (bA 4 (q4 t0 t1 t2 t3)) by rw [← hW3]; exact Blk.new W1 _ _)
          have hg5 : w.heap.size + 3 < W1.heap.size := HC1.out.lt
          clear hW3 d0 d1 d2 d3
          generalize W1.heap.size = g5 at hg5 HT3
          have HTT := kept (show ∀ r, r < 4 → kNew box key (kW box key (m + 4)) (m + 4) r = gxr (kW box key (m + 4) (4 * m + r)) (q4 t0 t1 t2 t3 r) from fun r hr => by
            unfold kNew
            rw [if_neg (by omega), if_neg (by omega), show m + 4 - 4 = m by omega, show 4 * (m + 4 - 1) = (m + 3) * 4 by omega]
            congr 1
            match r, hr with
            | 0, _ => exact E0.out
            | 1, _ => exact E1.out
            | 2, _ => exact E2.out
            | 3, _ => exact E3.out)
          clear E0 E1 E2 E3
          generalize q4 t0 t1 t2 t3 = T at HT3 HTT
          rw [show (m + 3) / 4 = (m + 4) / 4 by omega]
          go_loopw [10] (fun r wr => ∃ x : Nat, x ≤ 4 ∧ r = .int .i64 x ∧ Kept (KEnv w key box wr) ∧ Kept (Blk wr (w.heap.size + 1 + 1 + 1) 71 (bA 176 (kPart box key (kW box key (m + 4)) (m + 4) x))) ∧ Kept (Blk wr g5 70 (bA 4 T))) (fun r _ => 4 - (intOf r).toNat)
          case atStart => exact ⟨0, Nat.zero_le _, rfl, HE3, kept (by rw [kPart_zero]; exact HC3.out), HT3⟩
          case round =>
            obtain ⟨r, hr, rfl, HE4, HC4, HT4⟩ := hrel
            rename World => W5
            clear HE3 HC3 HT3
            by_cases hl : r < 4
            · have hs := kPart_set box key (kW box key (m + 4)) (m + 4) r hl
              rw [HTT.out r hl] at hs
              have HS := kept hs
              clear hs
              have c1 : W5.cell? ⟨w.heap.size + 1 + 1 + 1, m * 4 + r, none⟩ = some (.int .u8 ((kW box key (m + 4) (4 * m + r)).toNat : Int)) := by rw [HC4.out.cell, show m * 4 + r = 4 * m + r by omega, bA_at _ _ (by omega), kPart_old _ _ _ _ _ _ (by omega)]
              have c2 : W5.cell? ⟨g5, r, none⟩ = some (.int .u8 ((T r).toNat : Int)) := by rw [HT4.out.cell]; exact bA_at _ _ hl
              obtain ⟨o, ho⟩ : ∃ o, kPart box key (kW box key (m + 4)) (m + 4) r (4 * (m + 4) + r) = o := ⟨_, rfl⟩
              have c3 : W5.cell? ⟨w.heap.size + 1 + 1 + 1, (m + 4) * 4 + r, none⟩ = some (.int .u8 (o.toNat : Int)) := by rw [HC4.out.cell, show (m + 4) * 4 + r = 4 * (m + 4) + r by omega, ← ho]; exact bA_at _ _ (by omega)
              have f3 := HC4.out.frozen ((m + 4) * 4 + r)
              clear ho
              have hx := gx8 (kW box key (m + 4) (4 * m + r)) (T r)
              generalize gxr (kW box key (m + 4) (4 * m + r)) (T r) = Z at hx HS
              generalize kW box key (m + 4) (4 * m + r) = a1 at hx c1
              generalize T r = a2 at hx c2
              have hr4 : (r : Int) < 4 := by omega
              go_wp2
              go_region
              all_goals go_wp2
              go_roundw
              case rel => exact ⟨r + 1, by omega, by go_num, kept (HE4.out.set (by omega) _ _).drew, kept (HC4.out.putB ((m + 4) * 4 + r) Z fun j _ => by rw [show (m + 4) * 4 + r = 4 * (m + 4) + r by omega]; exact HS.out j).drew_, kept (HT4.out.far (by show g5 ≠ w.heap.size + 1 + 1 + 1; omega) _).drew_⟩
              case measure => simp [intOf]; omega
            · obtain rfl : r = 4 := by omega
              go_wp2
              go_roundw
              case rel => exact ⟨m + 5, by omega, by go_num, by first | (rw [show (m + 5 - 1) / 4 = (m + 4) / 4 by omega]; done) | rw [show (m + 5 - 1) / 4 = m / 4 + 1 by omega], HE4, HC4⟩
              case measure => simp [intOf]; omega
    · obtain rfl : n = 44 := by omega
      have hg5 : w.heap.size + 3 < W1.heap.size := HC1.out.lt
      generalize kp ((44 - 1) / 4) = pz
      obtain ⟨R, hR⟩ : ∃ R, kW box key 44 = R := ⟨_, rfl⟩
      rw [hR] at HC1
      have HR := kept hR
      clear hR
      go_wp2
      go_name_world W2 hW2
      have HE2 := kept (show KEnv w key box W2 by rw [← hW2]; exact HE1.out.alloc _)
      have HC2 := kept (show Blk W2 (w.heap.size + 1 + 1 + 1) 71 (bA 176 R) by rw [← hW2]; exact HC1.out.alloc _)
      have HO2 := kept (show Blk W2 W1.heap.size 56 (bA 176 (fillF R 0)) by rw [← hW2]; exact Blk.new W1 _ _)
      clear hW2
      clear HE1 HC1
      generalize W1.heap.size = g5 at hg5 HO2
      go_loopw [12] (fun i wr => ∃ x : Nat, x ≤ 176 ∧ i = .int .i64 x ∧ Kept (KEnv w key box wr) ∧ Kept (Blk wr (w.heap.size + 1 + 1 + 1) 71 (bA 176 R)) ∧ Kept (Blk wr g5 56 (bA 176 (fillF R x)))) (fun i _ => 176 - (intOf i).toNat)
      case atStart => exact ⟨0, Nat.zero_le _, rfl, HE2, HC2, HO2⟩
      case round =>
        obtain ⟨x, hx, rfl, HE3, HC3, HO3⟩ := hrel
        rename World => W3
        clear HE2 HC2 HO2
        by_cases hl : x < 176
        · have hl176 : (x : Int) < 176 := by omega
          have c1 : W3.cell? ⟨w.heap.size + 1 + 1 + 1, x / 4 * 4 + x % 4, none⟩ = some (.int .u8 ((R x).toNat : Int)) := by rw [HC3.out.cell, show x / 4 * 4 + x % 4 = x by omega]; exact bA_at _ _ hl
          have c2 : W3.cell? ⟨g5, x / 16 * 16 + x % 16, none⟩ = some (.int .u8 0) := by
            rw [HO3.out.cell, show x / 16 * 16 + x % 16 = x by omega, bA_at _ _ hl, fillF_at]
            rfl
          have f2 := HO3.out.frozen (x / 16 * 16 + x % 16)
          have HS := kept (fillF_set R x (x + 1) rfl)
          generalize R x = a at c1 HS
          go_wp2
          go_region
          all_goals go_wp2
          go_roundw
          case rel => exact ⟨x + 1, by omega, by go_num, kept (HE3.out.set (by omega) _ _).drew, kept (HC3.out.far (by show w.heap.size + 1 + 1 + 1 ≠ g5; omega) _).drew_, kept (HO3.out.putB (x / 16 * 16 + x % 16) a fun j _ => by rw [show x / 16 * 16 + x % 16 = x by omega]; exact HS.out j).drew_⟩
          case measure => simp [intOf]; omega
        · obtain rfl : x = 176 := by omega
          have HO6 := kept (show Blk W3 g5 56 (bA 176 R) by
            rw [← fillF_all]
            exact HO3.out)
          clear HO3
          go_wp2_with (first | (refine wpList_load_row rfl 56 _ rfl g5 rfl 56 (bA 176 R) (0,0) _ HO6.out Try.underlying56 rfl (by rw [b176_size, bA_size]) ?_) | (refine wpList_store_row rfl 56 _ _ rfl (w.heap.size + 1 + 1) (bA 176 R) rfl rfl 56 (bA 176 (fun _ => 0)) HE3.out.br (by rw [b176_size, bA_size]) (by rw [bA_size, bA_size]) (bA_one _ _) ?_))
          exact bodyPost_ret (v := .agg (bA 176 R)) (results_cell_row Try.results31 _ _ (w.heap.size + 1 + 1) 56 (bA 176 R) (0, 0) _ rfl (setRow_heap _ _ _ _ _ _ HE3.out.br) Try.underlying56 rfl (by rw [b176_size, bA_size])) rfl ⟨by rw [HR.out], below_setRow HE3.out.bw (by omega) _⟩
end Go.Proofs.Ytnfgmgkdkfeekaa
