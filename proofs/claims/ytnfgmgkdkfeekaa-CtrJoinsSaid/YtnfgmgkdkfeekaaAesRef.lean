/-
  The reference's twice and Round of package aes, by contracts.
-/
import Derived.Test.YtnfgmgkdkfeekaaGfBox
import Derived.Test.YtnfgmgkdkfeekaaFldM
namespace Go.Proofs.Ytnfgmgkdkfeekaa
open Go.RowKit
set_option linter.unusedVariables false
set_option linter.unusedSimpArgs false

theorem xt_num (a : UInt8) : (xt a).toNat = if 255 < 2 * a.toNat then (2 * a.toNat ^^^ 283) % 256 else 2 * a.toNat := of_all (P := fun a => (xt a).toNat = if 255 < 2 * a.toNat then (2 * a.toNat ^^^ 283) % 256 else 2 * a.toNat) (by decide +kernel) a
set_option maxHeartbeats 1000000 in
theorem rtwice_any (w : World) (a : UInt8) : Calls Try.prog 41 #[.int .u8 (a.toNat : Int)] w fun e w' => e = .returned (.int .u8 ((xt a).toNat : Int)) ∧ w = w' := by
  have ha := byte_lt a
  have HX := kept (xt_num a)
  generalize xt a = r at HX
  generalize a.toNat = n at ha HX
  go_enter Try.func41, Try.ntmps41
  by_cases h : 255 < 2 * n
  · have h1 : (255 : Int) < 2 * (n : Int) := by omega
    have hx := x64 (2 * n) 283 (by omega) (by omega)
    have e2 : ((2 * n : Nat) : Int) = 2 * (n : Int) := by omega
    rw [e2] at hx
    have hr : ((2 * n ^^^ 283 : Nat) : Int) % 256 = (r.toNat : Int) := by
      rw [HX.out, if_pos h]
      omega
    go_wp2
    go_ret
    refine ⟨congrArg (fun z => Ending.returned (.int .u8 z)) ?_, rfl⟩
    have hx' : bits .xor .i64 (2 * (n : Int)) 283 = ((2 * n ^^^ 283 : Nat) : Int) := hx
    show bits .xor .i64 (2 * (n : Int)) 283 % 256 = _
    rw [hx', hr]
  · have h1 : ¬ (255 : Int) < 2 * (n : Int) := by omega
    have hr : 2 * (n : Int) = (r.toNat : Int) := by
      rw [HX.out, if_neg h]
      omega
    go_wp2
    go_ret
    exact ⟨rfl, rfl⟩
theorem rtwice_still (w : World) (a : UInt8) : Calls Try.prog 41 #[.int .u8 (a.toNat : Int)] w fun e w' => e = .returned (.int .u8 ((xt a).toNat : Int)) ∧ w' = w :=
  (rtwice_any w a).mono fun e w' h => ⟨h.1, h.2.symm⟩
/-- What is filled byte by byte. -/
def fillF (f : Nat → UInt8) (n : Nat) : Nat → UInt8 := fun j => if j < n then f j else 0
theorem fillF_set (f : Nat → UInt8) (n m : Nat) (h : m = n + 1) (j : Nat) : fillF f m j = if j = n then f n else fillF f n j := by
  subst h
  unfold fillF
  by_cases e : j = n
  · subst e; rw [if_pos (by omega), if_pos rfl]
  · rw [if_neg e]
    by_cases h : j < n
    · rw [if_pos h, if_pos (by omega)]
    · rw [if_neg h, if_neg (by omega)]
theorem fillF_at (f : Nat → UInt8) (n : Nat) : fillF f n n = 0 := if_neg (by omega)
theorem fillF_all (n : Nat) (f : Nat → UInt8) : bA n (fillF f n) = bA n f := bA_ext fun j h => if_pos h
/-- A round: the bytes moved and replaced. -/
def rndS (box b : Nat → UInt8) : Nat → UInt8 := fun j => box (b (j % 4 + 4 * ((j / 4 + j % 4) % 4))).toNat
/-- The columns mixed. -/
def rndM (s : Nat → UInt8) : Nat → UInt8 := fun j => (((xt (s j) ^^^ xt (s ((j % 4 + 1) % 4 + 4 * (j / 4)))) ^^^ s ((j % 4 + 1) % 4 + 4 * (j / 4))) ^^^ s ((j % 4 + 2) % 4 + 4 * (j / 4))) ^^^ s ((j % 4 + 3) % 4 + 4 * (j / 4))
def rndF (last : Bool) (box b key : Nat → UInt8) : Nat → UInt8 := fun j => (if last then rndS box b j else rndM (rndS box b) j) ^^^ key j
theorem b16_size : (Try.prog.info? 22).map (·.size) = some 16 := by kernel_rfl
structure REnv (w : World) (b key box : Nat → UInt8) (W : World) : Prop where
  bb : Blk W w.heap.size 22 (bA 16 b)
  bk : Blk W (w.heap.size + 1) 22 (bA 16 key)
  bx : Blk W (w.heap.size + 1 + 1) 42 (bA 256 box)
  br : Blk W (w.heap.size + 1 + 1 + 1) 22 (bA 16 fun _ => 0)
  bw : Below w.heap.size w W
theorem REnv.set {w W : World} {b key box : Nat → UInt8} (h : REnv w b key box W) {g : Nat} (hg : w.heap.size + 4 ≤ g) (i : Nat) (u : Value) : REnv w b key box (W.setCell ⟨g, i, none⟩ u) :=
  ⟨h.bb.far (by show w.heap.size ≠ g; omega) u, h.bk.far (by show w.heap.size + 1 ≠ g; omega) u, h.bx.far (by show w.heap.size + 1 + 1 ≠ g; omega) u, h.br.far (by show w.heap.size + 1 + 1 + 1 ≠ g; omega) u, h.bw.setCell (by show w.heap.size ≤ g; omega) u⟩
theorem REnv.alloc {w W : World} {b key box : Nat → UInt8} (h : REnv w b key box W) (o : Obj) : REnv w b key box (W.alloc o) := ⟨h.bb.alloc o, h.bk.alloc o, h.bx.alloc o, h.br.alloc o, h.bw.alloc h.bw.size o⟩
theorem REnv.drew {w W : World} {b key box : Nat → UInt8} (h : REnv w b key box W) : REnv w b key box W.drew := ⟨h.bb.drew_, h.bk.drew_, h.bx.drew_, h.br.drew_, h.bw.drew⟩
theorem renv_start (w : World) (b key box : Nat → UInt8) (z1 z2 : Array Value) (h1 : z1 = bA 16 fun _ => 0) (h2 : z2 = bA 16 fun _ => 0) :
    REnv w b key box (((((w.alloc (.cells (bA 16 b) 22)).alloc (.cells (bA 16 key) 22)).alloc (.cells (bA 256 box) 42)).alloc (.cells z1 22)).alloc (.cells z2 22)) ∧
    Blk (((((w.alloc (.cells (bA 16 b) 22)).alloc (.cells (bA 16 key) 22)).alloc (.cells (bA 256 box) 42)).alloc (.cells z1 22)).alloc (.cells z2 22)) (w.heap.size + 1 + 1 + 1 + 1) 22 (bA 16 fun _ => 0) := by
  subst h1 h2
  have n0 := Blk.new w 22 (bA 16 b)
  have n1 := Blk.new (w.alloc (.cells (bA 16 b) 22)) 22 (bA 16 key)
  have n2 := Blk.new ((w.alloc (.cells (bA 16 b) 22)).alloc (.cells (bA 16 key) 22)) 42 (bA 256 box)
  have n3 := Blk.new (((w.alloc (.cells (bA 16 b) 22)).alloc (.cells (bA 16 key) 22)).alloc (.cells (bA 256 box) 42)) 22 (bA 16 fun _ => 0)
  have n4 := Blk.new ((((w.alloc (.cells (bA 16 b) 22)).alloc (.cells (bA 16 key) 22)).alloc (.cells (bA 256 box) 42)).alloc (.cells (bA 16 fun _ => 0) 22)) 22 (bA 16 fun _ => 0)
  simp only [World.size_alloc] at n1 n2 n3 n4
  exact ⟨⟨(((n0.alloc _).alloc _).alloc _).alloc _, ((n1.alloc _).alloc _).alloc _, (n2.alloc _).alloc _, n3.alloc _, (((((Below.refl _ _).alloc (Nat.le_refl _) _).alloc (by simp) _).alloc (by simp; omega) _).alloc (by simp; omega) _).alloc (by simp; omega) _⟩, n4⟩
set_option maxHeartbeats 1000000 in
set_option maxRecDepth 100000 in
theorem rround_any (w : World) (b key box : Nat → UInt8) (last : Bool) : Calls Try.prog 32 #[.agg (bA 16 b), .agg (bA 16 key), .bool last, .agg (bA 256 box)] w fun e w' => e = .returned (.agg (bA 16 (rndF last box b key))) ∧ Below w.heap.size w w' := by
  go_enter Try.func32, Try.ntmps32
  go_wp2_with fail
  go_name_world W0 hW0
  have hE := renv_start w b key box _ _ (show #[Value.int .u8 0, .int .u8 0, .int .u8 0, .int .u8 0, .int .u8 0, .int .u8 0, .int .u8 0, .int .u8 0, .int .u8 0, .int .u8 0, .int .u8 0, .int .u8 0, .int .u8 0, .int .u8 0, .int .u8 0, .int .u8 0] = bA 16 fun _ => 0 from rfl) (show #[Value.int .u8 0, .int .u8 0, .int .u8 0, .int .u8 0, .int .u8 0, .int .u8 0, .int .u8 0, .int .u8 0, .int .u8 0, .int .u8 0, .int .u8 0, .int .u8 0, .int .u8 0, .int .u8 0, .int .u8 0, .int .u8 0] = bA 16 fun _ => 0 from rfl)
  rw [hW0] at hE
  clear hW0
  have HE0 := kept hE.1
  have HS0 := kept (show Blk W0 (w.heap.size + 1 + 1 + 1 + 1) 22 (bA 16 (fillF (rndS box b) (4 * 0))) from hE.2)
  clear hE
  go_loopw [10] (fun c wr => ∃ n : Nat, n ≤ 4 ∧ c = .int .i64 n ∧ Kept (REnv w b key box wr) ∧ Kept (Blk wr (w.heap.size + 1 + 1 + 1 + 1) 22 (bA 16 (fillF (rndS box b) (4 * n))))) (fun c _ => 4 - (intOf c).toNat)
  case atStart => exact ⟨0, Nat.zero_le _, rfl, HE0, HS0⟩
  case round =>
    obtain ⟨c, hc, rfl, HE1, HS1⟩ := hrel
    rename World => W1
    clear HE0 HS0
    by_cases hlt : c < 4
    · go_wp2_with fail
      go_loopw [11] (fun r wr => ∃ n : Nat, n ≤ 4 ∧ r = .int .i64 n ∧ Kept (REnv w b key box wr) ∧ Kept (Blk wr (w.heap.size + 1 + 1 + 1 + 1) 22 (bA 16 (fillF (rndS box b) (4 * c + n))))) (fun r _ => 4 - (intOf r).toNat)
      case atStart => exact ⟨0, Nat.zero_le _, rfl, HE1, HS1⟩
      case round =>
        obtain ⟨r, hr, rfl, HE2, HS2⟩ := hrel
        rename World => W2
        clear HE1 HS1
        by_cases hl : r < 4
        · have q1 : r + 4 * ((c + r) % 4) < 16 := by omega
          obtain ⟨x, hx⟩ : ∃ x, b (r + 4 * ((c + r) % 4)) = x := ⟨_, rfl⟩
          have c1 : W2.cell? ⟨w.heap.size, r + 4 * ((c + r) % 4), none⟩ = some (.int .u8 (x.toNat : Int)) := by rw [HE2.out.bb.cell, ← hx]; exact bA_at _ _ q1
          have hx2 := byte_lt x
          obtain ⟨y, hy⟩ : ∃ y, box x.toNat = y := ⟨_, rfl⟩
          have c2 : W2.cell? ⟨w.heap.size + 1 + 1, x.toNat, none⟩ = some (.int .u8 (y.toNat : Int)) := by rw [HE2.out.bx.cell, ← hy]; exact bA_at _ _ hx2
          have c3 : W2.cell? ⟨w.heap.size + 1 + 1 + 1 + 1, r + 4 * c, none⟩ = some (.int .u8 0) := by
            rw [HS2.out.cell, show r + 4 * c = 4 * c + r by omega, bA_at _ _ (by omega), fillF_at]
            rfl
          have f3 := HS2.out.frozen (r + 4 * c)
          have HY := kept (show rndS box b (r + 4 * c) = y by
            unfold rndS
            rw [show (r + 4 * c) % 4 = r by omega, show (r + 4 * c) / 4 = c by omega, hx, hy])
          clear hx hy
          go_wp2
          go_roundw
          case rel => exact ⟨r + 1, by omega, by go_num, kept (HE2.out.set (by omega) _ _), kept (HS2.out.putB (r + 4 * c) y fun j _ => by rw [← HY.out, show r + 4 * c = 4 * c + r by omega]; exact fillF_set _ _ _ rfl j)⟩
          case measure => simp [intOf]; omega
        · obtain rfl : r = 4 := by omega
          go_wp2
          go_roundw
          case rel => exact ⟨c + 1, by omega, by go_num, HE2, by rw [show 4 * (c + 1) = 4 * c + 4 by omega]; exact HS2⟩
          case measure => simp [intOf]; omega
    · obtain rfl : c = 4 := by omega
      have HT := kept (show Blk W1 (w.heap.size + 1 + 1 + 1 + 1) 22 (bA 16 (rndS box b)) by
        rw [← fillF_all]
        exact HS1.out)
      clear HS1
      go_wp2_with fail
      go_name_world W2 hW2
      have hg5 : w.heap.size + 4 < W1.heap.size := HT.out.lt
      have HE2 := kept (show REnv w b key box W2 by rw [← hW2]; exact HE1.out.alloc _)
      have HT2 := kept (show Blk W2 (w.heap.size + 1 + 1 + 1 + 1) 22 (bA 16 (rndS box b)) by rw [← hW2]; exact HT.out.alloc _)
      have HO2 := kept (show Blk W2 W1.heap.size 22 (bA 16 fun _ => 0) by rw [← hW2]; exact Blk.new W1 _ _)
      clear HE1 HT hW2
      generalize W1.heap.size = g5 at hg5 HO2
      have HO3 := kept (show Blk W2 g5 22 (bA 16 (fillF (rndF last box b key) (4 * 0))) from HO2.out)
      clear HO2
      go_loopw [13] (fun c wr => ∃ n : Nat, n ≤ 4 ∧ c = .int .i64 n ∧ Kept (REnv w b key box wr) ∧ Kept (Blk wr (w.heap.size + 1 + 1 + 1 + 1) 22 (bA 16 (rndS box b))) ∧ Kept (Blk wr g5 22 (bA 16 (fillF (rndF last box b key) (4 * n))))) (fun c _ => 4 - (intOf c).toNat)
      case atStart => exact ⟨0, Nat.zero_le _, rfl, HE2, HT2, HO3⟩
      case round =>
        obtain ⟨c, hc, rfl, HE4, HT4, HO4⟩ := hrel
        rename World => W4
        clear HE2 HT2 HO3
        by_cases hlt : c < 4
        · have hc4 : (c : Int) < 4 := by omega
          go_wp2_with fail
          go_loopw [14] (fun r wr => ∃ n : Nat, n ≤ 4 ∧ r = .int .i64 n ∧ Kept (REnv w b key box wr) ∧ Kept (Blk wr (w.heap.size + 1 + 1 + 1 + 1) 22 (bA 16 (rndS box b))) ∧ Kept (Blk wr g5 22 (bA 16 (fillF (rndF last box b key) (4 * c + n))))) (fun r _ => 4 - (intOf r).toNat)
          case atStart => exact ⟨0, Nat.zero_le _, rfl, HE4, HT4, HO4⟩
          case round =>
            obtain ⟨r, hr, rfl, HE5, HT5, HO5⟩ := hrel
            rename World => W5
            clear HE4 HT4 HO4
            by_cases hl : r < 4
            · have HF := kept (show rndF last box b key (r + 4 * c) = (if last then rndS box b (r + 4 * c) else (((xt (rndS box b (r + 4 * c)) ^^^ xt (rndS box b ((r + 1) % 4 + 4 * c))) ^^^ rndS box b ((r + 1) % 4 + 4 * c)) ^^^ rndS box b ((r + 2) % 4 + 4 * c)) ^^^ rndS box b ((r + 3) % 4 + 4 * c)) ^^^ key (r + 4 * c) by
                unfold rndF rndM
                rw [show (r + 4 * c) % 4 = r by omega, show (r + 4 * c) / 4 = c by omega])
              have cell : ∀ i, i < 16 → W5.cell? ⟨w.heap.size + 1 + 1 + 1 + 1, i, none⟩ = some (.int .u8 ((rndS box b i).toNat : Int)) := fun i hi => by rw [HT5.out.cell]; exact bA_at _ _ hi
              have d0 := cell (r + 4 * c) (by omega)
              have d1 := cell ((r + 1) % 4 + 4 * c) (by omega)
              have d2 := cell ((r + 2) % 4 + 4 * c) (by omega)
              have d3 := cell ((r + 3) % 4 + 4 * c) (by omega)
              have dk : W5.cell? ⟨w.heap.size + 1, r + 4 * c, none⟩ = some (.int .u8 ((key (r + 4 * c)).toNat : Int)) := by rw [HE5.out.bk.cell]; exact bA_at _ _ (by omega)
              have dO : W5.cell? ⟨g5, r + 4 * c, none⟩ = some (.int .u8 0) := by
                rw [HO5.out.cell, show r + 4 * c = 4 * c + r by omega, bA_at _ _ (by omega), fillF_at]
                rfl
              have fO := HO5.out.frozen (r + 4 * c)
              clear cell
              generalize rndS box b (r + 4 * c) = s0 at HF d0
              generalize rndS box b ((r + 1) % 4 + 4 * c) = s1 at HF d1
              generalize rndS box b ((r + 2) % 4 + 4 * c) = s2 at HF d2
              generalize rndS box b ((r + 3) % 4 + 4 * c) = s3 at HF d3
              generalize key (r + 4 * c) = k0 at HF dk
              cases last with
              | true =>
                have hx := gx8 s0 k0
                go_wp2
                go_roundw
                case rel => exact ⟨r + 1, by omega, by go_num, kept (HE5.out.set (by omega) _ _), kept (HT5.out.far (by show w.heap.size + 1 + 1 + 1 + 1 ≠ g5; omega) _), kept (HO5.out.putB (r + 4 * c) (gxr s0 k0) fun j _ => by rw [← show rndF true box b key (r + 4 * c) = gxr s0 k0 from HF.out, show r + 4 * c = 4 * c + r by omega]; exact fillF_set _ _ _ rfl j)⟩
                case measure => simp [intOf]; omega
              | false =>
                go_wp2_with fail
                have t2 : IntKind.i64.wrap ((r : Int) + 2) = (r : Int) + 2 := IntWalk.i64_in _ (by omega)
                have t3 : IntKind.i64.wrap ((r : Int) + 3) = (r : Int) + 3 := IntWalk.i64_in _ (by omega)
                have t4 : IntKind.i64.wrap (4 * (c : Int)) = 4 * (c : Int) := IntWalk.i64_in _ (by omega)
                have m : ∀ k : Int, 0 ≤ k → k ≤ 3 → IntKind.i64.wrap (((r : Int) + k).tmod 4 + 4 * (c : Int)) = ((r : Int) + k) % 4 + 4 * (c : Int) := fun k h0 h3 => by
                  rw [Int.tmod_eq_emod_of_nonneg (by omega)]
                  exact IntWalk.i64_in _ (by omega)
                obtain ⟨n2, hn2⟩ : ∃ n, (r + 2) % 4 + 4 * c = n := ⟨_, rfl⟩
                obtain ⟨n3, hn3⟩ : ∃ n, (r + 3) % 4 + 4 * c = n := ⟨_, rfl⟩
                rw [hn2] at d2
                rw [hn3] at d3
                have m2 : IntKind.i64.wrap (((r : Int) + 2).tmod 4 + 4 * (c : Int)) = (n2 : Int) := (m 2 (by omega) (by omega)).trans (by omega)
                have m3 : IntKind.i64.wrap (((r : Int) + 3).tmod 4 + 4 * (c : Int)) = (n3 : Int) := (m 3 (by omega) (by omega)).trans (by omega)
                have l2 : (n2 : Int) < 16 := by omega
                have l3 : (n3 : Int) < 16 := by omega
                clear m hn2 hn3
                have x1 := gx8 (xt s0) (xt s1)
                have x2 := gx8 (gxr (xt s0) (xt s1)) s1
                have x3 := gx8 (gxr (gxr (xt s0) (xt s1)) s1) s2
                have x4 := gx8 (gxr (gxr (gxr (xt s0) (xt s1)) s1) s2) s3
                refine wp_region_still_tail 25 (by kernel_rfl) (by kernel_rfl) ?_
                simp only [List.take_succ_cons, List.take_zero, List.drop_succ_cons, List.drop_zero]
                still_step
                still_call (rtwice_still W5.drew s0)
                still_step
                still_call (rtwice_still W5.drew s1)
                iterate 21 still_step
                refine wpStill_nil ?_
                change wpList _ _ _ _ _ W5.drew
                have dk' : W5.drew.cell? ⟨w.heap.size + 1, r + 4 * c, none⟩ = some (.int .u8 (k0.toNat : Int)) := dk
                have dO' : W5.drew.cell? ⟨g5, r + 4 * c, none⟩ = some (.int .u8 0) := dO
                have fO' : W5.drew.frozen? ⟨g5, r + 4 * c, none⟩ = false := fO
                clear d0 d1 d2 d3 dk dO fO t2 t3 t4 m2 m3 l2 l3
                have x5 := gx8 (gxr (gxr (gxr (gxr (xt s0) (xt s1)) s1) s2) s3) k0
                have HF' := kept (show rndF false box b key (r + 4 * c) = gxr (gxr (gxr (gxr (gxr (xt s0) (xt s1)) s1) s2) s3) k0 from HF.out)
                clear HF
                generalize gxr (gxr (gxr (gxr (xt s0) (xt s1)) s1) s2) s3 = X at x4 x5 HF'
                go_wp2
                go_roundw
                case rel =>
                  iterate 61 apply Exists.intro
                  refine And.intro ?_ rfl
                  exact ⟨r + 1, by omega, by go_num, kept (HE5.out.drew.set (by omega) _ _), kept (HT5.out.drew_.far (by show w.heap.size + 1 + 1 + 1 + 1 ≠ g5; omega) _), kept (HO5.out.drew_.putB (r + 4 * c) (gxr X k0) fun j _ => by rw [← HF'.out, show r + 4 * c = 4 * c + r by omega]; exact fillF_set _ _ _ rfl j)⟩
                case measure => simp [intOf]; omega
            · obtain rfl : r = 4 := by omega
              go_wp2
              go_roundw
              case rel => exact ⟨c + 1, by omega, by go_num, HE5, HT5, by rw [show 4 * (c + 1) = 4 * c + 4 by omega]; exact HO5⟩
              case measure => simp [intOf]; omega
        · obtain rfl : c = 4 := by omega
          have HO6 := kept (show Blk W4 g5 22 (bA 16 (rndF last box b key)) by
            rw [← fillF_all]
            exact HO4.out)
          clear HO4
          go_wp2_with (first | (refine wpList_load_row rfl 22 _ rfl g5 rfl 22 (bA 16 (rndF last box b key)) (0,0) _ HO6.out Try.underlying22 rfl (by rw [b16_size, bA_size]) ?_) | (refine wpList_store_row rfl 22 _ _ rfl (w.heap.size + 1 + 1 + 1) (bA 16 (rndF last box b key)) rfl rfl 22 (bA 16 (fun _ => 0)) HE4.out.br (by rw [b16_size, bA_size]) (by rw [bA_size, bA_size]) (bA_one _ _) ?_))
          exact bodyPost_ret (v := .agg (bA 16 (rndF last box b key))) (results_cell_row Try.results32 _ _ (w.heap.size + 1 + 1 + 1) 22 (bA 16 (rndF last box b key)) (0, 0) _ rfl (setRow_heap _ _ _ _ _ _ HE4.out.br) Try.underlying22 rfl (by rw [b16_size, bA_size])) rfl ⟨rfl, below_setRow HE4.out.bw (by omega) _⟩
end Go.Proofs.Ytnfgmgkdkfeekaa
