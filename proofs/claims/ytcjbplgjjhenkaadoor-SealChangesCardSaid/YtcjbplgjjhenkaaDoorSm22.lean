/-
  The reference's Encrypt of package aes, by a contract.
-/
import Derived.Test.YtcjbplgjjhenkaaDoorSm11
import Derived.Deep.Cut
import Derived.Test.YtcjbplgjjhenkaaDoorSm8
namespace Go.Proofs.YtcjbplgjjhenkaaDoor
open Go.RowKit
set_option linter.unusedVariables false
set_option linter.unusedSimpArgs false

/-- The first n bytes combined with a key. -/
def xorF (b k : Nat → UInt8) (n : Nat) : Nat → UInt8 := fun j => if j < n then gxr (b j) (k j) else b j
theorem xorF_set (b k : Nat → UInt8) (n : Nat) (j : Nat) : xorF b k (n + 1) j = if j = n then gxr (b n) (k n) else xorF b k n j := by
  unfold xorF
  by_cases e : j = n
  · subst e; rw [if_pos (by omega), if_pos rfl]
  · rw [if_neg e]
    by_cases h : j < n
    · rw [if_pos h, if_pos (by omega)]
    · rw [if_neg h, if_neg (by omega)]
theorem xorF_at (b k : Nat → UInt8) (n : Nat) : xorF b k n n = b n := if_neg (by omega)
theorem xorF_all (b k : Nat → UInt8) : bA 16 (xorF b k 16) = bA 16 (aXor b k) := bA_ext fun j h => if_pos h
structure EEnv (w : World) (key : Nat → UInt8) (W : World) : Prop where
  bk : Blk W w.heap.size 22 (bA 16 key)
  bx : Blk W (w.heap.size + 1 + 1) 72 (bA 256 sbx)
  br : Blk W (w.heap.size + 1 + 1 + 1) 22 (bA 16 fun _ => 0)
  bw : Below w.heap.size w W
theorem EEnv.set {w W : World} {key : Nat → UInt8} (h : EEnv w key W) {g : Nat} (hg : w.heap.size + 4 ≤ g ∨ g = w.heap.size + 1) (i : Nat) (u : Value) : EEnv w key (W.setCell ⟨g, i, none⟩ u) :=
  ⟨h.bk.far (by show w.heap.size ≠ g; omega) u, h.bx.far (by show w.heap.size + 1 + 1 ≠ g; omega) u, h.br.far (by show w.heap.size + 1 + 1 + 1 ≠ g; omega) u, h.bw.setCell (by show w.heap.size ≤ g; omega) u⟩
theorem EEnv.alloc {w W : World} {key : Nat → UInt8} (h : EEnv w key W) (o : Obj) : EEnv w key (W.alloc o) := ⟨h.bk.alloc o, h.bx.alloc o, h.br.alloc o, h.bw.alloc h.bw.size o⟩
theorem EEnv.row {w W : World} {key : Nat → UInt8} (h : EEnv w key W) {g : Nat} (hg : w.heap.size + 4 ≤ g ∨ g = w.heap.size + 1) (ds : Array Value) : EEnv w key (W.setRow g ds) :=
  ⟨h.bk.row_far (by omega), h.bx.row_far (by omega), h.br.row_far (by omega), below_setRow h.bw (by omega) _⟩
theorem EEnv.drew {w W : World} {key : Nat → UInt8} (h : EEnv w key W) : EEnv w key W.drew := ⟨h.bk.drew_, h.bx.drew_, h.br.drew_, h.bw.drew⟩
theorem EEnv.below {w W W' : World} {key : Nat → UInt8} (h : EEnv w key W) (k : Below W.heap.size W W') : EEnv w key W' :=
  ⟨h.bk.below k h.bk.lt, h.bx.below k h.bx.lt, h.br.below k h.br.lt, h.bw.trans (k.mono h.bw.size)⟩
theorem eenv_start (w : World) (key b : Nat → UInt8) (z : Array Value) (hz : z = bA 16 fun _ => 0) :
    EEnv w key ((((w.alloc (.cells (bA 16 key) 22)).alloc (.cells (bA 16 b) 22)).alloc (.cells (bA 256 sbx) 72)).alloc (.cells z 22)) ∧
    Blk ((((w.alloc (.cells (bA 16 key) 22)).alloc (.cells (bA 16 b) 22)).alloc (.cells (bA 256 sbx) 72)).alloc (.cells z 22)) (w.heap.size + 1) 22 (bA 16 b) := by
  subst hz
  have n0 := Blk.new w 22 (bA 16 key)
  have n1 := Blk.new (w.alloc (.cells (bA 16 key) 22)) 22 (bA 16 b)
  have n2 := Blk.new ((w.alloc (.cells (bA 16 key) 22)).alloc (.cells (bA 16 b) 22)) 72 (bA 256 sbx)
  have n3 := Blk.new (((w.alloc (.cells (bA 16 key) 22)).alloc (.cells (bA 16 b) 22)).alloc (.cells (bA 256 sbx) 72)) 22 (bA 16 fun _ => 0)
  simp only [World.size_alloc] at n1 n2 n3
  exact ⟨⟨((n0.alloc _).alloc _).alloc _, n2.alloc _, n3, ((((Below.refl _ _).alloc (Nat.le_refl _) _).alloc (by simp) _).alloc (by simp; omega) _).alloc (by simp; omega) _⟩, (n1.alloc _).alloc _⟩
set_option maxHeartbeats 2000000 in
set_option maxRecDepth 100000 in
theorem rencrypt_any (w : World) (key b : Nat → UInt8) : Calls Tryd.prog 56 #[.agg (bA 16 key), .agg (bA 16 b), .agg (bA 256 sbx)] w fun e w' => e = .returned (.agg (bA 16 (aEnc key b))) ∧ Below w.heap.size w w' := by
  have hz1 := zero11
  go_enter Tryd.func56, Tryd.ntmps56
  go_upto_region 1 with (fail)
  go_name_world W0 hW0
  have hE := eenv_start w key b _ (show #[Value.int .u8 0, .int .u8 0, .int .u8 0, .int .u8 0, .int .u8 0, .int .u8 0, .int .u8 0, .int .u8 0, .int .u8 0, .int .u8 0, .int .u8 0, .int .u8 0, .int .u8 0, .int .u8 0, .int .u8 0, .int .u8 0] = bA 16 fun _ => 0 from rfl)
  rw [hW0] at hE
  clear hW0
  have HE0 := kept hE.1
  have HB0 := kept hE.2
  clear hE
  go_wp2_with (first | (refine wpList_load_row rfl 22 (.tmp 3) rfl w.heap.size rfl 22 (bA 16 key) (0, 0) _ HE0.out.bk Tryd.underlying22 rfl (by rw [b16_size, bA_size]) ?_) | (refine wpList_load_row rfl 72 (.tmp 5) rfl (w.heap.size + 1 + 1) rfl 72 (bA 256 sbx) (0, 0) _ HE0.out.bx Tryd.underlying72 rfl (by rw [b256_size, bA_size]) ?_))
  refine (rkeys_any W0 key sbx).mono ?_
  rintro e w1 ⟨rfl, k⟩
  have HE1 := kept (HE0.out.below k)
  have HB1 := kept (HB0.out.below k HB0.out.lt)
  have hg7 : w.heap.size + 3 < w1.heap.size := HE1.out.br.lt
  clear k HE0 HB0
  obtain ⟨ks, hks⟩ : ∃ ks, aKey key = ks := ⟨_, rfl⟩
  rw [show kW sbx key 44 = ks from hks]
  have HK := kept hks
  clear hks
  go_upto_region 2 with (refine wpList_store_row rfl 98 (.tmp 7) (.tmp 12) rfl w1.heap.size (bA 176 ks) rfl rfl 98 (bA 176 fun _ => 0) (Blk.new w1 _ _) (by rw [b176_size, bA_size]) (by rw [bA_size, bA_size]) (bA_one _ _) ?_)
  go_name_world W2 hW2
  have HE2 := kept (show EEnv w key W2 by rw [← hW2]; exact (HE1.out.alloc _).row (by omega) _)
  have HB2 := kept (show Blk W2 (w.heap.size + 1) 22 (bA 16 (xorF b (kRow ks 0) 0)) by rw [← hW2]; exact (HB1.out.alloc _).row_far (by omega))
  have HS2 := kept (show Blk W2 w1.heap.size 98 (bA 176 ks) by rw [← hW2]; exact setRow_heap _ _ _ _ _ _ (Blk.new w1 _ _))
  clear hW2 HE1 HB1
  generalize w1.heap.size = g7 at hg7 HS2
  clear hz1
  go_wp2_with fail
  go_loopw [8] (fun i wr => ∃ n : Nat, n ≤ 16 ∧ i = .int .i64 n ∧ Kept (EEnv w key wr) ∧ Kept (Blk wr (w.heap.size + 1) 22 (bA 16 (xorF b (kRow ks 0) n))) ∧ Kept (Blk wr g7 98 (bA 176 ks))) (fun i _ => 16 - (intOf i).toNat)
  case atStart => exact ⟨0, Nat.zero_le _, rfl, HE2, HB2, HS2⟩
  case round =>
    obtain ⟨n, hn, rfl, HE3, HB3, HS3⟩ := hrel
    rename World => W3
    clear HE2 HB2 HS2
    by_cases hlt : n < 16
    · have hn16 : (n : Int) < 16 := by omega
      have c1 : W3.cell? ⟨w.heap.size + 1, n, none⟩ = some (.int .u8 ((b n).toNat : Int)) := by rw [HB3.out.cell, bA_at _ _ hlt, xorF_at]
      have c2 : W3.cell? ⟨g7, n, none⟩ = some (.int .u8 ((ks n).toNat : Int)) := by rw [HS3.out.cell]; exact bA_at _ _ (by omega)
      have f1 := HB3.out.frozen n
      have HS := kept (xorF_set b (kRow ks 0) n)
      rw [show kRow ks 0 n = ks n from congrArg ks (by omega)] at HS
      have hx := gx8 (b n) (ks n)
      generalize gxr (b n) (ks n) = Z at hx HS
      generalize b n = x at hx c1
      generalize ks n = y at hx c2
      go_wp2
      go_region
      all_goals go_wp2
      go_roundw
      case rel => exact ⟨n + 1, by omega, by go_num, kept (HE3.out.set (by omega) _ _).drew, kept (HB3.out.putB n Z fun j _ => HS.out j).drew_, kept (HS3.out.far (by show g7 ≠ w.heap.size + 1; omega) _).drew_⟩
      case measure => simp [intOf]; omega
    · obtain rfl : n = 16 := by omega
      go_wp2_with fail
      have HB4 := kept (show Blk W3 (w.heap.size + 1) 22 (bA 16 (aSt ks b 0)) by rw [show aSt ks b 0 = aXor b (kRow ks 0) from rfl, ← xorF_all]; exact HB3.out)
      clear HB3 hn hlt
      go_loopw [9] (fun i wr => ∃ n : Nat, n ≤ 10 ∧ i = .int .i64 ((n + 1 : Nat) : Int) ∧ Kept (EEnv w key wr) ∧ Kept (Blk wr (w.heap.size + 1) 22 (bA 16 (aSt ks b n))) ∧ Kept (Blk wr g7 98 (bA 176 ks))) (fun i _ => 11 - (intOf i).toNat)
      case atStart => exact ⟨0, Nat.zero_le _, rfl, HE3, HB4, HS3⟩
      case round =>
        obtain ⟨n, hn, rfl, HE5, HB5, HS5⟩ := hrel
        rename World => W5
        clear HE3 HB4 HS3
        by_cases hlt : n < 10
        · have hn10 : ((n + 1 : Nat) : Int) ≤ 10 := by omega
          have hn0 : 0 ≤ ((n + 1 : Nat) : Int) := by omega
          have hn11 : ((n + 1 : Nat) : Int) < 11 := by omega
          have hq : (((n + 1 : Nat) : Int) == 10) = (n + 1 == 10) := by
            rw [Bool.eq_iff_iff, beq_iff_eq, beq_iff_eq]
            omega
          have R1 := kept HB5.out.range
          have R2 := kept (show W5.rangeAt g7 ((n + 1) * 16) (bA 16 (kRow ks (n + 1))).toList from fun j v hv => by
            have hj : j < 16 := by
              have := (List.getElem?_eq_some_iff.1 hv).1
              rw [Array.length_toList, bA_size] at this
              exact this
            rw [HS5.out.cell, show (n + 1) * 16 + j = 16 * (n + 1) + j by omega, bA_at _ _ (by omega)]
            rw [Array.getElem?_toList, bA_at _ _ hj] at hv
            exact hv)
          have R3 := kept HE5.out.bx.range
          obtain ⟨m, hm⟩ : ∃ m, n + 1 = m := ⟨_, rfl⟩
          have HN := kept (show aSt ks b (n + 1) = aRnd (n + 1 == 10) (aSt ks b n) (kRow ks (n + 1)) from rfl)
          rw [hm] at R2 HN hq hn10 hn0 hn11
          rw [hm]
          have HM := kept hm
          clear hm hlt hn
          go_wp2_with fail
          obtain ⟨C, hCd⟩ : ∃ C : World → Prop, C = fun w' => Below W5.heap.size W5 w' := ⟨_, rfl⟩
          have HC := kept (show ∀ w', C w' → Below W5.heap.size W5 w' from fun w' h => by rw [hCd] at h; exact h)
          have HC' := kept (show ∀ w', Below W5.heap.size W5 w' → C w' from fun w' h => by rw [hCd]; exact h)
          clear hCd
          have keepR : ∀ g o (cs : List Value), W5.rangeAt g o cs → ∀ w', C w' → w'.rangeAt g o cs := fun g o cs h w' hw' j v hv => by
            have := h j v hv
            exact ((HC.out w' hw').cell (p := ⟨g, o + j, none⟩) (World.block_lt_of_cell? W5 _ this)).trans this
          have Q1 := kept (keepR _ _ _ R1.out)
          have Q2 := kept (keepR _ _ _ R2.out)
          have Q3 := kept (keepR _ _ _ R3.out)
          have S16 : ∀ f : Nat → UInt8, (Tryd.prog.info? 22).map (·.size) = some (bA 16 f).toList.length := fun f => by rw [b16_size, Array.length_toList, bA_size]
          have S256 : (Tryd.prog.info? 72).map (·.size) = some (bA 256 sbx).toList.length := by rw [b256_size, Array.length_toList, bA_size]
          have HS16 := kept S16
          have HS256 := kept S256
          clear keepR R1 R2 R3 S16 S256
          refine wp_region_tail C 8 (by kernel_rfl) (by kernel_rfl) (HC'.out _ (Below.refl _ W5).drew) ?_
          simp only [List.take_succ_cons, List.take_zero, List.drop_succ_cons, List.drop_zero]
          refine quiet_load (by rfl) 22 (.tmp 4) rfl (w.heap.size + 1) 0 rfl (bA 16 (aSt ks b n)).toList _ Q1.out Tryd.underlying22 rfl (HS16.out _) ?_
          quiet_step (exact fun _ => rfl)
          quiet_step (exact fun _ => rfl)
          refine quiet_load (by rfl) 22 (.tmp 33) rfl g7 (m * 16) (by rfl) (bA 16 (kRow ks m)).toList _ Q2.out Tryd.underlying22 rfl (HS16.out _) ?_
          quiet_step (exact fun _ => rfl)
          quiet_step (exact fun _ => rfl)
          refine quiet_load (by rfl) 72 (.tmp 5) rfl (w.heap.size + 1 + 1) 0 rfl (bA 256 sbx).toList _ Q3.out Tryd.underlying72 rfl HS256.out ?_
          quiet_step (exact fun hw' => (rround_any _ (aSt ks b n) (kRow ks m) sbx (m == 10)).mono fun e w'' he => ⟨he.1, HC'.out _ ((HC.out _ hw').trans (he.2.mono (HC.out _ hw').size))⟩)
          refine wpQuiet_nil ?_
          intro W6 hC6
          have hb6 := HC.out _ hC6
          have HE6 := kept (HE5.out.below hb6)
          have HB6 := kept (HB5.out.below hb6 HB5.out.lt)
          have HS6 := kept (HS5.out.below hb6 HS5.out.lt)
          clear hC6 hb6 HC HC' Q1 Q2 Q3 HE5 HB5 HS5
          obtain ⟨T, hT⟩ : ∃ T, rndF (m == 10) sbx (aSt ks b n) (kRow ks m) = T := ⟨_, rfl⟩
          have HT := kept (show aSt ks b (n + 1) = T by rw [HM.out, HN.out]; exact hT)
          rw [hT]
          clear hT HN
          generalize aSt ks b n = old at HB6
          go_wp2_with (refine wpList_store_row rfl 22 (.tmp 4) (.tmp 38) rfl (w.heap.size + 1) (bA 16 T) rfl rfl 22 (bA 16 old) HB6.out (by rw [b16_size, bA_size]) (by rw [bA_size, bA_size]) (bA_one _ _) ?_)
          go_roundw
          case rel =>
            iterate 13 apply Exists.intro
            refine And.intro ?_ rfl
            exact ⟨n + 1, by have := HM.out; omega, congrArg (Value.int .i64) (by have := HM.out; omega), kept (HE6.out.row (by omega) _), kept (by rw [HT.out]; exact setRow_heap _ _ _ _ _ _ HB6.out), kept (HS6.out.row_far (by omega))⟩
          case measure => have := HM.out; simp [intOf]; omega
        · obtain rfl : n = 10 := by omega
          obtain ⟨R, hR⟩ : ∃ R, aSt ks b 10 = R := ⟨_, rfl⟩
          rw [hR] at HB5
          have HR := kept (show aEnc key b = R by rw [← hR, ← HK.out]; rfl)
          clear hR hn hlt
          go_wp2_with (first | (refine wpList_load_row rfl 22 (.tmp 4) rfl (w.heap.size + 1) rfl 22 (bA 16 R) (0, 0) _ HB5.out Tryd.underlying22 rfl (by rw [b16_size, bA_size]) ?_) | (refine wpList_store_row rfl 22 (.tmp 6) (.tmp 39) rfl (w.heap.size + 1 + 1 + 1) (bA 16 R) rfl rfl 22 (bA 16 (fun _ => 0)) HE5.out.br (by rw [b16_size, bA_size]) (by rw [bA_size, bA_size]) (bA_one _ _) ?_))
          exact bodyPost_ret (v := .agg (bA 16 R)) (results_cell_row Tryd.results56 _ _ (w.heap.size + 1 + 1 + 1) 22 (bA 16 R) (0, 0) _ rfl (setRow_heap _ _ _ _ _ _ HE5.out.br) Tryd.underlying22 rfl (by rw [b16_size, bA_size])) rfl ⟨by rw [HR.out], below_setRow HE5.out.bw (by omega) _⟩
/-- The reference's table of substitutions, by its second name. -/
theorem rbox7_any (w : World) : Calls Tryd.prog 42 #[] w fun e w' => e = .returned (.agg (bA 256 sbx)) ∧ Below w.heap.size w w' := by
  have hz := zero256
  go_enter Tryd.func42, Tryd.ntmps42
  go_upto_region 1 with (fail)
  go_name_world W0 hW0
  have HR0 := kept (show Blk W0 w.heap.size 72 (bA 256 fun _ => 0) by rw [← hW0]; exact Blk.new w 72 (bA 256 fun _ => 0))
  have HW0 := kept (show Below w.heap.size w W0 by rw [← hW0]; exact (Below.refl _ _).alloc (Nat.le_refl _) _)
  clear hW0 hz
  go_wp2_with fail
  refine (rbox_any W0).mono ?_
  rintro e w2 ⟨rfl, b2⟩
  rw [show bA 256 (fun j => gsub (UInt8.ofNat j)) = bA 256 sbx from rfl]
  have HR2 := kept (HR0.out.below b2 HR0.out.lt)
  have HW2 := kept (below_next HW0.out b2)
  clear b2 HR0 HW0
  have HS := kept (show bA 256 sbx = bA 256 sbx from rfl)
  generalize hs : sbx = S at HS
  go_wp2_with (refine wpList_store_row rfl 72 (.tmp 0) (.tmp 1) rfl w.heap.size (bA 256 S) rfl rfl 72 (bA 256 fun _ => 0) HR2.out (by rw [b256_size, bA_size]) (by rw [bA_size, bA_size]) (bA_one _ _) ?_)
  exact bodyPost_ret (v := .agg (bA 256 S)) (results_cell_row Tryd.results42 _ _ w.heap.size 72 (bA 256 S) (0, 0) _ rfl (setRow_heap _ _ _ _ _ _ HR2.out) Tryd.underlying72 rfl (by rw [b256_size, bA_size])) rfl ⟨by rw [hs], below_setRow HW2.out (Nat.le_refl _) _⟩
end Go.Proofs.YtcjbplgjjhenkaaDoor
