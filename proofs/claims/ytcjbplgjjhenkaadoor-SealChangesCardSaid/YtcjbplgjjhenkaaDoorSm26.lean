/-
  The reference's code of bytes under a key, by a contract.
-/
import Derived.Test.YtcjbplgjjhenkaaDoorSm25
import Derived.Test.YtcjbplgjjhenkaaDoorSm19
import Derived.Deep.Cut
namespace Go.Proofs.YtcjbplgjjhenkaaDoor
open Go.RowKit
set_option linter.unusedVariables false
set_option linter.unusedSimpArgs false

/-- Two slices whose own blocks are two. -/
def Apart (v u : Value) : Prop := ∀ k, v.ownBlock = some k → u.ownBlock ≠ some k
theorem Apart.symm {v u : Value} (h : Apart v u) : Apart u v := fun k hu hv => h k hv hu
theorem apart_nil (u : Value) : Apart (.slice none 0 0) u := fun k h => by simp [Value.ownBlock] at h
theorem Own.apart {w w' : World} {B : Nat} {v u : Value} {l : List UInt8} (h : Own w B v l) (hg : w.grownBy w' u.ownBlock) (ha : Apart v u) : Own w' B v l :=
  h.keep fun k hk => hg.block k (World.ownsRow.lt h k hk).2 fun e => ha k hk e.symm
theorem apart_new {w : World} {B : Nat} {v v' u : Value} {l : List UInt8} (ha : Apart v u) (hu : Own w B u l) (h : v'.ownBlock = v.ownBlock ∨ v'.ownBlock = some w.heap.size) : Apart v' u := by
  intro k hk hku
  rcases h with h | h
  · exact ha k (by rw [← h]; exact hk) hku
  · rw [h] at hk
    have := (World.ownsRow.lt hu k hku).2
    injection hk with hk
    omega
theorem run_append_bytes2 {P : Program} (w : World) (B : Nat) (t ty : TypeId) (i : TypeInfo) (ht : P.underlying t = some (.slice 5)) (hi : P.info? 5 = some i)
    (hz : i.zero = some (.int .u8 0)) (hs : i.size = 1) (hb : i.bytes = 1) (v : Value) (l : List UInt8) (hown : Own w B v l)
    (q : Nat) (A : Option Addr) (m c : Nat) (s : List UInt8) (hm : m = s.length) (hsrc : Mem w q A s) (hlen : l.length + s.length ≤ 140737488355328) (hB : B ≤ w.heap.size) :
    ∃ v' w', (Builtin.append_ #[t, t] ty #[v, .slice A m c]).run P w = .ok v' w' ∧ Own w' B v' (l ++ s) ∧ w.grownBy w' v.ownBlock ∧ (v'.ownBlock = v.ownBlock ∨ v'.ownBlock = some w.heap.size) := by
  subst hm
  cases A with
  | none =>
    have hn : s = [] := by
      rcases hsrc with h | ⟨o, h, _⟩
      · exact h
      · cases h
    subst hn
    refine ⟨v, w, ?_, by simpa using hown, World.grownBy.refl w _, .inl rfl⟩
    rcases hown.2 with ⟨rfl, hl⟩ | ⟨g, cap, cur, rfl, _, _, hnc, _⟩
    · simp [Builtin.append_, run_underlying ht, sizeOf, typeInfo, hi, Builtin.lenOf, Builtin.firstCells]
    · simp [Builtin.append_, run_underlying ht, sizeOf, typeInfo, hi, Builtin.lenOf, Builtin.firstCells, hnc, storeCells]
  | some ad =>
    have hcells : ∀ j u, (s.map bv)[j]? = some u → w.cell? (ad.add j) = some u := mem_src hsrc ad rfl
    obtain ⟨v', w', hrun, h2, h3, _, h5⟩ := run_append_own_at (P := P) w B t ty 5 i (.int .u8 0) 1 1 ht hi hz hs hb rfl (by omega) v l.length (l.map bv) hown ad s.length c (s.map bv) (by simp) hcells (oneCell_bv s)
      (by unfold maxLen; omega) (by omega) hB
    exact ⟨v', w', hrun, by unfold Own; simpa using h2, h3, h5⟩
theorem wpList_append_bytes2 {P : Program} {w : World} {ops : Array Oper} {rest : List Oper} {o : Oper} {a : Act} {Q : Exit → Act → World → Prop} (hgd : o.guard = none) (s x : Operand) (t : TypeId)
    (ho : o.op = .call { callee := .builtin .append, args := #[s, x], argTypes := #[t, t] })
    (B : Nat) (i : TypeInfo) (ht : P.underlying t = some (.slice 5)) (hi : P.info? 5 = some i) (hz : i.zero = some (.int .u8 0)) (hsz : i.size = 1) (hb : i.bytes = 1)
    (v : Value) (l : List UInt8) (hs : a.eval s = v) (hown : Own w B v l) (q : Nat) (A : Option Addr) (m c : Nat) (src : List UInt8) (hx : a.eval x = .slice A m c) (hm : m = src.length)
    (hsrc : Mem w q A src) (hlen : l.length + src.length ≤ 140737488355328) (hB : B ≤ w.heap.size)
    (h : ∀ v' w', Own w' B v' (l ++ src) → w.grownBy w' v.ownBlock → (v'.ownBlock = v.ownBlock ∨ v'.ownBlock = some w.heap.size) → wpList P ops Q rest (a.put o.dst v') w') : wpList P ops Q (o :: rest) a w := by
  refine wpList_plain hgd fun K hK => ?_
  obtain ⟨v', w', hrun, h2, h3, h4⟩ := run_append_bytes2 (P := P) w B t o.type i ht hi hz hsz hb v l hown q A m c src hm hsrc hlen hB
  unfold Oper.wp execOp
  simp only [ho, resolve, invoke, builtin, Sem.run_bind, Sem.run_pure, Result.andThen_ok, List.map_toArray, List.map_cons, List.map_nil, hs, hx, hrun]
  exact hK _ _ (h v' w' h2 h3 h4)
theorem xorB_take (m : UInt8) (P : List UInt8) (j : Nat) (h : j < P.length) : (xorB m P).take (j + 1) = (xorB m P).take j ++ [xr (P.getD j 0) m] := by
  rw [List.take_succ_eq_append_getElem (by rw [xorB_len]; exact h)]
  congr 1
  simp [xorB, h]
theorem padK_at (k : List UInt8) (j : Nat) (h : j < (keyS k).length) : (padK k).getD j 0 = (keyS k)[j]'h := by
  unfold padK
  simp [List.getD, List.getElem?_append_left h, h]
theorem padK_zero (k : List UInt8) (j : Nat) (h : ¬ j < (keyS k).length) (h64 : j < 64) : (padK k).getD j 0 = 0 := by
  unfold padK
  rw [List.getD, List.getElem?_append_right (by omega), List.getElem?_replicate]
  split <;> rfl
theorem mem_blk2 {w : World} {g : Nat} {t : TypeId} {l : List UInt8} (h : Blk w g t (l.map bv).toArray) : Mem w g (some ⟨g, 0, none⟩) l := by
  refine .inr ⟨0, rfl, fun j b hj => ?_⟩
  rw [h.cell, Nat.zero_add]
  simp [hj, bv]
theorem mem_lit1 {w : World} {g : Nat} {b : UInt8} (hg : g = w.heap.size) : Mem (w.alloc (.cells #[.int .u8 (b.toNat : Int)] 5)) g (some ⟨g, 0, none⟩) [b] := by
  subst hg
  exact mem_lit rfl
set_option maxHeartbeats 16000000 in
set_option maxRecDepth 100000 in
theorem rmac_short (w : World) (q1 q2 : Nat) (A1 A2 : Option Addr) (n1 n2 c1 c2 : Nat) (k b : List UInt8) (hn1 : n1 = k.length) (hm1 : Mem w q1 A1 k) (hk : k.length ≤ 64) (hn2 : n2 = b.length) (hm2 : Mem w q2 A2 b) (hbl : b.length ≤ 140737488355000) :
    Calls Tryd.prog 21 #[.slice A1 n1 c1, .slice A2 n2 c2] w fun e w' => e = .returned (.agg ((hmac k b).map bv).toArray) ∧ Below w.heap.size w w' := by
  subst hn1
  subst hn2
  obtain ⟨i0, hi0, hz0, hs0, hbb0⟩ := info_parts u8_info
  have HM1 := kept hm1
  have HM2 := kept hm2
  have hpl := padK_len k
  obtain ⟨P, hP⟩ : ∃ P, padK k = P := ⟨_, rfl⟩
  rw [hP] at hpl
  have HP := kept hP
  have HPL := kept hpl
  clear hm1 hm2 hP hpl
  go_enter Tryd.func21, Tryd.ntmps21
  go_upto_region 1 with fail
  go_name_world W0 hW0
  have HR0 := kept (show Blk W0 w.heap.size 36 (Array.replicate 32 (.int .u8 0)) by rw [← hW0]; exact Blk.new w _ _)
  have HB0 := kept (show Below w.heap.size w W0 by rw [← hW0]; exact (Below.refl _ w).alloc (Nat.le_refl _) _)
  have hsz0 : w.heap.size < W0.heap.size := HR0.out.lt
  clear hW0
  have HOE := kept (show Own (W0.alloc (.cells #[] 5)) (w.heap.size + 1) (.slice (some ⟨W0.heap.size, 0, none⟩) 0 0) [] from own_of_blk (l := []) (Blk.new W0 _ _) (by omega) (by simp))
  have HMA := kept ((HM1.out.below0 HB0.out).alloc (.cells #[] 5))
  have HKS := kept (show keyS k = k by unfold keyS; rw [if_neg (by omega)])
  have hd : decide ((64 : Int) < (k.length : Int)) = false := by simp; omega
  go_upto_region 5 with (at_builtin; refine wpList_append_bytes rfl (.tmp 12) (.tmp 13) 24 rfl (w.heap.size + 1) i0 Tryd.underlying24 hi0 hz0 hs0 hbb0 (.slice (some ⟨W0.heap.size, 0, none⟩) 0 0) [] rfl HOE.out q1 A1 k.length c1 k rfl rfl HMA.out (by simp; omega) (by simp; omega) ?_; intro vk WL hownk hgk; rw [List.nil_append] at hownk; obtain ⟨Ak, qk, ck, rfl, _, _, hmk, _⟩ := hownk.form)
  have hbw : Below w.heap.size w WL := (HB0.out.alloc HB0.out.size (.cells #[] 5)).grown hgk (by simp; omega) (fun k hk => by simp [Value.ownBlock] at hk; omega)
  have HRL := kept ((HR0.out.alloc (.cells #[] 5)).grown hgk (by simp [Value.ownBlock]; omega))
  have HBL := kept hbw
  have HMB := kept (HM2.out.below0 hbw)
  have HMK := kept hmk
  clear hownk hgk hbw hmk HOE HMA
  go_wp2_with fail
  go_loopw [7, 8, 9] (fun vi vo i wr => ∃ j : Nat, j ≤ 64 ∧ i = .int .i64 j ∧ Kept (Own wr WL.heap.size vi ((xorB 54 P).take j)) ∧ Kept (Own wr WL.heap.size vo ((xorB 92 P).take j)) ∧ Kept (Apart vi vo) ∧ Kept (Below WL.heap.size WL wr)) (fun _ _ i _ => 64 - (intOf i).toNat)
  case atStart => exact ⟨0, Nat.zero_le _, rfl, kept (by rw [List.take_zero]; exact Own.nil_ _ _), kept (by rw [List.take_zero]; exact Own.nil_ _ _), kept (apart_nil _), kept (Below.refl _ _)⟩
  case round =>
    rename World => W1
    obtain ⟨j, hj, rfl, HI, HO, HAP, HB1⟩ := hrel
    by_cases h64 : j < 64
    · have t54 : ((xorB 54 P).take j).length = j := by rw [List.length_take, xorB_len, HPL.out]; omega
      have t92 : ((xorB 92 P).take j).length = j := by rw [List.length_take, xorB_len, HPL.out]; omega
      have T54 := kept t54
      have T92 := kept t92
      clear t54 t92
      by_cases hlt : j < k.length
      · obtain ⟨x, hx⟩ : ∃ x, (k[j]'hlt) = x := ⟨_, rfl⟩
        obtain ⟨oA, rfl, hcell⟩ := (HMK.out.below0 HB1.out).at_ hlt
        rw [hx] at hcell
        have hpx : P.getD j 0 = x := by rw [← HP.out, padK_at k j (by rw [HKS.out]; exact hlt)]; simp only [HKS.out]; exact hx
        have HX54 := kept (xorB_take 54 P j (by rw [HPL.out]; exact h64))
        have HX92 := kept (xorB_take 92 P j (by rw [HPL.out]; exact h64))
        rw [hpx] at HX54 HX92
        have x54 : bits .xor .u8 (x.toNat : Int) 54 = ((xr x 54).toNat : Int) := x8 x 54
        have x92 : bits .xor .u8 (x.toNat : Int) 92 = ((xr x 92).toNat : Int) := x8 x 92
        have hj0 : (0 : Int) ≤ (j : Int) := by omega
        have hj1 : (j : Int) < (k.length : Int) := by omega
        have HM1 := kept (mem_lit1 (w := W1) (b := xr x 54) rfl)
        have HI2 := kept (HI.out.alloc (.cells #[.int .u8 ((xr x 54).toNat : Int)] 5))
        have HO2 := kept (HO.out.alloc (.cells #[.int .u8 ((xr x 54).toNat : Int)] 5))
        have HBA := kept (HB1.out.alloc HB1.out.size (.cells #[.int .u8 ((xr x 54).toNat : Int)] 5))
        clear hx hpx
        go_upto_region 14 with (at_builtin; refine wpList_append_bytes2 rfl (.tmp 33) (.tmp 36) 24 rfl WL.heap.size i0 Tryd.underlying24 hi0 hz0 hs0 hbb0 u7 ((xorB 54 P).take j) rfl HI2.out W1.heap.size _ 1 1 [xr x 54] rfl rfl HM1.out (by rw [T54.out]; simp; omega) HBA.out.size ?_; intro v1 W2 ho1 hg1 ha1)
        have hbw2 : Below WL.heap.size WL W2 := HBA.out.grown hg1 HBA.out.size (fun k hk => (World.ownsRow.lt HI2.out k hk).1)
        have HI3 := kept ho1
        have HO3 := kept (HO2.out.apart hg1 HAP.out.symm)
        have HAP3 := kept (apart_new HAP.out HO2.out ha1)
        have HBW2 := kept hbw2
        clear ho1 hg1 ha1 hbw2
        have HO4 := kept (HO3.out.alloc (.cells #[.int .u8 ((xr x 92).toNat : Int)] 5))
        have HI4 := kept (HI3.out.alloc (.cells #[.int .u8 ((xr x 92).toNat : Int)] 5))
        have HBB := kept (HBW2.out.alloc HBW2.out.size (.cells #[.int .u8 ((xr x 92).toNat : Int)] 5))
        have HM2 := kept (mem_lit1 (w := W2) (b := xr x 92) rfl)
        go_wp2_with (at_builtin; refine wpList_append_bytes2 rfl (.tmp 38) (.tmp 41) 24 rfl WL.heap.size i0 Tryd.underlying24 hi0 hz0 hs0 hbb0 u8 ((xorB 92 P).take j) rfl HO4.out W2.heap.size _ 1 1 [xr x 92] rfl rfl HM2.out (by rw [T92.out]; simp; omega) HBB.out.size ?_; intro v2 W3 ho2 hg2 ha2)
        have hbw3 : Below WL.heap.size WL W3 := HBB.out.grown hg2 HBB.out.size (fun k hk => (World.ownsRow.lt HO4.out k hk).1)
        have HI5 := kept (HI4.out.apart hg2 HAP3.out)
        have HAP5 := kept (apart_new HAP3.out.symm HI4.out ha2).symm
        have HO5 := kept ho2
        have HBW3 := kept hbw3
        clear ho2 hg2 ha2 hbw3
        go_wp2
        go_roundw
        case rel => exact ⟨j + 1, by omega, by go_num, kept (by rw [HX54.out]; exact HI5.out), kept (by rw [HX92.out]; exact HO5.out), HAP5, HBW3⟩
        case measure => simp [intOf]; omega
      · have hpx : P.getD j 0 = 0 := by rw [← HP.out]; exact padK_zero k j (by rw [HKS.out]; exact hlt) h64
        have HX54 := kept (xorB_take 54 P j (by rw [HPL.out]; exact h64))
        have HX92 := kept (xorB_take 92 P j (by rw [HPL.out]; exact h64))
        rw [hpx] at HX54 HX92
        have x54 : bits .xor .u8 0 54 = 54 := x8 0 54
        have x92 : bits .xor .u8 0 92 = 92 := x8 0 92
        have hj1 : ¬ ((j : Int) < (k.length : Int)) := by omega
        have HM1 := kept (show Mem (W1.alloc (.cells #[.int .u8 54] 5)) W1.heap.size (some ⟨W1.heap.size, 0, none⟩) [xr 0 54] from mem_lit1 (w := W1) (b := xr 0 54) rfl)
        have HI2 := kept (HI.out.alloc (.cells #[.int .u8 54] 5))
        have HO2 := kept (HO.out.alloc (.cells #[.int .u8 54] 5))
        have HBA := kept (HB1.out.alloc HB1.out.size (.cells #[.int .u8 54] 5))
        clear hpx
        go_upto_region 14 with (at_builtin; refine wpList_append_bytes2 rfl (.tmp 33) (.tmp 36) 24 rfl WL.heap.size i0 Tryd.underlying24 hi0 hz0 hs0 hbb0 u7 ((xorB 54 P).take j) rfl HI2.out W1.heap.size _ 1 1 [xr 0 54] rfl rfl HM1.out (by rw [T54.out]; simp; omega) HBA.out.size ?_; intro v1 W2 ho1 hg1 ha1)
        have hbw2 : Below WL.heap.size WL W2 := HBA.out.grown hg1 HBA.out.size (fun k hk => (World.ownsRow.lt HI2.out k hk).1)
        have HI3 := kept ho1
        have HO3 := kept (HO2.out.apart hg1 HAP.out.symm)
        have HAP3 := kept (apart_new HAP.out HO2.out ha1)
        have HBW2 := kept hbw2
        clear ho1 hg1 ha1 hbw2
        have HO4 := kept (HO3.out.alloc (.cells #[.int .u8 (92 : Int)] 5))
        have HI4 := kept (HI3.out.alloc (.cells #[.int .u8 (92 : Int)] 5))
        have HBB := kept (HBW2.out.alloc HBW2.out.size (.cells #[.int .u8 (92 : Int)] 5))
        have HM2 := kept (mem_lit1 (w := W2) (b := xr 0 92) rfl)
        go_wp2_with (at_builtin; refine wpList_append_bytes2 rfl (.tmp 38) (.tmp 41) 24 rfl WL.heap.size i0 Tryd.underlying24 hi0 hz0 hs0 hbb0 u8 ((xorB 92 P).take j) rfl HO4.out W2.heap.size _ 1 1 [xr 0 92] rfl rfl HM2.out (by rw [T92.out]; simp; omega) HBB.out.size ?_; intro v2 W3 ho2 hg2 ha2)
        have hbw3 : Below WL.heap.size WL W3 := HBB.out.grown hg2 HBB.out.size (fun k hk => (World.ownsRow.lt HO4.out k hk).1)
        have HI5 := kept (HI4.out.apart hg2 HAP3.out)
        have HAP5 := kept (apart_new HAP3.out.symm HI4.out ha2).symm
        have HO5 := kept ho2
        have HBW3 := kept hbw3
        clear ho2 hg2 ha2 hbw3
        go_wp2
        go_roundw
        case rel => exact ⟨j + 1, by omega, by go_num, kept (by rw [HX54.out]; exact HI5.out), kept (by rw [HX92.out]; exact HO5.out), HAP5, HBW3⟩
        case measure => simp [intOf]; omega
    · obtain rfl : j = 64 := by omega
      have e54 : (xorB 54 P).take 64 = xorB 54 P := List.take_of_length_le (by rw [xorB_len, HPL.out]; omega)
      have e92 : (xorB 92 P).take 64 = xorB 92 P := List.take_of_length_le (by rw [xorB_len, HPL.out]; omega)
      rw [e54] at HI
      rw [e92] at HO
      have HMB1 := kept (HMB.out.below0 HB1.out)
      have HR1 := kept (HRL.out.below HB1.out HRL.out.lt)
      have HB1w := kept (HBL.out.trans (HB1.out.mono HBL.out.size))
      have hwl : w.heap.size < WL.heap.size := HRL.out.lt
      have hh : digest (xorB 92 P ++ digest (xorB 54 P ++ b)) = hmac k b := by rw [← HP.out]; rfl
      have hml : (xorB 54 P ++ b).length ≤ 140737488355200 := by rw [List.length_append, xorB_len, HPL.out]; omega
      obtain ⟨M, hM⟩ : ∃ M, xorB 54 P ++ b = M := ⟨_, rfl⟩
      rw [hM] at hh hml
      obtain ⟨D, hD⟩ : ∃ D, digest M = D := ⟨_, rfl⟩
      have hDl : D.length = 32 := by rw [← hD, dig_len]
      rw [hD] at hh
      have hnl : (xorB 92 P ++ D).length ≤ 140737488355200 := by rw [List.length_append, xorB_len, HPL.out]; omega
      obtain ⟨N, hN⟩ : ∃ N, xorB 92 P ++ D = N := ⟨_, rfl⟩
      rw [hN] at hh hnl
      obtain ⟨E, hE⟩ : ∃ E, digest N = E := ⟨_, rfl⟩
      have hEl : E.length = 32 := by rw [← hE, dig_len]
      rw [hE] at hh
      have HRS1 := kept (fun (w' : World) (q' : Nat) (A' : Option Addr) (c' : Nat) (hm : Mem w' q' A' M) => rsum_any w' q' A' M.length c' M rfl hm hml)
      have HRS2 := kept (fun (w' : World) (q' : Nat) (A' : Option Addr) (c' : Nat) (hm : Mem w' q' A' N) => rsum_any w' q' A' N.length c' N rfl hm hnl)
      rw [hD] at HRS1
      rw [hE] at HRS2
      have HMM := kept hM
      have HNN := kept hN
      have HDL := kept hDl
      have HEL := kept hEl
      have HH := kept hh
      have HBX := kept (fun (w : World) => Blk.new w 36 (Array.replicate 32 (.int .u8 0)))
      clear e54 e92 hh hml hM hD hDl hnl hN hE hEl
      go_upto_region 16 with (first | (at_builtin; refine wpList_append_bytes2 rfl (.tmp 43) (.tmp 44) 24 rfl WL.heap.size i0 Tryd.underlying24 hi0 hz0 hs0 hbb0 u7 (xorB 54 P) rfl HI.out q2 A2 b.length c2 b rfl rfl HMB1.out (by rw [xorB_len, HPL.out]; omega) HB1.out.size ?_; intro v1 W2 ho1 hg1 ha1; rw [HMM.out] at ho1; obtain ⟨A5, q5, c5, rfl, _, _, hm5, _⟩ := ho1.form; have HM5 := kept hm5; have HG1 := kept hg1; clear hg1 ha1 ho1 hm5) | (go_at_call 31; refine (HRS1.out _ _ _ _ HM5.out).mono ?_; rintro e W3 ⟨rfl, hb3⟩; have HB3 := kept hb3; clear hb3) | (refine wpList_store_row rfl 36 _ _ rfl W3.heap.size (D.map bv).toArray rfl rfl 36 (Array.replicate 32 (.int .u8 0)) (HBX.out W3) (by rw [b32_size]; simp [HDL.out]) (by simp [HDL.out]) (padded_one D) ?_))
      go_name_world W4 hW4
      have hb24 : Below W2.heap.size W2 W4 := by rw [← hW4]; exact below_setRow (HB3.out.alloc HB3.out.size _) HB3.out.size _
      have HD4 := kept (show Blk W4 W3.heap.size 36 (D.map bv).toArray by rw [← hW4]; exact setRow_heap _ _ _ _ _ _ (HBX.out W3))
      have hu7 : ∀ kk, u7.ownBlock = some kk → WL.heap.size ≤ kk := fun kk hk => (World.ownsRow.lt HI.out kk hk).1
      have HO4 := kept ((HO.out.apart HG1.out HAP.out.symm).below hb24)
      have HR4 := kept ((HR1.out.grown HG1.out (fun e => by have := hu7 _ e.symm; omega)).below hb24 (by have := HG1.out.size; have := HB1.out.size; omega))
      have hb12 : Below w.heap.size w W2 := HB1w.out.grown HG1.out HB1w.out.size (fun kk hk => by have := hu7 kk hk; omega)
      have HB4 := kept (hb12.trans (hb24.mono hb12.size))
      have HWL4 := kept (show WL.heap.size ≤ W4.heap.size by have := HG1.out.size; have := hb24.size; have := HB1.out.size; omega)
      clear hW4 hb24 hu7 hb12 HO HI HG1 HAP HR1 HB1w HM5 HMB1
      obtain ⟨gD, hgD⟩ : ∃ g, W3.heap.size = g := ⟨_, rfl⟩
      rw [hgD] at HD4
      rw [hgD]
      clear HB3 hgD
      go_wp2_with (first | (at_builtin; refine wpList_append_bytes2 rfl (.tmp 47) (.tmp 48) 24 rfl WL.heap.size i0 Tryd.underlying24 hi0 hz0 hs0 hbb0 u8 (xorB 92 P) rfl HO4.out gD (some ⟨gD, 0, none⟩) 32 32 D rfl HDL.out.symm (mem_blk2 HD4.out) (by rw [xorB_len, HPL.out, HDL.out]; omega) HWL4.out ?_; intro v2 W5 ho2 hg2 ha2; rw [HNN.out] at ho2; obtain ⟨A6, q6, c6, rfl, _, _, hm6, _⟩ := ho2.form; have HM6 := kept hm6; have HG2 := kept hg2; clear hg2 ha2 ho2 hm6) | (go_at_call 31; refine (HRS2.out _ _ _ _ HM6.out).mono ?_; rintro e W6 ⟨rfl, hb6⟩; have HB6 := kept hb6; clear hb6; have hu8 : ∀ kk, u8.ownBlock = some kk → WL.heap.size ≤ kk := fun kk hk => (World.ownsRow.lt HO4.out kk hk).1; have HR6 := kept ((HR4.out.grown HG2.out (fun e => by (have := hu8 _ e.symm; omega))).below HB6.out (by (have := HG2.out.size; have := HR4.out.lt; omega))); have HB56 := kept (HB4.out.grown HG2.out HB4.out.size (fun kk hk => by (have := hu8 kk hk; omega))); have HB7 := kept (HB56.out.trans (HB6.out.mono HB56.out.size)); clear hu8) | (refine wpList_store_row rfl 36 _ _ rfl w.heap.size (E.map bv).toArray rfl rfl 36 (Array.replicate 32 (.int .u8 0)) HR6.out (by rw [b32_size]; simp [HEL.out]) (by simp [HEL.out]) (padded_one E) ?_))
      exact bodyPost_ret (v := .agg (E.map bv).toArray) (results_cell_row Tryd.results21 _ _ w.heap.size 36 (E.map bv).toArray (0, 0) _ rfl (setRow_heap _ _ _ _ _ _ HR6.out) Tryd.underlying36 rfl (by rw [b32_size]; simp [HEL.out])) rfl ⟨by rw [HH.out], below_setRow HB7.out (Nat.le_refl _) _⟩
set_option maxHeartbeats 16000000 in
set_option maxRecDepth 100000 in
theorem rmac_long (w : World) (q1 q2 : Nat) (A1 A2 : Option Addr) (n1 n2 c1 c2 : Nat) (k b : List UInt8) (hn1 : n1 = k.length) (hm1 : Mem w q1 A1 k) (hk : 64 < k.length) (hn2 : n2 = b.length) (hm2 : Mem w q2 A2 b) (hbl : b.length ≤ 140737488355000) (hkl : k.length ≤ 140737488355000) :
    Calls Tryd.prog 21 #[.slice A1 n1 c1, .slice A2 n2 c2] w fun e w' => e = .returned (.agg ((hmac k b).map bv).toArray) ∧ Below w.heap.size w w' := by
  subst hn1
  subst hn2
  obtain ⟨i0, hi0, hz0, hs0, hbb0⟩ := info_parts u8_info
  have HM1 := kept hm1
  have HM2 := kept hm2
  have hpl := padK_len k
  obtain ⟨P, hP⟩ : ∃ P, padK k = P := ⟨_, rfl⟩
  rw [hP] at hpl
  have HP := kept hP
  have HPL := kept hpl
  clear hm1 hm2 hP hpl
  go_enter Tryd.func21, Tryd.ntmps21
  go_upto_region 1 with fail
  go_name_world W0 hW0
  have HR0 := kept (show Blk W0 w.heap.size 36 (Array.replicate 32 (.int .u8 0)) by rw [← hW0]; exact Blk.new w _ _)
  have HB0 := kept (show Below w.heap.size w W0 by rw [← hW0]; exact (Below.refl _ w).alloc (Nat.le_refl _) _)
  have hsz0 : w.heap.size < W0.heap.size := HR0.out.lt
  clear hW0
  have HOE := kept (show Own (W0.alloc (.cells #[] 5)) (w.heap.size + 1) (.slice (some ⟨W0.heap.size, 0, none⟩) 0 0) [] from own_of_blk (l := []) (Blk.new W0 _ _) (by omega) (by simp))
  have HMA := kept ((HM1.out.below0 HB0.out).alloc (.cells #[] 5))
  obtain ⟨ks, hks⟩ : ∃ D, digest k = D := ⟨_, rfl⟩
  have hksl : ks.length = 32 := by rw [← hks, dig_len]
  have HKS := kept (show keyS k = ks by unfold keyS; rw [if_pos hk, hks])
  have HKL := kept hksl
  have HRSK := kept (fun (w' : World) (q' : Nat) (A' : Option Addr) (c' : Nat) (hm : Mem w' q' A' k) => rsum_any w' q' A' k.length c' k rfl hm (by omega))
  rw [hks] at HRSK
  have HBX0 := kept (fun (w : World) => Blk.new w 36 (Array.replicate 32 (.int .u8 0)))
  have hd : decide ((64 : Int) < (k.length : Int)) = true := by simp; omega
  clear hks hksl
  go_upto_region 2 with (at_builtin; refine wpList_append_bytes rfl (.tmp 12) (.tmp 13) 24 rfl (w.heap.size + 1) i0 Tryd.underlying24 hi0 hz0 hs0 hbb0 (.slice (some ⟨W0.heap.size, 0, none⟩) 0 0) [] rfl HOE.out q1 A1 k.length c1 k rfl rfl HMA.out (by simp; omega) (by simp; omega) ?_; intro vk WK hownk hgk; rw [List.nil_append] at hownk; obtain ⟨Ak0, qk0, ck0, rfl, _, _, hmk, _⟩ := hownk.form)
  have hbw : Below w.heap.size w WK := (HB0.out.alloc HB0.out.size (.cells #[] 5)).grown hgk (by simp; omega) (fun k hk => by simp [Value.ownBlock] at hk; omega)
  have HRK := kept ((HR0.out.alloc (.cells #[] 5)).grown hgk (by simp [Value.ownBlock]; omega))
  have HBK := kept hbw
  have HMK0 := kept hmk
  clear hownk hgk hbw hmk HOE HMA
  go_upto_region 5 with (first | (go_at_call 31; refine (HRSK.out _ _ _ _ HMK0.out).mono ?_; rintro e WS ⟨rfl, hbS⟩; have HBS := kept hbS; clear hbS) | (refine wpList_store_row rfl 36 _ _ rfl WS.heap.size (ks.map bv).toArray rfl rfl 36 (Array.replicate 32 (.int .u8 0)) (HBX0.out WS) (by rw [b32_size]; simp [HKL.out]) (by simp [HKL.out]) (padded_one ks) ?_))
  go_name_world WL hWL
  have hbKL : Below WK.heap.size WK WL := by rw [← hWL]; exact below_setRow (HBS.out.alloc HBS.out.size _) HBS.out.size _
  have HMK := kept (show Mem WL WS.heap.size (some ⟨WS.heap.size, 0, none⟩) ks from mem_blk2 (by rw [← hWL]; exact setRow_heap _ _ _ _ _ _ (HBX0.out WS)))
  have HRL := kept (HRK.out.below hbKL HRK.out.lt)
  have HBL := kept (HBK.out.trans (hbKL.mono HBK.out.size))
  have HMB := kept (HM2.out.below0 HBL.out)
  clear hbKL hWL HMK0 HRK HBK
  obtain ⟨gk, hgk⟩ : ∃ g, WS.heap.size = g := ⟨_, rfl⟩
  rw [hgk] at HMK
  rw [hgk]
  clear hgk HBS
  go_wp2_with fail
  go_loopw [7, 8, 9] (fun vi vo i wr => ∃ j : Nat, j ≤ 64 ∧ i = .int .i64 j ∧ Kept (Own wr WL.heap.size vi ((xorB 54 P).take j)) ∧ Kept (Own wr WL.heap.size vo ((xorB 92 P).take j)) ∧ Kept (Apart vi vo) ∧ Kept (Below WL.heap.size WL wr)) (fun _ _ i _ => 64 - (intOf i).toNat)
  case atStart => exact ⟨0, Nat.zero_le _, rfl, kept (by rw [List.take_zero]; exact Own.nil_ _ _), kept (by rw [List.take_zero]; exact Own.nil_ _ _), kept (apart_nil _), kept (Below.refl _ _)⟩
  case round =>
    rename World => W1
    obtain ⟨j, hj, rfl, HI, HO, HAP, HB1⟩ := hrel
    by_cases h64 : j < 64
    · have t54 : ((xorB 54 P).take j).length = j := by rw [List.length_take, xorB_len, HPL.out]; omega
      have t92 : ((xorB 92 P).take j).length = j := by rw [List.length_take, xorB_len, HPL.out]; omega
      have T54 := kept t54
      have T92 := kept t92
      clear t54 t92
      have hks32 : ks.length = 32 := HKL.out
      by_cases hlt : j < ks.length
      · obtain ⟨x, hx⟩ : ∃ x, (ks[j]'hlt) = x := ⟨_, rfl⟩
        obtain ⟨oA, hoA, hcell⟩ := (HMK.out.below0 HB1.out).at_ hlt
        injection hoA with hoA
        injection hoA with _ hoA _
        subst hoA
        rw [Nat.zero_add] at hcell
        rw [hx] at hcell
        have hpx : P.getD j 0 = x := by rw [← HP.out, padK_at k j (by rw [HKS.out]; exact hlt)]; simp only [HKS.out]; exact hx
        have HX54 := kept (xorB_take 54 P j (by rw [HPL.out]; exact h64))
        have HX92 := kept (xorB_take 92 P j (by rw [HPL.out]; exact h64))
        rw [hpx] at HX54 HX92
        have x54 : bits .xor .u8 (x.toNat : Int) 54 = ((xr x 54).toNat : Int) := x8 x 54
        have x92 : bits .xor .u8 (x.toNat : Int) 92 = ((xr x 92).toNat : Int) := x8 x 92
        have hj0 : (0 : Int) ≤ (j : Int) := by omega
        have hj1 : (j : Int) < 32 := by omega
        have HM1 := kept (mem_lit1 (w := W1) (b := xr x 54) rfl)
        have HI2 := kept (HI.out.alloc (.cells #[.int .u8 ((xr x 54).toNat : Int)] 5))
        have HO2 := kept (HO.out.alloc (.cells #[.int .u8 ((xr x 54).toNat : Int)] 5))
        have HBA := kept (HB1.out.alloc HB1.out.size (.cells #[.int .u8 ((xr x 54).toNat : Int)] 5))
        clear hx hpx hks32
        go_upto_region 14 with (at_builtin; refine wpList_append_bytes2 rfl (.tmp 33) (.tmp 36) 24 rfl WL.heap.size i0 Tryd.underlying24 hi0 hz0 hs0 hbb0 u7 ((xorB 54 P).take j) rfl HI2.out W1.heap.size _ 1 1 [xr x 54] rfl rfl HM1.out (by rw [T54.out]; simp; omega) HBA.out.size ?_; intro v1 W2 ho1 hg1 ha1)
        have hbw2 : Below WL.heap.size WL W2 := HBA.out.grown hg1 HBA.out.size (fun k hk => (World.ownsRow.lt HI2.out k hk).1)
        have HI3 := kept ho1
        have HO3 := kept (HO2.out.apart hg1 HAP.out.symm)
        have HAP3 := kept (apart_new HAP.out HO2.out ha1)
        have HBW2 := kept hbw2
        clear ho1 hg1 ha1 hbw2
        have HO4 := kept (HO3.out.alloc (.cells #[.int .u8 ((xr x 92).toNat : Int)] 5))
        have HI4 := kept (HI3.out.alloc (.cells #[.int .u8 ((xr x 92).toNat : Int)] 5))
        have HBB := kept (HBW2.out.alloc HBW2.out.size (.cells #[.int .u8 ((xr x 92).toNat : Int)] 5))
        have HM2 := kept (mem_lit1 (w := W2) (b := xr x 92) rfl)
        go_wp2_with (at_builtin; refine wpList_append_bytes2 rfl (.tmp 38) (.tmp 41) 24 rfl WL.heap.size i0 Tryd.underlying24 hi0 hz0 hs0 hbb0 u8 ((xorB 92 P).take j) rfl HO4.out W2.heap.size _ 1 1 [xr x 92] rfl rfl HM2.out (by rw [T92.out]; simp; omega) HBB.out.size ?_; intro v2 W3 ho2 hg2 ha2)
        have hbw3 : Below WL.heap.size WL W3 := HBB.out.grown hg2 HBB.out.size (fun k hk => (World.ownsRow.lt HO4.out k hk).1)
        have HI5 := kept (HI4.out.apart hg2 HAP3.out)
        have HAP5 := kept (apart_new HAP3.out.symm HI4.out ha2).symm
        have HO5 := kept ho2
        have HBW3 := kept hbw3
        clear ho2 hg2 ha2 hbw3
        go_wp2
        go_roundw
        case rel => exact ⟨j + 1, by omega, by go_num, kept (by rw [HX54.out]; exact HI5.out), kept (by rw [HX92.out]; exact HO5.out), HAP5, HBW3⟩
        case measure => simp [intOf]; omega
      · have hpx : P.getD j 0 = 0 := by rw [← HP.out]; exact padK_zero k j (by rw [HKS.out]; exact hlt) h64
        have HX54 := kept (xorB_take 54 P j (by rw [HPL.out]; exact h64))
        have HX92 := kept (xorB_take 92 P j (by rw [HPL.out]; exact h64))
        rw [hpx] at HX54 HX92
        have x54 : bits .xor .u8 0 54 = 54 := x8 0 54
        have x92 : bits .xor .u8 0 92 = 92 := x8 0 92
        have hj1 : ¬ ((j : Int) < 32) := by omega
        have HM1 := kept (show Mem (W1.alloc (.cells #[.int .u8 54] 5)) W1.heap.size (some ⟨W1.heap.size, 0, none⟩) [xr 0 54] from mem_lit1 (w := W1) (b := xr 0 54) rfl)
        have HI2 := kept (HI.out.alloc (.cells #[.int .u8 54] 5))
        have HO2 := kept (HO.out.alloc (.cells #[.int .u8 54] 5))
        have HBA := kept (HB1.out.alloc HB1.out.size (.cells #[.int .u8 54] 5))
        clear hpx hks32
        go_upto_region 14 with (at_builtin; refine wpList_append_bytes2 rfl (.tmp 33) (.tmp 36) 24 rfl WL.heap.size i0 Tryd.underlying24 hi0 hz0 hs0 hbb0 u7 ((xorB 54 P).take j) rfl HI2.out W1.heap.size _ 1 1 [xr 0 54] rfl rfl HM1.out (by rw [T54.out]; simp; omega) HBA.out.size ?_; intro v1 W2 ho1 hg1 ha1)
        have hbw2 : Below WL.heap.size WL W2 := HBA.out.grown hg1 HBA.out.size (fun k hk => (World.ownsRow.lt HI2.out k hk).1)
        have HI3 := kept ho1
        have HO3 := kept (HO2.out.apart hg1 HAP.out.symm)
        have HAP3 := kept (apart_new HAP.out HO2.out ha1)
        have HBW2 := kept hbw2
        clear ho1 hg1 ha1 hbw2
        have HO4 := kept (HO3.out.alloc (.cells #[.int .u8 (92 : Int)] 5))
        have HI4 := kept (HI3.out.alloc (.cells #[.int .u8 (92 : Int)] 5))
        have HBB := kept (HBW2.out.alloc HBW2.out.size (.cells #[.int .u8 (92 : Int)] 5))
        have HM2 := kept (mem_lit1 (w := W2) (b := xr 0 92) rfl)
        go_wp2_with (at_builtin; refine wpList_append_bytes2 rfl (.tmp 38) (.tmp 41) 24 rfl WL.heap.size i0 Tryd.underlying24 hi0 hz0 hs0 hbb0 u8 ((xorB 92 P).take j) rfl HO4.out W2.heap.size _ 1 1 [xr 0 92] rfl rfl HM2.out (by rw [T92.out]; simp; omega) HBB.out.size ?_; intro v2 W3 ho2 hg2 ha2)
        have hbw3 : Below WL.heap.size WL W3 := HBB.out.grown hg2 HBB.out.size (fun k hk => (World.ownsRow.lt HO4.out k hk).1)
        have HI5 := kept (HI4.out.apart hg2 HAP3.out)
        have HAP5 := kept (apart_new HAP3.out.symm HI4.out ha2).symm
        have HO5 := kept ho2
        have HBW3 := kept hbw3
        clear ho2 hg2 ha2 hbw3
        go_wp2
        go_roundw
        case rel => exact ⟨j + 1, by omega, by go_num, kept (by rw [HX54.out]; exact HI5.out), kept (by rw [HX92.out]; exact HO5.out), HAP5, HBW3⟩
        case measure => simp [intOf]; omega
    · obtain rfl : j = 64 := by omega
      have e54 : (xorB 54 P).take 64 = xorB 54 P := List.take_of_length_le (by rw [xorB_len, HPL.out]; omega)
      have e92 : (xorB 92 P).take 64 = xorB 92 P := List.take_of_length_le (by rw [xorB_len, HPL.out]; omega)
      rw [e54] at HI
      rw [e92] at HO
      have HMB1 := kept (HMB.out.below0 HB1.out)
      have HR1 := kept (HRL.out.below HB1.out HRL.out.lt)
      have HB1w := kept (HBL.out.trans (HB1.out.mono HBL.out.size))
      have hwl : w.heap.size < WL.heap.size := HRL.out.lt
      have hh : digest (xorB 92 P ++ digest (xorB 54 P ++ b)) = hmac k b := by rw [← HP.out]; rfl
      have hml : (xorB 54 P ++ b).length ≤ 140737488355200 := by rw [List.length_append, xorB_len, HPL.out]; omega
      obtain ⟨M, hM⟩ : ∃ M, xorB 54 P ++ b = M := ⟨_, rfl⟩
      rw [hM] at hh hml
      obtain ⟨D, hD⟩ : ∃ D, digest M = D := ⟨_, rfl⟩
      have hDl : D.length = 32 := by rw [← hD, dig_len]
      rw [hD] at hh
      have hnl : (xorB 92 P ++ D).length ≤ 140737488355200 := by rw [List.length_append, xorB_len, HPL.out]; omega
      obtain ⟨N, hN⟩ : ∃ N, xorB 92 P ++ D = N := ⟨_, rfl⟩
      rw [hN] at hh hnl
      obtain ⟨E, hE⟩ : ∃ E, digest N = E := ⟨_, rfl⟩
      have hEl : E.length = 32 := by rw [← hE, dig_len]
      rw [hE] at hh
      have HRS1 := kept (fun (w' : World) (q' : Nat) (A' : Option Addr) (c' : Nat) (hm : Mem w' q' A' M) => rsum_any w' q' A' M.length c' M rfl hm hml)
      have HRS2 := kept (fun (w' : World) (q' : Nat) (A' : Option Addr) (c' : Nat) (hm : Mem w' q' A' N) => rsum_any w' q' A' N.length c' N rfl hm hnl)
      rw [hD] at HRS1
      rw [hE] at HRS2
      have HMM := kept hM
      have HNN := kept hN
      have HDL := kept hDl
      have HEL := kept hEl
      have HH := kept hh
      have HBX := kept (fun (w : World) => Blk.new w 36 (Array.replicate 32 (.int .u8 0)))
      clear e54 e92 hh hml hM hD hDl hnl hN hE hEl
      go_upto_region 16 with (first | (at_builtin; refine wpList_append_bytes2 rfl (.tmp 43) (.tmp 44) 24 rfl WL.heap.size i0 Tryd.underlying24 hi0 hz0 hs0 hbb0 u7 (xorB 54 P) rfl HI.out q2 A2 b.length c2 b rfl rfl HMB1.out (by rw [xorB_len, HPL.out]; omega) HB1.out.size ?_; intro v1 W2 ho1 hg1 ha1; rw [HMM.out] at ho1; obtain ⟨A5, q5, c5, rfl, _, _, hm5, _⟩ := ho1.form; have HM5 := kept hm5; have HG1 := kept hg1; clear hg1 ha1 ho1 hm5) | (go_at_call 31; refine (HRS1.out _ _ _ _ HM5.out).mono ?_; rintro e W3 ⟨rfl, hb3⟩; have HB3 := kept hb3; clear hb3) | (refine wpList_store_row rfl 36 _ _ rfl W3.heap.size (D.map bv).toArray rfl rfl 36 (Array.replicate 32 (.int .u8 0)) (HBX.out W3) (by rw [b32_size]; simp [HDL.out]) (by simp [HDL.out]) (padded_one D) ?_))
      go_name_world W4 hW4
      have hb24 : Below W2.heap.size W2 W4 := by rw [← hW4]; exact below_setRow (HB3.out.alloc HB3.out.size _) HB3.out.size _
      have HD4 := kept (show Blk W4 W3.heap.size 36 (D.map bv).toArray by rw [← hW4]; exact setRow_heap _ _ _ _ _ _ (HBX.out W3))
      have hu7 : ∀ kk, u7.ownBlock = some kk → WL.heap.size ≤ kk := fun kk hk => (World.ownsRow.lt HI.out kk hk).1
      have HO4 := kept ((HO.out.apart HG1.out HAP.out.symm).below hb24)
      have HR4 := kept ((HR1.out.grown HG1.out (fun e => by have := hu7 _ e.symm; omega)).below hb24 (by have := HG1.out.size; have := HB1.out.size; omega))
      have hb12 : Below w.heap.size w W2 := HB1w.out.grown HG1.out HB1w.out.size (fun kk hk => by have := hu7 kk hk; omega)
      have HB4 := kept (hb12.trans (hb24.mono hb12.size))
      have HWL4 := kept (show WL.heap.size ≤ W4.heap.size by have := HG1.out.size; have := hb24.size; have := HB1.out.size; omega)
      clear hW4 hb24 hu7 hb12 HO HI HG1 HAP HR1 HB1w HM5 HMB1
      obtain ⟨gD, hgD⟩ : ∃ g, W3.heap.size = g := ⟨_, rfl⟩
      rw [hgD] at HD4
      rw [hgD]
      clear HB3 hgD
      go_wp2_with (first | (at_builtin; refine wpList_append_bytes2 rfl (.tmp 47) (.tmp 48) 24 rfl WL.heap.size i0 Tryd.underlying24 hi0 hz0 hs0 hbb0 u8 (xorB 92 P) rfl HO4.out gD (some ⟨gD, 0, none⟩) 32 32 D rfl HDL.out.symm (mem_blk2 HD4.out) (by rw [xorB_len, HPL.out, HDL.out]; omega) HWL4.out ?_; intro v2 W5 ho2 hg2 ha2; rw [HNN.out] at ho2; obtain ⟨A6, q6, c6, rfl, _, _, hm6, _⟩ := ho2.form; have HM6 := kept hm6; have HG2 := kept hg2; clear hg2 ha2 ho2 hm6) | (go_at_call 31; refine (HRS2.out _ _ _ _ HM6.out).mono ?_; rintro e W6 ⟨rfl, hb6⟩; have HB6 := kept hb6; clear hb6; have hu8 : ∀ kk, u8.ownBlock = some kk → WL.heap.size ≤ kk := fun kk hk => (World.ownsRow.lt HO4.out kk hk).1; have HR6 := kept ((HR4.out.grown HG2.out (fun e => by (have := hu8 _ e.symm; omega))).below HB6.out (by (have := HG2.out.size; have := HR4.out.lt; omega))); have HB56 := kept (HB4.out.grown HG2.out HB4.out.size (fun kk hk => by (have := hu8 kk hk; omega))); have HB7 := kept (HB56.out.trans (HB6.out.mono HB56.out.size)); clear hu8) | (refine wpList_store_row rfl 36 _ _ rfl w.heap.size (E.map bv).toArray rfl rfl 36 (Array.replicate 32 (.int .u8 0)) HR6.out (by rw [b32_size]; simp [HEL.out]) (by simp [HEL.out]) (padded_one E) ?_))
      exact bodyPost_ret (v := .agg (E.map bv).toArray) (results_cell_row Tryd.results21 _ _ w.heap.size 36 (E.map bv).toArray (0, 0) _ rfl (setRow_heap _ _ _ _ _ _ HR6.out) Tryd.underlying36 rfl (by rw [b32_size]; simp [HEL.out])) rfl ⟨by rw [HH.out], below_setRow HB7.out (Nat.le_refl _) _⟩
/-- The reference's Sum, of any key and any bytes. -/
theorem rmac_any (w : World) (q1 q2 : Nat) (A1 A2 : Option Addr) (n1 n2 c1 c2 : Nat) (k b : List UInt8) (hn1 : n1 = k.length) (hm1 : Mem w q1 A1 k) (hk : k.length ≤ 140737488355000) (hn2 : n2 = b.length) (hm2 : Mem w q2 A2 b) (hbl : b.length ≤ 140737488355000) :
    Calls Tryd.prog 21 #[.slice A1 n1 c1, .slice A2 n2 c2] w fun e w' => e = .returned (.agg ((hmac k b).map bv).toArray) ∧ Below w.heap.size w w' := by
  by_cases h : k.length ≤ 64
  · exact rmac_short w q1 q2 A1 A2 n1 n2 c1 c2 k b hn1 hm1 h hn2 hm2 hbl
  · exact rmac_long w q1 q2 A1 A2 n1 n2 c1 c2 k b hn1 hm1 (by omega) hn2 hm2 hbl hk
end Go.Proofs.YtcjbplgjjhenkaaDoor
