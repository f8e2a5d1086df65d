/-
  The reference's Bytes of package name, by a contract.
-/
import Derived.Test.YtnejidaplbonoaaNameBy
import Derived.Test.YtnejidaplbonoaaNameV
import Derived.Test.YtnejidaplbonoaaStrs
import Derived.Test.YtnejidaplbonoaaStrB
import Derived.Deep.Cut
import Derived.OrdersHeld
import Derived.Deep.RegionHeld
namespace Go.Proofs.Ytnejidaplbonoaa
open Go.RowKit
set_option linter.unusedVariables false
set_option linter.unusedSimpArgs false

theorem step_append_str {P : Program} {w : World} {ops : Array Oper} {o : Oper} {a : Act} {K : Act → World → Prop} {Q : Exit → Act → World → Prop} {E : Prop} (hgd : o.guard = none) (x y : Operand) (t u : TypeId)
    (ho : o.op = .call { callee := .builtin .append, args := #[x, y], argTypes := #[t, u] })
    (B : Nat) (i : TypeInfo) (ht : P.underlying t = some (.slice 5)) (hu : P.underlying u = some .string) (hi : P.info? 5 = some i) (hz : i.zero = some (.int .u8 0)) (hsz : i.size = 1) (hb : i.bytes = 1)
    (v : Value) (l : List UInt8) (hx : a.eval x = v) (hown : Own w B v l) (s : ByteArray) (hy : a.eval y = .string s) (hlen : l.length + s.data.toList.length ≤ 140737488355328) (hB : B ≤ w.heap.size)
    (h : ∀ v' w', Own w' B v' (l ++ s.data.toList) → w.grownBy w' v.ownBlock → K (a.put o.dst v') w') :
    if Region.wanted o (yielded ops a.tmps) = true then Oper.wp P o a w K Q else E := by
  have hw : Region.wanted o (yielded ops a.tmps) = true := by simp [Region.wanted, hgd]
  rw [if_pos hw]
  obtain ⟨v', w', hrun, h2, h3⟩ := run_append_str (P := P) w B t u o.type i ht hu hi hz hsz hb v l hown s hlen hB
  unfold Oper.wp execOp
  simp only [ho, resolve, invoke, builtin, Sem.run_bind, Sem.run_pure, Result.andThen_ok, List.map_toArray, List.map_cons, List.map_nil, hx, hy, hrun]
  exact h v' w' h2 h3
theorem byte_of (n : Nat) (h : n ≤ 255) : (n : Int) = ((UInt8.ofNat n).toNat : Int) := by
  rw [UInt8.toNat_ofNat']
  omega
theorem bytes_part (L : List ByteArray) (k : Nat) (h : k < L.length) : (L.take (k + 1)).flatMap lenL = (L.take k).flatMap lenL ++ lenL L[k] := by
  rw [List.take_succ_eq_append_getElem h, List.flatMap_append, List.flatMap_cons, List.flatMap_nil, List.append_nil]
theorem bytes_len (L : List ByteArray) (h : ∀ s ∈ L, s.size ≤ 100) : (L.flatMap lenL).length ≤ 101 * L.length := by
  induction L with
  | nil => simp
  | cons s L ih =>
    have h1 := ih fun t ht => h t (List.mem_cons_of_mem _ ht)
    have h2 := h s List.mem_cons_self
    have h3 : (lenL s).length = s.size + 1 := by unfold lenL; simp
    rw [List.flatMap_cons, List.length_append, List.length_cons]
    omega
set_option maxHeartbeats 4000000 in
set_option maxRecDepth 100000 in
theorem rebytes_any (w : World) (R : ByteArray) (L : List ByteArray) (q : Nat) (A : Option Addr) (c : Nat) (hN : isN (R, L) = true) (hm : MemS w q A L) :
    Calls Try.prog 18 #[.agg #[.string R, .slice A L.length c]] w fun e w' => ∃ v, e = .returned v ∧ Own w' w.heap.size v (bytesN (R, L)) ∧ Below w.heap.size w w' := by
  obtain ⟨hp, hr, h1, h8⟩ := isN_parts hN
  have HM := kept hm
  have HS := kept (show ∀ s ∈ L, s.size ≤ 100 from fun s hs => (isW_size (hp s hs)).2)
  have hrs := (isW_size hr).2
  have HB1 := kept (byte_of R.size (by omega))
  have HB2 := kept (byte_of L.length (by omega))
  have hrl : R.data.toList.length = R.size := by simp
  obtain ⟨i0, hi0, hz0, hs0, hbb0⟩ := info_parts u8_info
  clear hm hN hp hr
  go_enter Try.func18, Try.ntmps18
  go_upto_region 1 with (fail)
  go_name_world W0 hW0
  have HB := kept (show Blk W0 w.heap.size 24 #[.string R, .slice A L.length c] by rw [← hW0]; exact Blk.new w _ _)
  have HW := kept (show Below w.heap.size w W0 by rw [← hW0]; exact (Below.refl _ w).alloc (Nat.le_refl _) _)
  have HMQ := kept (show ¬ W0.heap.size ≤ q from fun h => by
    have := HM.out.lt (fun e => by rw [e] at h1; simp at h1)
    have := HW.out.size
    omega)
  replace HM := kept (HM.out.below0 HW.out)
  clear hW0
  have hc0 : W0.cell? ⟨w.heap.size, 0, none⟩ = some (.string R) := by rw [HB.out.cell]; rfl
  have hg0 : w.heap.size < W0.heap.size := HB.out.lt
  have ho1 := kept (show Own (W0.alloc (.cells #[.int .u8 ((UInt8.ofNat R.size).toNat : Int)] 5)) W0.heap.size (.slice (some ⟨W0.heap.size, 0, none⟩) 1 1) [UInt8.ofNat R.size] from own_of_blk (l := [UInt8.ofNat R.size]) (Blk.new W0 _ _) (Nat.le_refl _) (by simp))
  rw [← HB1.out] at ho1
  go_upto_region 2 with (at_builtin; refine wpList_append_str rfl (.tmp 9) (.tmp 11) 28 9 rfl W0.heap.size i0 Try.underlying28 Try.underlying9 hi0 hz0 hs0 hbb0 (.slice (some ⟨W0.heap.size, 0, none⟩) 1 1) [UInt8.ofNat R.size] rfl ho1.out R rfl (by simp; omega) (by simp) ?_; intro v1 W1 hv1 hk1)
  have k1 : Below W0.heap.size W0 W1 := ((Below.refl _ W0).alloc (Nat.le_refl _) _).grown hk1 (by simp) (fun k hk => by cases hk; exact Nat.le_refl _)
  have HO := kept (show Own W1 W0.heap.size v1 (lenL R) from hv1)
  replace HB := kept (HB.out.below k1 HB.out.lt)
  replace HM := kept (HM.out.below0 k1)
  have HWW := kept (below_next HW.out k1)
  have hs1 := k1.size
  have hc1 : W1.cell? ⟨w.heap.size, 1, none⟩ = some (.slice A L.length c) := by rw [HB.out.cell]; rfl
  have hll : (lenL R).length = R.size + 1 := by unfold lenL; simp
  have hv1' : ∀ k, v1.ownBlock = some k → W0.heap.size ≤ k := fun k hk => (World.ownsRow.lt HO.out k hk).1
  have HX := kept (show Own (W1.alloc (.cells #[.int .u8 ((UInt8.ofNat L.length).toNat : Int)] 5)) W0.heap.size v1 (lenL R) ∧ Mem (W1.alloc (.cells #[.int .u8 ((UInt8.ofNat L.length).toNat : Int)] 5)) W1.heap.size (some ⟨W1.heap.size, 0, none⟩) [UInt8.ofNat L.length] ∧ Below W1.heap.size W1 (W1.alloc (.cells #[.int .u8 ((UInt8.ofNat L.length).toNat : Int)] 5)) from ⟨World.ownsRow.alloc HO.out _, mem_lit (l := [UInt8.ofNat L.length]) rfl, (Below.refl _ W1).alloc (Nat.le_refl _) _⟩)
  rw [← HB2.out] at HX
  clear HB1 ho1 hv1 hk1 hc0 k1
  go_upto_region 3 with (at_builtin; refine wpList_append_bytes rfl (.tmp 13) (.tmp 18) 28 rfl W0.heap.size i0 Try.underlying28 hi0 hz0 hs0 hbb0 v1 (lenL R) rfl HX.out.1 W1.heap.size (some ⟨W1.heap.size, 0, none⟩) 1 1 [UInt8.ofNat L.length] rfl rfl HX.out.2.1 (by rw [hll]; simp; omega) (by simp; omega) ?_; intro v2 W2 hv2 hk2)
  have hk2' : W1.grownBy W2 v1.ownBlock := (World.grownBy_alloc W1 _ _).trans hk2
  have HBG := kept (HB.out.grown hk2' (fun e => by have := hv1' _ e.symm; omega))
  have HMG := kept (show MemS W2 q A L from HM.out.keep fun hq => hk2'.block q hq (fun e => HMQ.out (by have := hv1' _ e.symm; omega)))
  have HW2 := kept (HWW.out.grown hk2' HWW.out.size (fun k hk => by have := hv1' k hk; have := HW.out.size; omega))
  have hs2 := hk2'.size
  have hown := kept (show Own W2 W0.heap.size v2 (lenL R ++ UInt8.ofNat L.length :: ([] : List ByteArray).flatMap lenL) from hv2)
  clear HB HM HWW HX hv2 hk2 hk2' hc1 HO hv1'
  go_wp2_with fail
  go_loopw [3, 4] (fun v i wr => ∃ k : Nat, k ≤ L.length ∧ i = .int .i64 k ∧ Kept (Own wr W0.heap.size v (lenL R ++ UInt8.ofNat L.length :: (L.take k).flatMap lenL)) ∧ Kept (Blk wr w.heap.size 24 #[.string R, .slice A L.length c]) ∧ Kept (MemS wr q A L) ∧ Kept (Below w.heap.size w wr) ∧ W0.heap.size ≤ wr.heap.size) (fun _ i _ => L.length - (intOf i).toNat)
  case atStart => exact ⟨0, Nat.zero_le _, rfl, hown, HBG, HMG, HW2, by omega⟩
  case round =>
    obtain ⟨k, hk, rfl, HO, HB, HM, HWR, hsr⟩ := hrel
    rename World => wr
    clear hown HBG HMG HW2
    have hc1 : wr.cell? ⟨w.heap.size, 1, none⟩ = some (.slice A L.length c) := by rw [HB.out.cell]; rfl
    by_cases hlt : k < L.length
    · obtain ⟨o, hA, hck⟩ := HM.out.at_ hlt
      subst hA
      have hfl := bytes_part L k hlt
      have hX := HS.out _ (List.getElem_mem hlt)
      have hbl := bytes_len (L.take k) fun s hs => HS.out s (List.mem_of_mem_take hs)
      rw [List.length_take] at hbl
      obtain ⟨X, hXe⟩ : ∃ X, L[k] = X := ⟨_, rfl⟩
      rw [hXe] at hck hfl hX
      obtain ⟨F, hF⟩ : ∃ F, (L.take k).flatMap lenL = F := ⟨_, rfl⟩
      rw [hF] at HO hfl hbl
      have HFL := kept hfl
      have HBX := kept (byte_of X.size (by omega))
      have hxl : X.data.toList.length = X.size := by simp
      obtain ⟨G, hG⟩ : ∃ G, lenL R ++ UInt8.ofNat L.length :: F = G := ⟨_, rfl⟩
      have hgl : G.length ≤ 2000 := by rw [← hG, List.length_append, List.length_cons]; omega
      rw [hG] at HO
      have HG := kept hG
      have hvk : ∀ j, Value.ownBlock _ = some j → W0.heap.size ≤ j := fun j hj => (World.ownsRow.lt HO.out j hj).1
      have HXX := kept hXe
      clear hXe hF hfl hbl hG
      have hik0 : (0 : Int) ≤ (k : Int) := by omega
      have hi2 : (k : Int) < (L.length : Int) := by omega
      go_upto_region 6 with (fail)
      have HTS := kept (show ∀ W, Blk W w.heap.size 24 #[.string R, .slice (some ⟨q, o, none⟩) L.length c] → MemS W q (some ⟨q, o, none⟩) L → (fun w' : World => w'.cell? ⟨w.heap.size, 1, none⟩ = some (.slice (some ⟨q, o, none⟩) L.length c) ∧ w'.cell? ⟨q, o + k, none⟩ = some (.string X)) W from fun W hB hM => by
        refine ⟨by rw [hB.cell]; rfl, ?_⟩
        obtain ⟨o', hA', hc'⟩ := hM.at_ hlt
        injection hA' with hA'
        injection hA' with _ hA'
        subst hA'
        rw [hc', HXX.out])
      have HROW := kept (show ∀ (v : Value) (W : World), Own W W0.heap.size v [] ∨ (∃ l, Own W W0.heap.size v l) → some w.heap.size ≠ v.ownBlock ∧ some q ≠ v.ownBlock from fun v W hv => by
        have hj : ∀ j, v.ownBlock = some j → W0.heap.size ≤ j := by
          rcases hv with hv | ⟨l, hv⟩
          · exact fun j hj => (World.ownsRow.lt hv j hj).1
          · exact fun j hj => (World.ownsRow.lt hv j hj).1
        exact ⟨fun e => by have := hj _ e.symm; omega, fun e => HMQ.out (hj _ e.symm)⟩)
      have HSD := kept (HTS.out wr.drew HB.out.drew_ (HM.out.keep fun _ => rfl))
      obtain ⟨WE, hWE⟩ : ∃ W, (wr.alloc (.cells #[.int .u8 (IntKind.u8.wrap (X.size : Int))] 5)).drew = W := ⟨_, rfl⟩
      have kE : Below wr.heap.size wr WE := by rw [← hWE]; exact ((Below.refl _ wr).alloc (Nat.le_refl _) _).drew
      have HBE := kept (HB.out.below kE HB.out.lt)
      have HME := kept (HM.out.below0 kE)
      have HWE := kept (below_next HWR.out kE)
      have HOE := kept (HO.out.below kE)
      have HXE := kept (show Mem WE wr.heap.size (some ⟨wr.heap.size, 0, none⟩) [UInt8.ofNat X.size] by
        rw [← hWE, IntKind.wrap_u8, Int.emod_eq_of_lt (by omega) (by omega), HBX.out]
        exact (mem_lit (w := wr) (l := [UInt8.ofNat X.size]) rfl : Mem _ _ _ _).drew)
      have HSE := kept (HTS.out WE HBE.out HME.out)
      have hsE := kE.size
      have hEQ := kept hWE
      clear kE hWE HB HM HWR HO hck hc1
      refine wp_region_held_drew (S := fun w' : World => w'.cell? ⟨w.heap.size, 1, none⟩ = some (.slice (some ⟨q, o, none⟩) L.length c) ∧ w'.cell? ⟨q, o + k, none⟩ = some (.string X)) (by kernel_rfl) HSD.out (fun _ => ?_)
      refine wpAnyH_take (i := 0) (v := ?_) rfl (by kernel_rfl) (by kernel_rfl) (by kernel_rfl) (fun _ _ _ h => h) (Or.inl ⟨by rfl, ?_⟩) HSD.out ?_
      rotate_left
      · rintro w' ⟨h1, h2⟩
        go_simp; with_reducible rfl
      try simp only [Act.put, List.getElem_toArray, List.getElem_cons_zero, List.getElem_cons_succ, List.setIfInBounds_toArray, List.set_cons_zero, List.set_cons_succ]
      refine wpAnyH_take (i := 1) (v := ?_) rfl (by kernel_rfl) (by kernel_rfl) (by kernel_rfl) (fun _ _ _ h => h) (Or.inl ⟨by rfl, ?_⟩) HSD.out ?_
      rotate_left
      · rintro w' ⟨h1, h2⟩
        go_simp; with_reducible rfl
      try simp only [Act.put, List.getElem_toArray, List.getElem_cons_zero, List.getElem_cons_succ, List.setIfInBounds_toArray, List.set_cons_zero, List.set_cons_succ]
      refine wpAnyH_take (i := 2) (v := ?_) rfl (by kernel_rfl) (by kernel_rfl) (by kernel_rfl) (fun _ _ _ h => h) (Or.inl ⟨by rfl, ?_⟩) HSD.out ?_
      rotate_left
      · rintro w' ⟨h1, h2⟩
        go_simp; with_reducible rfl
      try simp only [Act.put, List.getElem_toArray, List.getElem_cons_zero, List.getElem_cons_succ, List.setIfInBounds_toArray, List.set_cons_zero, List.set_cons_succ]
      refine wpAnyH_take (i := 3) (v := ?_) rfl (by kernel_rfl) (by kernel_rfl) (by kernel_rfl) (fun _ _ _ h => h) (Or.inl ⟨by rfl, ?_⟩) HSD.out ?_
      rotate_left
      · rintro w' ⟨h1, h2⟩
        go_simp; with_reducible rfl
      try simp only [Act.put, List.getElem_toArray, List.getElem_cons_zero, List.getElem_cons_succ, List.setIfInBounds_toArray, List.set_cons_zero, List.set_cons_succ]
      refine wpAnyH_take (i := 4) (v := ?_) rfl (by kernel_rfl) (by kernel_rfl) (by kernel_rfl) (fun _ _ _ h => h) (Or.inl ⟨by rfl, ?_⟩) HSD.out ?_
      rotate_left
      · rintro w' ⟨h1, h2⟩
        go_simp; with_reducible rfl
      try simp only [Act.put, List.getElem_toArray, List.getElem_cons_zero, List.getElem_cons_succ, List.setIfInBounds_toArray, List.set_cons_zero, List.set_cons_succ]
      refine wpAnyH_take (i := 5) (v := ?_) rfl (by kernel_rfl) (by kernel_rfl) (by kernel_rfl) (fun _ _ _ h => h) (Or.inl ⟨by rfl, ?_⟩) HSD.out ?_
      rotate_left
      · rintro w' ⟨h1, h2⟩
        go_simp; with_reducible rfl
      try simp only [Act.put, List.getElem_toArray, List.getElem_cons_zero, List.getElem_cons_succ, List.setIfInBounds_toArray, List.set_cons_zero, List.set_cons_succ]
      refine wpAnyH_take (i := 6) (v := ?_) rfl (by kernel_rfl) (by kernel_rfl) (by kernel_rfl) (fun _ _ _ h => h) (Or.inl ⟨by rfl, ?_⟩) HSD.out ?_
      rotate_left
      · rintro w' ⟨h1, h2⟩
        go_simp; with_reducible rfl
      try simp only [Act.put, List.getElem_toArray, List.getElem_cons_zero, List.getElem_cons_succ, List.setIfInBounds_toArray, List.set_cons_zero, List.set_cons_succ]
      refine wpAnyH_take (i := 7) (v := ?_) rfl (by kernel_rfl) (by kernel_rfl) (by kernel_rfl) (fun _ _ _ h => h) (Or.inl ⟨by rfl, ?_⟩) HSD.out ?_
      rotate_left
      · rintro w' ⟨h1, h2⟩
        go_simp; with_reducible rfl
      try simp only [Act.put, List.getElem_toArray, List.getElem_cons_zero, List.getElem_cons_succ, List.setIfInBounds_toArray, List.set_cons_zero, List.set_cons_succ]
      refine wpAnyH_take (i := 10) (v := ?_) rfl (by kernel_rfl) (by kernel_rfl) (by kernel_rfl) (fun _ _ _ h => h) (Or.inl ⟨by rfl, ?_⟩) HSD.out ?_
      rotate_left
      · rintro w' ⟨h1, h2⟩
        go_simp; with_reducible rfl
      try simp only [Act.put, List.getElem_toArray, List.getElem_cons_zero, List.getElem_cons_succ, List.setIfInBounds_toArray, List.set_cons_zero, List.set_cons_succ]
      refine wpAnyH_take (i := 11) (v := ?_) rfl (by kernel_rfl) (by kernel_rfl) (by kernel_rfl) (fun _ _ _ h => h) (Or.inl ⟨by rfl, ?_⟩) HSD.out ?_
      rotate_left
      · rintro w' ⟨h1, h2⟩
        go_simp; with_reducible rfl
      try simp only [Act.put, List.getElem_toArray, List.getElem_cons_zero, List.getElem_cons_succ, List.setIfInBounds_toArray, List.set_cons_zero, List.set_cons_succ]
      refine wpAnyH_take (i := 12) (v := ?_) rfl (by kernel_rfl) (by kernel_rfl) (by kernel_rfl) (fun _ _ _ h => h) (Or.inl ⟨by rfl, ?_⟩) HSD.out ?_
      rotate_left
      · rintro w' ⟨h1, h2⟩
        go_simp; with_reducible rfl
      try simp only [Act.put, List.getElem_toArray, List.getElem_cons_zero, List.getElem_cons_succ, List.setIfInBounds_toArray, List.set_cons_zero, List.set_cons_succ]
      refine wpAnyH_take (i := 13) (v := ?_) rfl (by kernel_rfl) (by kernel_rfl) (by kernel_rfl) (fun _ _ _ h => h) (Or.inl ⟨by rfl, ?_⟩) HSD.out ?_
      rotate_left
      · rintro w' ⟨h1, h2⟩
        go_simp; with_reducible rfl
      try simp only [Act.put, List.getElem_toArray, List.getElem_cons_zero, List.getElem_cons_succ, List.setIfInBounds_toArray, List.set_cons_zero, List.set_cons_succ]
      refine wpAnyH_take (i := 14) (v := ?_) rfl (by kernel_rfl) (by kernel_rfl) (by kernel_rfl) (fun _ _ _ h => h) (Or.inl ⟨by rfl, ?_⟩) HSD.out ?_
      rotate_left
      · rintro w' ⟨h1, h2⟩
        go_simp; with_reducible rfl
      try simp only [Act.put, List.getElem_toArray, List.getElem_cons_zero, List.getElem_cons_succ, List.setIfInBounds_toArray, List.set_cons_zero, List.set_cons_succ]
      refine wpAnyH_ready (rs := [8]) (by kernel_rfl) (by simp) ?_
      refine AllReadyH.cons rfl (fun K hK => ?_) (AllReadyH.nil)
      go_simp
      rw [hEQ.out]
      refine hK.out _ _ HSE.out (fun _ => ?_)
      clear hK K
      try simp only [Act.put, List.getElem_toArray, List.getElem_cons_zero, List.getElem_cons_succ, List.setIfInBounds_toArray, List.set_cons_zero, List.set_cons_succ]
      refine wpAnyH_ready (rs := [9]) (by kernel_rfl) (by simp) ?_
      refine AllReadyH.cons rfl (fun K hK => ?_) (AllReadyH.nil)
      refine step_append_bytes rfl (.tmp 27) (.tmp 35) 28 rfl W0.heap.size i0 Try.underlying28 hi0 hz0 hs0 hbb0 u3 G rfl HOE.out wr.heap.size (some ⟨wr.heap.size, 0, none⟩) 1 1 [UInt8.ofNat X.size] rfl rfl HXE.out (by simp; omega) (by omega) ?_
      intro v5 W5 ho5 hg5
      have hr5 := HROW.out u3 WE (.inr ⟨_, HOE.out⟩)
      have HB5 := kept (HBE.out.grown hg5 hr5.1)
      have HM5 := kept (HME.out.grown hg5 hr5.2)
      have HW5 := kept (HWE.out.grown hg5 HWE.out.size (fun j hj => by have := hvk j hj; omega))
      have HO5 := kept ho5
      have HS5 := kept (HTS.out W5 HB5.out HM5.out)
      have hs5 := hg5.size
      clear ho5 hg5 hr5 HBE HME HWE HOE HXE
      refine hK.out _ _ HS5.out (fun _ => ?_)
      clear hK K
      try simp only [Act.put, List.getElem_toArray, List.getElem_cons_zero, List.getElem_cons_succ, List.setIfInBounds_toArray, List.set_cons_zero, List.set_cons_succ]
      refine wpAnyH_ready (rs := [15]) (by kernel_rfl) (by simp) ?_
      refine AllReadyH.cons rfl (fun K hK => ?_) (AllReadyH.nil)
      refine step_append_str rfl (.tmp 36) (.tmp 41) 28 9 rfl W0.heap.size i0 Try.underlying28 Try.underlying9 hi0 hz0 hs0 hbb0 v5 (G ++ [UInt8.ofNat X.size]) rfl HO5.out X rfl (by simp; omega) (by omega) ?_
      intro v6 W6 ho6 hg6
      have hr6 := HROW.out v5 W5 (.inr ⟨_, HO5.out⟩)
      have HB6 := kept (HB5.out.grown hg6 hr6.1)
      have HM6 := kept (HM5.out.grown hg6 hr6.2)
      have HW6 := kept (HW5.out.grown hg6 HW5.out.size (fun j hj => by have := (World.ownsRow.lt HO5.out j hj).1; omega))
      have HO6 := kept (show Own W6 W0.heap.size v6 (lenL R ++ UInt8.ofNat L.length :: (L.take (k + 1)).flatMap lenL) by
        rw [HFL.out]
        have e : G ++ [UInt8.ofNat X.size] ++ X.data.toList = lenL R ++ UInt8.ofNat L.length :: (F ++ lenL X) := by
          rw [← HG.out]
          unfold lenL
          simp
        rw [← e]
        exact ho6)
      have HS6 := kept (HTS.out W6 HB6.out HM6.out)
      have hs6 := hg6.size
      clear ho6 hg6 hr6 HB5 HM5 HW5 HO5
      refine hK.out _ _ HS6.out (fun _ => ?_)
      clear hK K
      try simp only [Act.put, List.getElem_toArray, List.getElem_cons_zero, List.getElem_cons_succ, List.setIfInBounds_toArray, List.set_cons_zero, List.set_cons_succ]
      refine wpAnyH_ready (rs := [16]) (by kernel_rfl) (by simp) ?_
      refine AllReadyH.cons rfl (fun K hK => ?_) (AllReadyH.nil)
      go_simp
      refine hK.out _ _ HS6.out (fun _ => ?_)
      clear hK K
      try simp only [Act.put, List.getElem_toArray, List.getElem_cons_zero, List.getElem_cons_succ, List.setIfInBounds_toArray, List.set_cons_zero, List.set_cons_succ]
      refine wpAnyH_done (by kernel_rfl) ?_ _
      go_wp2
      go_roundw
      case rel => exact ⟨k + 1, by omega, by go_num, HO6, HB6, HM6, HW6, by omega⟩
      case measure => simp [intOf]; omega
    · have e : L.take k = L := List.take_of_length_le (by omega)
      rw [e] at HO
      have hws := HW.out.size
      go_wp2
      go_ret
      exact ⟨_, rfl, HO.out.mono hws, HWR.out⟩
end Go.Proofs.Ytnejidaplbonoaa
