/-
  The walk of the law MacKeys, where the arguments are within its bounds.
-/
import Derived.Test.YtgplkdnffbappaaDoorMacMore
import Derived.Test.YtgplkdnffbappaaDoorMacAwk
import Derived.Test.YtgplkdnffbappaaDoorMacRef
import Derived.Test.YtgplkdnffbappaaDoorHOpen
import Derived.Test.YtgplkdnffbappaaDoorSpread
import Derived.Test.YtgplkdnffbappaaDoorEqArr
import Derived.OrdersHeld
import Derived.Deep.RegionHeld
import Derived.Deep.Cut
namespace Go.Proofs.YtgplkdnffbappaaDoor.macKeys
open Go.ChangeShapes Go.WideShapes Go.ChangeAt Go.RowKit
set_option linter.unusedVariables false
set_option linter.unusedSimpArgs false

theorem run_eqi_arr_same {P : Program} (t e : TypeId) (n : Nat) (ht : P.underlying t = some (.array n e)) (k' : IntKind) (he : P.underlying e = some (.int k')) (hs : (P.info? e).map (·.size) = some 1)
    (xs : Array Value) (k : IntKind) (f : Nat → Int) (hx : ∀ i, i < n → xs[i]? = some (.int k (f i))) (w : World) :
    (Op.equalIn 10000 t (.agg xs) (.agg xs)).run P w = .ok true w := by
  rw [run_equalIn_arr 9998 t e n ht k' he hs xs xs k f f hx hx w]
  simp
theorem memM_blk {w : World} {gL q c : Nat} {A : Option Addr} {b : List UInt8} (h : Blk w gL 22 #[.slice A b.length c]) (hb : Mem w q A b) (hc : b.length ≤ c) : MemM w gL (some ⟨gL, 0, none⟩) [b] := by
  refine .inr ⟨0, rfl, fun j l hj => ?_⟩
  rcases j with _ | j
  · obtain rfl : b = l := by simpa using hj
    exact ⟨A, q, c, by rw [h.cell]; rfl, hb, hc⟩
  · simp at hj
theorem step_append_own {P : Program} {w : World} {ops : Array Oper} {o : Oper} {a : Act} {K : Act → World → Prop} {Q : Exit → Act → World → Prop} {E : Prop} (hgd : Region.wanted o (yielded ops a.tmps) = true) (s x : Operand) (t : TypeId)
    (ho : o.op = .call { callee := .builtin .append, args := #[s, x], argTypes := #[t, t] })
    (B : Nat) (i : TypeInfo) (ht : P.underlying t = some (.slice 5)) (hi : P.info? 5 = some i) (hz : i.zero = some (.int .u8 0)) (hsz : i.size = 1) (hb : i.bytes = 1)
    (v : Value) (l : List UInt8) (hs : a.eval s = v) (hown : Own w B v l) (q : Nat) (A : Option Addr) (m c : Nat) (src : List UInt8) (hx : a.eval x = .slice A m c) (hm : m = src.length)
    (hsrc : Mem w q A src) (hlen : l.length + src.length ≤ 140737488355328) (hB : B ≤ w.heap.size)
    (h : ∀ v' w', Own w' B v' (l ++ src) → w.grownBy w' v.ownBlock → (v'.ownBlock = v.ownBlock ∨ v'.ownBlock = some w.heap.size) → K (a.put o.dst v') w') :
    if Region.wanted o (yielded ops a.tmps) = true then Oper.wp P o a w K Q else E := by
  rw [if_pos hgd]
  obtain ⟨v', w', hrun, h2, h3, h4⟩ := run_append_bytes2 (P := P) w B t o.type i ht hi hz hsz hb v l hown q A m c src hm hsrc hlen hB
  unfold Oper.wp execOp
  simp only [ho, resolve, invoke, builtin, Sem.run_bind, Sem.run_pure, Result.andThen_ok, List.map_toArray, List.map_cons, List.map_nil, hs, hx, hrun]
  exact h v' w' h2 h3 h4
set_option maxHeartbeats 32000000 in
set_option maxRecDepth 100000 in
theorem walk_big (w : World) (q2 : Nat) (A2 : Option Addr) (c2 : Nat) (z : Int) (n : Nat) (b : List UInt8) (hK : KAt w) (hm2 : Mem w q2 A2 b) (hc2 : b.length ≤ c2) (hz0 : 0 ≤ z) (hz1 : z < 18446744073709551616) (hn : n < 256) (hb : b.length ≤ 300) (hway : 63 < 40 + n % 50) :
    Calls Tryd.prog 7 #[.int .u64 z, .int .u8 (n : Int), .slice A2 b.length c2] w fun e w' => e = .returned (.bool true) ∧ Below w.heap.size w w' := by
  obtain ⟨i0, hi0, hzz0, hs0, hbb0⟩ := info_parts u8_info
  have HK := kept hK
  have HM2 := kept hm2
  have HC2 := kept hc2
  have HBL := kept hb
  have hd1 : decide ((300 : Int) < (b.length : Int)) = false := by rw [decide_eq_false_iff_not]; omega
  obtain ⟨kl, hkl⟩ : ∃ kl, 40 + n % 50 = kl := ⟨_, rfl⟩
  rw [hkl] at hway
  have hks : 40 + (n : Int) % 50 = (kl : Int) := by omega
  have hn8 : (n : Int) < 256 := by omega
  have HKL := kept (show 40 ≤ kl ∧ kl < 90 by omega)
  have HSP := kept (fun (w' : World) => rspread_any w' z kl hz0 hz1 (by omega))
  clear hK hm2 hc2 hb hkl
  go_enter Tryd.func7, Tryd.ntmps7
  go_wp2_with fail
  refine (mawake_any _ HK.out).mono ?_
  rintro e w1 ⟨rfl, b1⟩
  have HB1 := kept b1
  clear b1
  go_wp2_with fail
  refine (HSP.out w1).mono ?_
  rintro e w2 ⟨key, vk, hkey, rfl, ho2, b2⟩
  obtain ⟨Ak, qk, ck, rfl, hck, _, hmk, hfk, _⟩ := ho2.form
  obtain ⟨_, rfl, _⟩ := hfk (by intro e; rw [e] at hkey; have := HKL.out; simp at hkey; omega)
  rw [hkey] at ho2
  rw [hkey]
  have HKEY := kept hkey
  have HCK := kept hck
  have HB2 := kept (HB1.out.trans (b2.mono HB1.out.size))
  have HMK := kept hmk
  have hml := hmac_len key b
  have HR := kept (fun (w' : World) (a1 : Mem w' qk (some ⟨qk, 0, none⟩) key) (a2 : Mem w' q2 A2 b) => rmac_any w' qk q2 (some ⟨qk, 0, none⟩) A2 kl b.length ck c2 key b HKEY.out.symm a1 (by rw [HKEY.out]; have := HKL.out; omega) rfl a2 (by have := HBL.out; omega))
  have HMS := kept (fun (w' : World) (gL : Nat) (hk' : KAt w') (a1 : Mem w' qk (some ⟨qk, 0, none⟩) key) (a2 : MemM w' gL (some ⟨gL, 0, none⟩) [b]) => msum_any w' qk gL (some ⟨qk, 0, none⟩) (some ⟨gL, 0, none⟩) kl 1 ck 1 key [b] hk' HKEY.out.symm a1 HCK.out (by rw [HKEY.out]; have := HKL.out; omega) rfl a2 (by simp) (by have := HBL.out; simp; omega))
  rw [show [b].flatten = b by simp] at HMS
  obtain ⟨D, hD⟩ : ∃ D, hmac key b = D := ⟨_, rfl⟩
  rw [hD] at HR HMS hml
  have HDL := kept hml
  have heq : ∀ w', (binOp .eql 26 (.agg (D.map bv).toArray) (.agg (D.map bv).toArray)).run Tryd.prog w' = .ok (.bool true) w' := run_eql_arr_same _ _ 32 Tryd.underlying26 .u8 Tryd.underlying5 u8_size (D.map bv).toArray .u8 (fun i => ((D.getD i 0).toNat : Int)) (fun i hi => by rw [gA_list, HDL.out, gA_at _ _ hi]; rfl)
  have hne : ∀ w', (Op.equalIn 10000 26 (.agg (D.map bv).toArray) (.agg (D.map bv).toArray)).run Tryd.prog w' = .ok true w' := run_eqi_arr_same _ _ 32 Tryd.underlying26 .u8 Tryd.underlying5 u8_size (D.map bv).toArray .u8 (fun i => ((D.getD i 0).toNat : Int)) (fun i hi => by rw [gA_list, HDL.out, gA_at _ _ hi]; rfl)
  have HEQ := kept heq
  have HNEQ := kept hne
  clear ho2 b2 hkey hck hmk hfk hD hml HB1 HSP heq hne
  go_wp2_with fail
  refine (HR.out w2 HMK.out (HM2.out.below0 HB2.out)).mono ?_
  rintro e w3 ⟨rfl, b3⟩
  go_upto_region 5 with (refine wpList_store_row rfl 26 _ _ rfl w3.heap.size (D.map bv).toArray rfl rfl 26 (Array.replicate 32 (.int .u8 0)) (Blk.new w3 _ _) (by rw [b32_size]; simp [HDL.out]) (by simp [HDL.out]) (padded_one D) ?_)
  go_name_world w4 hW4
  have hb24 : Below w2.heap.size w2 w4 := by rw [← hW4]; exact below_setRow (b3.alloc b3.size _) b3.size _
  have HF := kept (show Blk w4 w3.heap.size 26 (D.map bv).toArray by rw [← hW4]; exact setRow_heap _ _ _ _ _ _ (Blk.new w3 _ _))
  have HMK4 := kept (HMK.out.below0 hb24)
  have HB4 := kept (HB2.out.trans (hb24.mono HB2.out.size))
  have HQK := kept (show qk < w4.heap.size from HMK4.out.lt (by intro e; have := HKEY.out; rw [e] at this; have := HKL.out; simp at *; omega))
  clear hW4 b3 hb24 HB2 HMK HR
  obtain ⟨gF, hgF⟩ : ∃ g, w3.heap.size = g := ⟨_, rfl⟩
  rw [hgF] at HF
  rw [hgF]
  clear hgF
  have HGF := kept HF.out.lt
  have n32 : (Tryd.prog.info? 26).map (·.size) = some (D.map bv).length := by rw [b32_size, List.length_map, HDL.out]
  have hrng : ∀ w' : World, Below w4.heap.size w4 w' → w'.rangeAt gF 0 (D.map bv) := fun w' h => by
    have := range_of_blk (HF.out.below h HGF.out)
    simpa using this
  have HRNG := kept hrng
  have HKEEP := kept (fun (w' w'' : World) (h : Below w4.heap.size w4 w') (hb : Below w'.heap.size w' w'') => (show Below w4.heap.size w4 w'' from h.trans (hb.mono h.size)))
  have HAT := kept (fun (w' : World) (h : Below w4.heap.size w4 w') => (show KAt w' ∧ Mem w' qk (some ⟨qk, 0, none⟩) key ∧ Mem w' q2 A2 b from ⟨HK.out.below0 (HB4.out.trans (h.mono HB4.out.size)), HMK4.out.below0 h, HM2.out.below0 (HB4.out.trans (h.mono HB4.out.size))⟩))
  have S0 := kept (show (fun w' : World => Below w4.heap.size w4 w') w4.drew from (Below.refl _ w4).drew)
  have hg32 : Tryd.prog.eqGuardType Tryd.prog.depth 26 = false := by kernel_rfl
  clear hrng
  refine wp_region_held_drew (S := fun w' : World => Below w4.heap.size w4 w') (by kernel_rfl) S0.out (fun _ => ?_)
  generalize w4.drew = w5 at S0 ⊢
  refine wpAnyH_take (i := 0) (v := ?_) rfl (by kernel_rfl) (by kernel_rfl) (by kernel_rfl) (fun _ _ _ h => h) (Or.inl ⟨by rfl, ?_⟩) S0.out ?_
  rotate_left
  · intro w _; go_simp; with_reducible rfl
  try simp only [Act.put, List.getElem_toArray, List.getElem_cons_zero, List.getElem_cons_succ, List.setIfInBounds_toArray, List.set_cons_zero, List.set_cons_succ]
  refine wpAnyH_take (i := 1) (v := ?_) rfl (by kernel_rfl) (by kernel_rfl) (by kernel_rfl) (fun _ _ _ h => h) (Or.inl ⟨by rfl, ?_⟩) S0.out ?_
  rotate_left
  · intro w _; go_simp; with_reducible rfl
  try simp only [Act.put, List.getElem_toArray, List.getElem_cons_zero, List.getElem_cons_succ, List.setIfInBounds_toArray, List.set_cons_zero, List.set_cons_succ]
  refine wpAnyH_take (i := 4) (v := _) rfl (by kernel_rfl) (by kernel_rfl) (by kernel_rfl) (fun _ _ _ h => h) (yieldsIf_load_mid (by rfl) 26 (.tmp 8) rfl gF 0 rfl (D.map bv) _ (fun w' h => HRNG.out w' h) Tryd.underlying26 rfl n32) S0.out ?_
  try simp only [Act.put, List.getElem_toArray, List.getElem_cons_zero, List.getElem_cons_succ, List.setIfInBounds_toArray, List.set_cons_zero, List.set_cons_succ]
  refine wpAnyH_ready (rs := [2]) (by kernel_rfl) (by simp) ?_
  refine AllReadyH.cons rfl (fun K hK => ?_) AllReadyH.nil
  go_simp
  have hba1 : Below w5.heap.size w5 (w5.alloc (.cells #[.slice A2 b.length c2] 22)) := (Below.refl _ w5).alloc (Nat.le_refl _) _
  have L_1 := kept (Blk.new w5 22 #[.slice A2 b.length c2])
  have S_2 := kept (HKEEP.out _ _ S0.out hba1)
  clear S0
  refine hK.out _ _ S_2.out (fun _ => ?_)
  clear hK K
  try simp only [Act.put, List.getElem_toArray, List.getElem_cons_zero, List.getElem_cons_succ, List.setIfInBounds_toArray, List.set_cons_zero, List.set_cons_succ]
  obtain ⟨X1, hX1⟩ : ∃ Y, w5.alloc (.cells #[.slice A2 b.length c2] 22) = Y := ⟨_, rfl⟩
  obtain ⟨g1, hg1⟩ : ∃ g, w5.heap.size = g := ⟨_, rfl⟩
  rw [hX1] at S_2
  rw [hX1] at L_1
  rw [hg1] at L_1
  rw [hX1, hg1]
  clear hX1 hg1 hba1
  refine wpAnyH_ready (rs := [3]) (by kernel_rfl) (by simp) ?_
  refine AllReadyH.cons rfl (fun K hK => ?_) AllReadyH.nil
  go_simp
  refine (HMS.out X1 g1 (HAT.out _ S_2.out).1 (HAT.out _ S_2.out).2.1 (memM_blk L_1.out (HAT.out _ S_2.out).2.2 HC2.out)).mono ?_
  rintro e Y3 ⟨rfl, hb3⟩
  have S_4 := kept (HKEEP.out _ _ S_2.out hb3)
  clear S_2
  refine hK.out _ _ S_4.out (fun _ => ?_)
  clear hK K
  try simp only [Act.put, List.getElem_toArray, List.getElem_cons_zero, List.getElem_cons_succ, List.setIfInBounds_toArray, List.set_cons_zero, List.set_cons_succ]
  refine wpAnyH_take (i := 5) (v := .bool false) rfl (by kernel_rfl) (by kernel_rfl) (by kernel_rfl) (fun _ _ _ h => h) (Or.inl ⟨by rfl, ?_⟩) S_4.out ?_
  · intro w _
    have hrun := HNEQ.out w
    go_simp
  try simp only [Act.put, List.getElem_toArray, List.getElem_cons_zero, List.getElem_cons_succ, List.setIfInBounds_toArray, List.set_cons_zero, List.set_cons_succ]
  refine wpAnyH_done (by kernel_rfl) ?_ _
  have hd2 : decide ((63 : Int) < (kl : Int)) = true := by rw [decide_eq_true_eq]; omega
  clear hway
  go_upto_region 7 with fail
  have S7 := kept (show (fun w' : World => Below w4.heap.size w4 w') Y3.drew from S_4.out.drew)
  refine wp_region_held_drew (S := fun w' : World => Below w4.heap.size w4 w') (by kernel_rfl) S7.out (fun _ => ?_)
  generalize Y3.drew = w7 at S7 ⊢
  refine wpAnyH_take (i := 0) (v := ?_) rfl (by kernel_rfl) (by kernel_rfl) (by kernel_rfl) (fun _ _ _ h => h) (Or.inl ⟨by rfl, ?_⟩) S7.out ?_
  rotate_left
  · intro w _; go_simp; with_reducible rfl
  try simp only [Act.put, List.getElem_toArray, List.getElem_cons_zero, List.getElem_cons_succ, List.setIfInBounds_toArray, List.set_cons_zero, List.set_cons_succ]
  refine wpAnyH_take (i := 1) (v := ?_) rfl (by kernel_rfl) (by kernel_rfl) (by kernel_rfl) (fun _ _ _ h => h) (Or.inl ⟨by rfl, ?_⟩) S7.out ?_
  rotate_left
  · intro w _; go_simp; with_reducible rfl
  try simp only [Act.put, List.getElem_toArray, List.getElem_cons_zero, List.getElem_cons_succ, List.setIfInBounds_toArray, List.set_cons_zero, List.set_cons_succ]
  refine wpAnyH_take (i := 2) (v := ?_) rfl (by kernel_rfl) (by kernel_rfl) (by kernel_rfl) (fun _ _ _ h => h) (Or.inl ⟨by rfl, ?_⟩) S7.out ?_
  rotate_left
  · intro w _; go_simp; with_reducible rfl
  try simp only [Act.put, List.getElem_toArray, List.getElem_cons_zero, List.getElem_cons_succ, List.setIfInBounds_toArray, List.set_cons_zero, List.set_cons_succ]
  refine wpAnyH_take (i := 3) (v := ?_) rfl (by kernel_rfl) (by kernel_rfl) (by kernel_rfl) (fun _ _ _ h => h) (Or.inl ⟨by rfl, ?_⟩) S7.out ?_
  rotate_left
  · intro w _; go_simp; with_reducible rfl
  try simp only [Act.put, List.getElem_toArray, List.getElem_cons_zero, List.getElem_cons_succ, List.setIfInBounds_toArray, List.set_cons_zero, List.set_cons_succ]
  refine wpAnyH_take (i := 4) (v := undef) rfl (by kernel_rfl) (by kernel_rfl) (by kernel_rfl) (fun _ _ _ h => h) (Or.inr ⟨by rfl, rfl⟩) S7.out ?_
  try simp only [Act.put, List.getElem_toArray, List.getElem_cons_zero, List.getElem_cons_succ, List.setIfInBounds_toArray, List.set_cons_zero, List.set_cons_succ]
  refine wpAnyH_take (i := 5) (v := undef) rfl (by kernel_rfl) (by kernel_rfl) (by kernel_rfl) (fun _ _ _ h => h) (Or.inr ⟨by rfl, rfl⟩) S7.out ?_
  try simp only [Act.put, List.getElem_toArray, List.getElem_cons_zero, List.getElem_cons_succ, List.setIfInBounds_toArray, List.set_cons_zero, List.set_cons_succ]
  refine wpAnyH_take (i := 6) (v := undef) rfl (by kernel_rfl) (by kernel_rfl) (by kernel_rfl) (fun _ _ _ h => h) (Or.inr ⟨by rfl, rfl⟩) S7.out ?_
  try simp only [Act.put, List.getElem_toArray, List.getElem_cons_zero, List.getElem_cons_succ, List.setIfInBounds_toArray, List.set_cons_zero, List.set_cons_succ]
  refine wpAnyH_take (i := 7) (v := undef) rfl (by kernel_rfl) (by kernel_rfl) (by kernel_rfl) (fun _ _ _ h => h) (Or.inr ⟨by rfl, rfl⟩) S7.out ?_
  try simp only [Act.put, List.getElem_toArray, List.getElem_cons_zero, List.getElem_cons_succ, List.setIfInBounds_toArray, List.set_cons_zero, List.set_cons_succ]
  refine wpAnyH_take (i := 8) (v := undef) rfl (by kernel_rfl) (by kernel_rfl) (by kernel_rfl) (fun _ _ _ h => h) (Or.inr ⟨by rfl, rfl⟩) S7.out ?_
  try simp only [Act.put, List.getElem_toArray, List.getElem_cons_zero, List.getElem_cons_succ, List.setIfInBounds_toArray, List.set_cons_zero, List.set_cons_succ]
  refine wpAnyH_take (i := 9) (v := undef) rfl (by kernel_rfl) (by kernel_rfl) (by kernel_rfl) (fun _ _ _ h => h) (Or.inr ⟨by rfl, rfl⟩) S7.out ?_
  try simp only [Act.put, List.getElem_toArray, List.getElem_cons_zero, List.getElem_cons_succ, List.setIfInBounds_toArray, List.set_cons_zero, List.set_cons_succ]
  refine wpAnyH_take (i := 10) (v := undef) rfl (by kernel_rfl) (by kernel_rfl) (by kernel_rfl) (fun _ _ _ h => h) (Or.inr ⟨by rfl, rfl⟩) S7.out ?_
  try simp only [Act.put, List.getElem_toArray, List.getElem_cons_zero, List.getElem_cons_succ, List.setIfInBounds_toArray, List.set_cons_zero, List.set_cons_succ]
  refine wpAnyH_take (i := 11) (v := undef) rfl (by kernel_rfl) (by kernel_rfl) (by kernel_rfl) (fun _ _ _ h => h) (Or.inr ⟨by rfl, rfl⟩) S7.out ?_
  try simp only [Act.put, List.getElem_toArray, List.getElem_cons_zero, List.getElem_cons_succ, List.setIfInBounds_toArray, List.set_cons_zero, List.set_cons_succ]
  refine wpAnyH_take (i := 12) (v := undef) rfl (by kernel_rfl) (by kernel_rfl) (by kernel_rfl) (fun _ _ _ h => h) (Or.inr ⟨by rfl, rfl⟩) S7.out ?_
  try simp only [Act.put, List.getElem_toArray, List.getElem_cons_zero, List.getElem_cons_succ, List.setIfInBounds_toArray, List.set_cons_zero, List.set_cons_succ]
  refine wpAnyH_take (i := 13) (v := undef) rfl (by kernel_rfl) (by kernel_rfl) (by kernel_rfl) (fun _ _ _ h => h) (Or.inr ⟨by rfl, rfl⟩) S7.out ?_
  try simp only [Act.put, List.getElem_toArray, List.getElem_cons_zero, List.getElem_cons_succ, List.setIfInBounds_toArray, List.set_cons_zero, List.set_cons_succ]
  refine wpAnyH_take (i := 14) (v := ?_) rfl (by kernel_rfl) (by kernel_rfl) (by kernel_rfl) (fun _ _ _ h => h) (Or.inl ⟨by rfl, ?_⟩) S7.out ?_
  rotate_left
  · intro w _; go_simp; with_reducible rfl
  try simp only [Act.put, List.getElem_toArray, List.getElem_cons_zero, List.getElem_cons_succ, List.setIfInBounds_toArray, List.set_cons_zero, List.set_cons_succ]
  refine wpAnyH_take (i := 15) (v := ?_) rfl (by kernel_rfl) (by kernel_rfl) (by kernel_rfl) (fun _ _ _ h => h) (Or.inl ⟨by rfl, ?_⟩) S7.out ?_
  rotate_left
  · intro w _; go_simp; with_reducible rfl
  try simp only [Act.put, List.getElem_toArray, List.getElem_cons_zero, List.getElem_cons_succ, List.setIfInBounds_toArray, List.set_cons_zero, List.set_cons_succ]
  refine wpAnyH_done (by kernel_rfl) ?_ _
  go_wp2
  go_ret
  exact ⟨rfl, HB4.out.trans (S7.out.mono HB4.out.size)⟩
set_option maxHeartbeats 32000000 in
set_option maxRecDepth 100000 in
theorem walk_small (w : World) (q2 : Nat) (A2 : Option Addr) (c2 : Nat) (z : Int) (n : Nat) (b : List UInt8) (hK : KAt w) (hm2 : Mem w q2 A2 b) (hc2 : b.length ≤ c2) (hz0 : 0 ≤ z) (hz1 : z < 18446744073709551616) (hn : n < 256) (hb : b.length ≤ 300) (hway : 40 + n % 50 ≤ 63) :
    Calls Tryd.prog 7 #[.int .u64 z, .int .u8 (n : Int), .slice A2 b.length c2] w fun e w' => e = .returned (.bool true) ∧ Below w.heap.size w w' := by
  obtain ⟨i0, hi0, hzz0, hs0, hbb0⟩ := info_parts u8_info
  have HK := kept hK
  have HM2 := kept hm2
  have HC2 := kept hc2
  have HBL := kept hb
  have hd1 : decide ((300 : Int) < (b.length : Int)) = false := by rw [decide_eq_false_iff_not]; omega
  obtain ⟨kl, hkl⟩ : ∃ kl, 40 + n % 50 = kl := ⟨_, rfl⟩
  rw [hkl] at hway
  have hks : 40 + (n : Int) % 50 = (kl : Int) := by omega
  have hn8 : (n : Int) < 256 := by omega
  have HKL := kept (show 40 ≤ kl ∧ kl < 90 by omega)
  have HSP := kept (fun (w' : World) => rspread_any w' z kl hz0 hz1 (by omega))
  clear hK hm2 hc2 hb hkl
  go_enter Tryd.func7, Tryd.ntmps7
  go_wp2_with fail
  refine (mawake_any _ HK.out).mono ?_
  rintro e w1 ⟨rfl, b1⟩
  have HB1 := kept b1
  clear b1
  go_wp2_with fail
  refine (HSP.out w1).mono ?_
  rintro e w2 ⟨key, vk, hkey, rfl, ho2, b2⟩
  obtain ⟨Ak, qk, ck, rfl, hck, _, hmk, hfk, _⟩ := ho2.form
  obtain ⟨_, rfl, _⟩ := hfk (by intro e; rw [e] at hkey; have := HKL.out; simp at hkey; omega)
  rw [hkey] at ho2
  rw [hkey]
  have HKEY := kept hkey
  have HCK := kept hck
  have HB2 := kept (HB1.out.trans (b2.mono HB1.out.size))
  have HMK := kept hmk
  have hml := hmac_len key b
  have HR := kept (fun (w' : World) (a1 : Mem w' qk (some ⟨qk, 0, none⟩) key) (a2 : Mem w' q2 A2 b) => rmac_any w' qk q2 (some ⟨qk, 0, none⟩) A2 kl b.length ck c2 key b HKEY.out.symm a1 (by rw [HKEY.out]; have := HKL.out; omega) rfl a2 (by have := HBL.out; omega))
  have HMS := kept (fun (w' : World) (gL : Nat) (hk' : KAt w') (a1 : Mem w' qk (some ⟨qk, 0, none⟩) key) (a2 : MemM w' gL (some ⟨gL, 0, none⟩) [b]) => msum_any w' qk gL (some ⟨qk, 0, none⟩) (some ⟨gL, 0, none⟩) kl 1 ck 1 key [b] hk' HKEY.out.symm a1 HCK.out (by rw [HKEY.out]; have := HKL.out; omega) rfl a2 (by simp) (by have := HBL.out; simp; omega))
  rw [show [b].flatten = b by simp] at HMS
  have hzk : hmac (key ++ [0]) b = hmac key b := hmac_zero key b (by rw [hkey]; omega)
  have HMZ := kept (fun (w' : World) (q' gL : Nat) (A' : Option Addr) (nn c' : Nat) (K0 : List UInt8) (hK0 : K0 = key ++ [0]) (hk' : KAt w') (hnn : nn = K0.length) (a1 : Mem w' q' A' K0) (hc' : K0.length ≤ c') (a2 : MemM w' gL (some ⟨gL, 0, none⟩) [b]) => msum_any w' q' gL A' (some ⟨gL, 0, none⟩) nn 1 c' 1 K0 [b] hk' hnn a1 hc' (by rw [hK0, List.length_append, HKEY.out]; have := HKL.out; simp; omega) rfl a2 (by simp) (by have := HBL.out; simp; omega))
  rw [show [b].flatten = b by simp] at HMZ
  obtain ⟨D, hD⟩ : ∃ D, hmac key b = D := ⟨_, rfl⟩
  rw [hD] at HR HMS hml hzk
  have HDL := kept hml
  have HZK := kept hzk
  obtain ⟨K0, hK0⟩ : ∃ K, key ++ [0] = K := ⟨_, rfl⟩
  rw [hK0] at HZK
  have HK0 := kept hK0
  have HMZ2 := kept (fun (w' : World) (q' gL : Nat) (A' : Option Addr) (c' : Nat) (hk' : KAt w') (a1 : Mem w' q' A' K0) (hc' : K0.length ≤ c') (a2 : MemM w' gL (some ⟨gL, 0, none⟩) [b]) => HMZ.out w' q' gL A' K0.length c' K0 HK0.out.symm hk' rfl a1 hc' a2)
  rw [HZK.out] at HMZ2
  clear hK0 hzk HMZ
  have heq : ∀ w', (binOp .eql 26 (.agg (D.map bv).toArray) (.agg (D.map bv).toArray)).run Tryd.prog w' = .ok (.bool true) w' := run_eql_arr_same _ _ 32 Tryd.underlying26 .u8 Tryd.underlying5 u8_size (D.map bv).toArray .u8 (fun i => ((D.getD i 0).toNat : Int)) (fun i hi => by rw [gA_list, HDL.out, gA_at _ _ hi]; rfl)
  have hne : ∀ w', (Op.equalIn 10000 26 (.agg (D.map bv).toArray) (.agg (D.map bv).toArray)).run Tryd.prog w' = .ok true w' := run_eqi_arr_same _ _ 32 Tryd.underlying26 .u8 Tryd.underlying5 u8_size (D.map bv).toArray .u8 (fun i => ((D.getD i 0).toNat : Int)) (fun i hi => by rw [gA_list, HDL.out, gA_at _ _ hi]; rfl)
  have HEQ := kept heq
  have HNEQ := kept hne
  clear ho2 b2 hkey hck hmk hfk hD hml HB1 HSP heq hne
  go_wp2_with fail
  refine (HR.out w2 HMK.out (HM2.out.below0 HB2.out)).mono ?_
  rintro e w3 ⟨rfl, b3⟩
  go_upto_region 5 with (refine wpList_store_row rfl 26 _ _ rfl w3.heap.size (D.map bv).toArray rfl rfl 26 (Array.replicate 32 (.int .u8 0)) (Blk.new w3 _ _) (by rw [b32_size]; simp [HDL.out]) (by simp [HDL.out]) (padded_one D) ?_)
  go_name_world w4 hW4
  have hb24 : Below w2.heap.size w2 w4 := by rw [← hW4]; exact below_setRow (b3.alloc b3.size _) b3.size _
  have HF := kept (show Blk w4 w3.heap.size 26 (D.map bv).toArray by rw [← hW4]; exact setRow_heap _ _ _ _ _ _ (Blk.new w3 _ _))
  have HMK4 := kept (HMK.out.below0 hb24)
  have HB4 := kept (HB2.out.trans (hb24.mono HB2.out.size))
  have HQK := kept (show qk < w4.heap.size from HMK4.out.lt (by intro e; have := HKEY.out; rw [e] at this; have := HKL.out; simp at *; omega))
  clear hW4 b3 hb24 HB2 HMK HR
  obtain ⟨gF, hgF⟩ : ∃ g, w3.heap.size = g := ⟨_, rfl⟩
  rw [hgF] at HF
  rw [hgF]
  clear hgF
  have HGF := kept HF.out.lt
  have n32 : (Tryd.prog.info? 26).map (·.size) = some (D.map bv).length := by rw [b32_size, List.length_map, HDL.out]
  have hrng : ∀ w' : World, Below w4.heap.size w4 w' → w'.rangeAt gF 0 (D.map bv) := fun w' h => by
    have := range_of_blk (HF.out.below h HGF.out)
    simpa using this
  have HRNG := kept hrng
  have HKEEP := kept (fun (w' w'' : World) (h : Below w4.heap.size w4 w') (hb : Below w'.heap.size w' w'') => (show Below w4.heap.size w4 w'' from h.trans (hb.mono h.size)))
  have HAT := kept (fun (w' : World) (h : Below w4.heap.size w4 w') => (show KAt w' ∧ Mem w' qk (some ⟨qk, 0, none⟩) key ∧ Mem w' q2 A2 b from ⟨HK.out.below0 (HB4.out.trans (h.mono HB4.out.size)), HMK4.out.below0 h, HM2.out.below0 (HB4.out.trans (h.mono HB4.out.size))⟩))
  have S0 := kept (show (fun w' : World => Below w4.heap.size w4 w') w4.drew from (Below.refl _ w4).drew)
  have hg32 : Tryd.prog.eqGuardType Tryd.prog.depth 26 = false := by kernel_rfl
  clear hrng
  refine wp_region_held_drew (S := fun w' : World => Below w4.heap.size w4 w') (by kernel_rfl) S0.out (fun _ => ?_)
  generalize w4.drew = w5 at S0 ⊢
  refine wpAnyH_take (i := 0) (v := ?_) rfl (by kernel_rfl) (by kernel_rfl) (by kernel_rfl) (fun _ _ _ h => h) (Or.inl ⟨by rfl, ?_⟩) S0.out ?_
  rotate_left
  · intro w _; go_simp; with_reducible rfl
  try simp only [Act.put, List.getElem_toArray, List.getElem_cons_zero, List.getElem_cons_succ, List.setIfInBounds_toArray, List.set_cons_zero, List.set_cons_succ]
  refine wpAnyH_take (i := 1) (v := ?_) rfl (by kernel_rfl) (by kernel_rfl) (by kernel_rfl) (fun _ _ _ h => h) (Or.inl ⟨by rfl, ?_⟩) S0.out ?_
  rotate_left
  · intro w _; go_simp; with_reducible rfl
  try simp only [Act.put, List.getElem_toArray, List.getElem_cons_zero, List.getElem_cons_succ, List.setIfInBounds_toArray, List.set_cons_zero, List.set_cons_succ]
  refine wpAnyH_take (i := 4) (v := _) rfl (by kernel_rfl) (by kernel_rfl) (by kernel_rfl) (fun _ _ _ h => h) (yieldsIf_load_mid (by rfl) 26 (.tmp 8) rfl gF 0 rfl (D.map bv) _ (fun w' h => HRNG.out w' h) Tryd.underlying26 rfl n32) S0.out ?_
  try simp only [Act.put, List.getElem_toArray, List.getElem_cons_zero, List.getElem_cons_succ, List.setIfInBounds_toArray, List.set_cons_zero, List.set_cons_succ]
  refine wpAnyH_ready (rs := [2]) (by kernel_rfl) (by simp) ?_
  refine AllReadyH.cons rfl (fun K hK => ?_) AllReadyH.nil
  go_simp
  have hba1 : Below w5.heap.size w5 (w5.alloc (.cells #[.slice A2 b.length c2] 22)) := (Below.refl _ w5).alloc (Nat.le_refl _) _
  have L_1 := kept (Blk.new w5 22 #[.slice A2 b.length c2])
  have S_2 := kept (HKEEP.out _ _ S0.out hba1)
  clear S0
  refine hK.out _ _ S_2.out (fun _ => ?_)
  clear hK K
  try simp only [Act.put, List.getElem_toArray, List.getElem_cons_zero, List.getElem_cons_succ, List.setIfInBounds_toArray, List.set_cons_zero, List.set_cons_succ]
  obtain ⟨X1, hX1⟩ : ∃ Y, w5.alloc (.cells #[.slice A2 b.length c2] 22) = Y := ⟨_, rfl⟩
  obtain ⟨g1, hg1⟩ : ∃ g, w5.heap.size = g := ⟨_, rfl⟩
  rw [hX1] at S_2
  rw [hX1] at L_1
  rw [hg1] at L_1
  rw [hX1, hg1]
  clear hX1 hg1 hba1
  refine wpAnyH_ready (rs := [3]) (by kernel_rfl) (by simp) ?_
  refine AllReadyH.cons rfl (fun K hK => ?_) AllReadyH.nil
  go_simp
  refine (HMS.out X1 g1 (HAT.out _ S_2.out).1 (HAT.out _ S_2.out).2.1 (memM_blk L_1.out (HAT.out _ S_2.out).2.2 HC2.out)).mono ?_
  rintro e Y3 ⟨rfl, hb3⟩
  have S_4 := kept (HKEEP.out _ _ S_2.out hb3)
  clear S_2
  refine hK.out _ _ S_4.out (fun _ => ?_)
  clear hK K
  try simp only [Act.put, List.getElem_toArray, List.getElem_cons_zero, List.getElem_cons_succ, List.setIfInBounds_toArray, List.set_cons_zero, List.set_cons_succ]
  refine wpAnyH_take (i := 5) (v := .bool false) rfl (by kernel_rfl) (by kernel_rfl) (by kernel_rfl) (fun _ _ _ h => h) (Or.inl ⟨by rfl, ?_⟩) S_4.out ?_
  · intro w _
    have hrun := HNEQ.out w
    go_simp
  try simp only [Act.put, List.getElem_toArray, List.getElem_cons_zero, List.getElem_cons_succ, List.setIfInBounds_toArray, List.set_cons_zero, List.set_cons_succ]
  refine wpAnyH_done (by kernel_rfl) ?_ _
  have hd2 : decide ((63 : Int) < (kl : Int)) = false := by rw [decide_eq_false_iff_not]; omega
  clear hway
  go_upto_region 7 with fail
  have S7 := kept (show (fun w' : World => Below w4.heap.size w4 w') Y3.drew from S_4.out.drew)
  refine wp_region_held_drew (S := fun w' : World => Below w4.heap.size w4 w') (by kernel_rfl) S7.out (fun _ => ?_)
  generalize Y3.drew = w7 at S7 ⊢
  refine wpAnyH_take (i := 0) (v := ?_) rfl (by kernel_rfl) (by kernel_rfl) (by kernel_rfl) (fun _ _ _ h => h) (Or.inl ⟨by rfl, ?_⟩) S7.out ?_
  rotate_left
  · intro w _; go_simp; with_reducible rfl
  try simp only [Act.put, List.getElem_toArray, List.getElem_cons_zero, List.getElem_cons_succ, List.setIfInBounds_toArray, List.set_cons_zero, List.set_cons_succ]
  refine wpAnyH_take (i := 1) (v := ?_) rfl (by kernel_rfl) (by kernel_rfl) (by kernel_rfl) (fun _ _ _ h => h) (Or.inl ⟨by rfl, ?_⟩) S7.out ?_
  rotate_left
  · intro w _; go_simp; with_reducible rfl
  try simp only [Act.put, List.getElem_toArray, List.getElem_cons_zero, List.getElem_cons_succ, List.setIfInBounds_toArray, List.set_cons_zero, List.set_cons_succ]
  refine wpAnyH_take (i := 2) (v := ?_) rfl (by kernel_rfl) (by kernel_rfl) (by kernel_rfl) (fun _ _ _ h => h) (Or.inl ⟨by rfl, ?_⟩) S7.out ?_
  rotate_left
  · intro w _; go_simp; with_reducible rfl
  try simp only [Act.put, List.getElem_toArray, List.getElem_cons_zero, List.getElem_cons_succ, List.setIfInBounds_toArray, List.set_cons_zero, List.set_cons_succ]
  refine wpAnyH_take (i := 3) (v := ?_) rfl (by kernel_rfl) (by kernel_rfl) (by kernel_rfl) (fun _ _ _ h => h) (Or.inl ⟨by rfl, ?_⟩) S7.out ?_
  rotate_left
  · intro w _; go_simp; with_reducible rfl
  try simp only [Act.put, List.getElem_toArray, List.getElem_cons_zero, List.getElem_cons_succ, List.setIfInBounds_toArray, List.set_cons_zero, List.set_cons_succ]
  refine wpAnyH_take (i := 5) (v := ?_) rfl (by kernel_rfl) (by kernel_rfl) (by kernel_rfl) (fun _ _ _ h => h) (Or.inl ⟨by rfl, ?_⟩) S7.out ?_
  rotate_left
  · intro w _; go_simp; with_reducible rfl
  try simp only [Act.put, List.getElem_toArray, List.getElem_cons_zero, List.getElem_cons_succ, List.setIfInBounds_toArray, List.set_cons_zero, List.set_cons_succ]
  refine wpAnyH_take (i := 9) (v := ?_) rfl (by kernel_rfl) (by kernel_rfl) (by kernel_rfl) (fun _ _ _ h => h) (Or.inl ⟨by rfl, ?_⟩) S7.out ?_
  rotate_left
  · intro w _; go_simp; with_reducible rfl
  try simp only [Act.put, List.getElem_toArray, List.getElem_cons_zero, List.getElem_cons_succ, List.setIfInBounds_toArray, List.set_cons_zero, List.set_cons_succ]
  refine wpAnyH_take (i := 12) (v := _) rfl (by kernel_rfl) (by kernel_rfl) (by kernel_rfl) (fun _ _ _ h => h) (yieldsIf_load_mid (by rfl) 26 (.tmp 8) rfl gF 0 rfl (D.map bv) _ (fun w' h => HRNG.out w' h) Tryd.underlying26 rfl n32) S7.out ?_
  try simp only [Act.put, List.getElem_toArray, List.getElem_cons_zero, List.getElem_cons_succ, List.setIfInBounds_toArray, List.set_cons_zero, List.set_cons_succ]
  refine wpAnyH_ready (rs := [4, 7, 10]) (by kernel_rfl) (by simp) ?_
  refine AllReadyH.cons rfl (fun K hK => ?_) (AllReadyH.cons rfl (fun K hK => ?_) (AllReadyH.cons rfl (fun K hK => ?_) (AllReadyH.nil)))
  · go_simp
    have hba5 : Below w7.heap.size w7 (w7.alloc (.cells #[] 5)) := (Below.refl _ w7).alloc (Nat.le_refl _) _
    have E_5 := kept (show Own (w7.alloc (.cells #[] 5)) w4.heap.size (.slice (some ⟨w7.heap.size, 0, none⟩) 0 0) [] from own_of_blk (l := []) (Blk.new w7 _ _) S7.out.size (by simp))
    have S_6 := kept (HKEEP.out _ _ S7.out hba5)
    clear S7
    refine hK.out _ _ S_6.out (fun _ => ?_)
    clear hK K
    try simp only [Act.put, List.getElem_toArray, List.getElem_cons_zero, List.getElem_cons_succ, List.setIfInBounds_toArray, List.set_cons_zero, List.set_cons_succ]
    obtain ⟨X5, hX5⟩ : ∃ Y, w7.alloc (.cells #[] 5) = Y := ⟨_, rfl⟩
    obtain ⟨g5, hg5⟩ : ∃ g, w7.heap.size = g := ⟨_, rfl⟩
    rw [hX5] at S_6
    rw [hX5] at E_5
    rw [hg5] at E_5
    rw [hX5, hg5]
    clear hX5 hg5 hba5
    refine wpAnyH_ready (rs := [6, 7, 10]) (by kernel_rfl) (by simp) ?_
    refine AllReadyH.cons rfl (fun K hK => ?_) (AllReadyH.cons rfl (fun K hK => ?_) (AllReadyH.cons rfl (fun K hK => ?_) (AllReadyH.nil)))
    · refine step_append_own (by rfl) (.tmp 36) (.tmp 37) 22 rfl w4.heap.size i0 Tryd.underlying22 hi0 hzz0 hs0 hbb0 (.slice (some ⟨g5, 0, none⟩) 0 0) [] rfl E_5.out qk (some ⟨qk, 0, none⟩) kl ck key rfl HKEY.out.symm (HAT.out _ S_6.out).2.1 (by rw [HKEY.out]; have := HKL.out; simp; omega) S_6.out.size ?_
      intro v38 A7 ho7 hg7 ha7
      rw [List.nil_append] at ho7
      have hE7 : w4.heap.size ≤ g5 := (World.ownsRow.lt E_5.out _ rfl).1
      have S_7 := kept (show (fun w' : World => Below w4.heap.size w4 w') A7 from S_6.out.grown hg7 S_6.out.size (fun kk hk => by simp [Value.ownBlock] at hk; omega))
      have C_7 := kept ho7
      clear ho7 hg7 ha7 hE7
      clear S_6 E_5
      refine hK.out _ _ S_7.out (fun _ => ?_)
      clear hK K
      try simp only [Act.put, List.getElem_toArray, List.getElem_cons_zero, List.getElem_cons_succ, List.setIfInBounds_toArray, List.set_cons_zero, List.set_cons_succ]
      refine wpAnyH_ready (rs := [7, 10]) (by kernel_rfl) (by simp) ?_
      refine AllReadyH.cons rfl (fun K hK => ?_) (AllReadyH.cons rfl (fun K hK => ?_) (AllReadyH.nil))
      · go_simp
        have hba8 : Below A7.heap.size A7 (A7.alloc (.cells #[.int .u8 0] 5)) := (Below.refl _ A7).alloc (Nat.le_refl _) _
        have Z_8 := kept (show Mem (A7.alloc (.cells #[.int .u8 0] 5)) A7.heap.size (some ⟨A7.heap.size, 0, none⟩) [0] from mem_lit1 (w := A7) (b := 0) rfl)
        have S_9 := kept (HKEEP.out _ _ S_7.out hba8)
        clear S_7
        have C_10 := kept (C_7.out.below hba8)
        clear C_7
        refine hK.out _ _ S_9.out (fun _ => ?_)
        clear hK K
        try simp only [Act.put, List.getElem_toArray, List.getElem_cons_zero, List.getElem_cons_succ, List.setIfInBounds_toArray, List.set_cons_zero, List.set_cons_succ]
        obtain ⟨X8, hX8⟩ : ∃ Y, A7.alloc (.cells #[.int .u8 0] 5) = Y := ⟨_, rfl⟩
        obtain ⟨g8, hg8⟩ : ∃ g, A7.heap.size = g := ⟨_, rfl⟩
        rw [hX8] at S_9
        rw [hX8] at C_10
        rw [hX8] at Z_8
        rw [hg8] at Z_8
        rw [hX8, hg8]
        clear hX8 hg8 hba8
        refine wpAnyH_ready (rs := [8, 10]) (by kernel_rfl) (by simp) ?_
        refine AllReadyH.cons rfl (fun K hK => ?_) (AllReadyH.cons rfl (fun K hK => ?_) (AllReadyH.nil))
        · refine step_append_own (by rfl) (.tmp 38) (.tmp 39) 22 rfl w4.heap.size i0 Tryd.underlying22 hi0 hzz0 hs0 hbb0 v38 key rfl C_10.out g8 (some ⟨g8, 0, none⟩) 1 1 [0] rfl rfl Z_8.out (by rw [HKEY.out]; have := HKL.out; simp; omega) S_9.out.size ?_
          intro v40 A11 ho11 hg11 ha11
          rw [HK0.out] at ho11
          obtain ⟨A40, q40, c40, rfl, hc40, _, hm40, _⟩ := ho11.form
          have S_11 := kept (show (fun w' : World => Below w4.heap.size w4 w') A11 from S_9.out.grown hg11 S_9.out.size (fun kk hk => (World.ownsRow.lt C_10.out kk hk).1))
          have K_11 := kept hm40
          have HC40 := kept hc40
          clear ho11 hg11 ha11 hc40 hm40
          clear S_9 C_10 Z_8
          refine hK.out _ _ S_11.out (fun _ => ?_)
          clear hK K
          try simp only [Act.put, List.getElem_toArray, List.getElem_cons_zero, List.getElem_cons_succ, List.setIfInBounds_toArray, List.set_cons_zero, List.set_cons_succ]
          refine wpAnyH_ready (rs := [10]) (by kernel_rfl) (by simp) ?_
          refine AllReadyH.cons rfl (fun K hK => ?_) (AllReadyH.nil)
          go_simp
          have hba12 : Below A11.heap.size A11 (A11.alloc (.cells #[.slice A2 b.length c2] 22)) := (Below.refl _ A11).alloc (Nat.le_refl _) _
          have L_12 := kept (Blk.new A11 22 #[.slice A2 b.length c2])
          have S_13 := kept (HKEEP.out _ _ S_11.out hba12)
          clear S_11
          have K_14 := kept (K_11.out.below0 hba12)
          clear K_11
          refine hK.out _ _ S_13.out (fun _ => ?_)
          clear hK K
          try simp only [Act.put, List.getElem_toArray, List.getElem_cons_zero, List.getElem_cons_succ, List.setIfInBounds_toArray, List.set_cons_zero, List.set_cons_succ]
          obtain ⟨X12, hX12⟩ : ∃ Y, A11.alloc (.cells #[.slice A2 b.length c2] 22) = Y := ⟨_, rfl⟩
          obtain ⟨g12, hg12⟩ : ∃ g, A11.heap.size = g := ⟨_, rfl⟩
          rw [hX12] at S_13
          rw [hX12] at K_14
          rw [hX12] at L_12
          rw [hg12] at L_12
          rw [hX12, hg12]
          clear hX12 hg12 hba12
          refine wpAnyH_ready (rs := [11]) (by kernel_rfl) (by simp) ?_
          refine AllReadyH.cons rfl (fun K hK => ?_) (AllReadyH.nil)
          go_simp
          refine (HMZ2.out X12 q40 g12 A40 c40 (HAT.out _ S_13.out).1 K_14.out HC40.out (memM_blk L_12.out (HAT.out _ S_13.out).2.2 HC2.out)).mono ?_
          rintro e Y15 ⟨rfl, hb15⟩
          have S_16 := kept (HKEEP.out _ _ S_13.out hb15)
          clear S_13
          refine hK.out _ _ S_16.out (fun _ => ?_)
          clear hK K
          try simp only [Act.put, List.getElem_toArray, List.getElem_cons_zero, List.getElem_cons_succ, List.setIfInBounds_toArray, List.set_cons_zero, List.set_cons_succ]
          refine wpAnyH_take (i := 13) (v := .bool true) rfl (by kernel_rfl) (by kernel_rfl) (by kernel_rfl) (fun _ _ _ h => h) (Or.inl ⟨by rfl, ?_⟩) S_16.out ?_
          · intro w _
            have hrun := HNEQ.out w
            go_simp
          try simp only [Act.put, List.getElem_toArray, List.getElem_cons_zero, List.getElem_cons_succ, List.setIfInBounds_toArray, List.set_cons_zero, List.set_cons_succ]
          refine wpAnyH_take (i := 14) (v := ?_) rfl (by kernel_rfl) (by kernel_rfl) (by kernel_rfl) (fun _ _ _ h => h) (Or.inl ⟨by rfl, ?_⟩) S_16.out ?_
          rotate_left
          · intro w _; go_simp; with_reducible rfl
          try simp only [Act.put, List.getElem_toArray, List.getElem_cons_zero, List.getElem_cons_succ, List.setIfInBounds_toArray, List.set_cons_zero, List.set_cons_succ]
          refine wpAnyH_take (i := 15) (v := ?_) rfl (by kernel_rfl) (by kernel_rfl) (by kernel_rfl) (fun _ _ _ h => h) (Or.inl ⟨by rfl, ?_⟩) S_16.out ?_
          rotate_left
          · intro w _; go_simp; with_reducible rfl
          try simp only [Act.put, List.getElem_toArray, List.getElem_cons_zero, List.getElem_cons_succ, List.setIfInBounds_toArray, List.set_cons_zero, List.set_cons_succ]
          refine wpAnyH_done (by kernel_rfl) ?_ _
          go_wp2
          go_ret
          exact ⟨rfl, HB4.out.trans (S_16.out.mono HB4.out.size)⟩
        · have hltC := fun (kk : Nat) (hk : v38.ownBlock = some kk) => (World.ownsRow.lt C_10.out kk hk).2
          go_simp
          have hba17 : Below X8.heap.size X8 (X8.alloc (.cells #[.slice A2 b.length c2] 22)) := (Below.refl _ X8).alloc (Nat.le_refl _) _
          have L_17 := kept (Blk.new X8 22 #[.slice A2 b.length c2])
          have S_18 := kept (HKEEP.out _ _ S_9.out hba17)
          clear S_9
          have C_19 := kept (C_10.out.below hba17)
          clear C_10
          have Z_20 := kept (Z_8.out.below0 hba17)
          clear Z_8
          refine hK.out _ _ S_18.out (fun _ => ?_)
          clear hK K
          try simp only [Act.put, List.getElem_toArray, List.getElem_cons_zero, List.getElem_cons_succ, List.setIfInBounds_toArray, List.set_cons_zero, List.set_cons_succ]
          obtain ⟨X17, hX17⟩ : ∃ Y, X8.alloc (.cells #[.slice A2 b.length c2] 22) = Y := ⟨_, rfl⟩
          obtain ⟨g17, hg17⟩ : ∃ g, X8.heap.size = g := ⟨_, rfl⟩
          rw [hX17] at S_18
          rw [hX17] at C_19
          rw [hX17] at Z_20
          rw [hX17] at L_17
          rw [hg17] at hltC
          rw [hg17] at L_17
          rw [hX17, hg17]
          clear hX17 hg17 hba17
          have LC := kept (show ∀ kk, v38.ownBlock = some kk → kk ≠ g17 from fun kk hk => by have := hltC kk hk; omega)
          clear hltC
          refine wpAnyH_ready (rs := [8]) (by kernel_rfl) (by simp) ?_
          refine AllReadyH.cons rfl (fun K hK => ?_) (AllReadyH.nil)
          refine step_append_own (by rfl) (.tmp 38) (.tmp 39) 22 rfl w4.heap.size i0 Tryd.underlying22 hi0 hzz0 hs0 hbb0 v38 key rfl C_19.out g8 (some ⟨g8, 0, none⟩) 1 1 [0] rfl rfl Z_20.out (by rw [HKEY.out]; have := HKL.out; simp; omega) S_18.out.size ?_
          intro v40 A21 ho21 hg21 ha21
          rw [HK0.out] at ho21
          obtain ⟨A40, q40, c40, rfl, hc40, _, hm40, _⟩ := ho21.form
          have S_21 := kept (show (fun w' : World => Below w4.heap.size w4 w') A21 from S_18.out.grown hg21 S_18.out.size (fun kk hk => (World.ownsRow.lt C_19.out kk hk).1))
          have K_21 := kept hm40
          have HC40 := kept hc40
          have L_21 := kept (L_17.out.grown hg21 (fun e => LC.out _ e.symm rfl))
          clear ho21 hg21 ha21 hc40 hm40
          clear S_18 C_19 Z_20 L_17
          refine hK.out _ _ S_21.out (fun _ => ?_)
          clear hK K
          try simp only [Act.put, List.getElem_toArray, List.getElem_cons_zero, List.getElem_cons_succ, List.setIfInBounds_toArray, List.set_cons_zero, List.set_cons_succ]
          refine wpAnyH_ready (rs := [11]) (by kernel_rfl) (by simp) ?_
          refine AllReadyH.cons rfl (fun K hK => ?_) (AllReadyH.nil)
          go_simp
          refine (HMZ2.out A21 q40 g17 A40 c40 (HAT.out _ S_21.out).1 K_21.out HC40.out (memM_blk L_21.out (HAT.out _ S_21.out).2.2 HC2.out)).mono ?_
          rintro e Y22 ⟨rfl, hb22⟩
          have S_23 := kept (HKEEP.out _ _ S_21.out hb22)
          clear S_21
          refine hK.out _ _ S_23.out (fun _ => ?_)
          clear hK K
          try simp only [Act.put, List.getElem_toArray, List.getElem_cons_zero, List.getElem_cons_succ, List.setIfInBounds_toArray, List.set_cons_zero, List.set_cons_succ]
          refine wpAnyH_take (i := 13) (v := .bool true) rfl (by kernel_rfl) (by kernel_rfl) (by kernel_rfl) (fun _ _ _ h => h) (Or.inl ⟨by rfl, ?_⟩) S_23.out ?_
          · intro w _
            have hrun := HNEQ.out w
            go_simp
          try simp only [Act.put, List.getElem_toArray, List.getElem_cons_zero, List.getElem_cons_succ, List.setIfInBounds_toArray, List.set_cons_zero, List.set_cons_succ]
          refine wpAnyH_take (i := 14) (v := ?_) rfl (by kernel_rfl) (by kernel_rfl) (by kernel_rfl) (fun _ _ _ h => h) (Or.inl ⟨by rfl, ?_⟩) S_23.out ?_
          rotate_left
          · intro w _; go_simp; with_reducible rfl
          try simp only [Act.put, List.getElem_toArray, List.getElem_cons_zero, List.getElem_cons_succ, List.setIfInBounds_toArray, List.set_cons_zero, List.set_cons_succ]
          refine wpAnyH_take (i := 15) (v := ?_) rfl (by kernel_rfl) (by kernel_rfl) (by kernel_rfl) (fun _ _ _ h => h) (Or.inl ⟨by rfl, ?_⟩) S_23.out ?_
          rotate_left
          · intro w _; go_simp; with_reducible rfl
          try simp only [Act.put, List.getElem_toArray, List.getElem_cons_zero, List.getElem_cons_succ, List.setIfInBounds_toArray, List.set_cons_zero, List.set_cons_succ]
          refine wpAnyH_done (by kernel_rfl) ?_ _
          go_wp2
          go_ret
          exact ⟨rfl, HB4.out.trans (S_23.out.mono HB4.out.size)⟩
      · have hltC := fun (kk : Nat) (hk : v38.ownBlock = some kk) => (World.ownsRow.lt C_7.out kk hk).2
        go_simp
        have hba24 : Below A7.heap.size A7 (A7.alloc (.cells #[.slice A2 b.length c2] 22)) := (Below.refl _ A7).alloc (Nat.le_refl _) _
        have L_24 := kept (Blk.new A7 22 #[.slice A2 b.length c2])
        have S_25 := kept (HKEEP.out _ _ S_7.out hba24)
        clear S_7
        have C_26 := kept (C_7.out.below hba24)
        clear C_7
        refine hK.out _ _ S_25.out (fun _ => ?_)
        clear hK K
        try simp only [Act.put, List.getElem_toArray, List.getElem_cons_zero, List.getElem_cons_succ, List.setIfInBounds_toArray, List.set_cons_zero, List.set_cons_succ]
        obtain ⟨X24, hX24⟩ : ∃ Y, A7.alloc (.cells #[.slice A2 b.length c2] 22) = Y := ⟨_, rfl⟩
        obtain ⟨g24, hg24⟩ : ∃ g, A7.heap.size = g := ⟨_, rfl⟩
        rw [hX24] at S_25
        rw [hX24] at C_26
        rw [hX24] at L_24
        rw [hg24] at hltC
        rw [hg24] at L_24
        rw [hX24, hg24]
        clear hX24 hg24 hba24
        have LC := kept (show ∀ kk, v38.ownBlock = some kk → kk ≠ g24 from fun kk hk => by have := hltC kk hk; omega)
        clear hltC
        refine wpAnyH_ready (rs := [7]) (by kernel_rfl) (by simp) ?_
        refine AllReadyH.cons rfl (fun K hK => ?_) (AllReadyH.nil)
        go_simp
        have hba27 : Below X24.heap.size X24 (X24.alloc (.cells #[.int .u8 0] 5)) := (Below.refl _ X24).alloc (Nat.le_refl _) _
        have Z_27 := kept (show Mem (X24.alloc (.cells #[.int .u8 0] 5)) X24.heap.size (some ⟨X24.heap.size, 0, none⟩) [0] from mem_lit1 (w := X24) (b := 0) rfl)
        have S_28 := kept (HKEEP.out _ _ S_25.out hba27)
        clear S_25
        have C_29 := kept (C_26.out.below hba27)
        clear C_26
        have L_30 := kept (L_24.out.below hba27 L_24.out.lt)
        clear L_24
        refine hK.out _ _ S_28.out (fun _ => ?_)
        clear hK K
        try simp only [Act.put, List.getElem_toArray, List.getElem_cons_zero, List.getElem_cons_succ, List.setIfInBounds_toArray, List.set_cons_zero, List.set_cons_succ]
        obtain ⟨X27, hX27⟩ : ∃ Y, X24.alloc (.cells #[.int .u8 0] 5) = Y := ⟨_, rfl⟩
        obtain ⟨g27, hg27⟩ : ∃ g, X24.heap.size = g := ⟨_, rfl⟩
        rw [hX27] at S_28
        rw [hX27] at C_29
        rw [hX27] at L_30
        rw [hX27] at Z_27
        rw [hg27] at Z_27
        rw [hX27, hg27]
        clear hX27 hg27 hba27
        refine wpAnyH_ready (rs := [8]) (by kernel_rfl) (by simp) ?_
        refine AllReadyH.cons rfl (fun K hK => ?_) (AllReadyH.nil)
        refine step_append_own (by rfl) (.tmp 38) (.tmp 39) 22 rfl w4.heap.size i0 Tryd.underlying22 hi0 hzz0 hs0 hbb0 v38 key rfl C_29.out g27 (some ⟨g27, 0, none⟩) 1 1 [0] rfl rfl Z_27.out (by rw [HKEY.out]; have := HKL.out; simp; omega) S_28.out.size ?_
        intro v40 A31 ho31 hg31 ha31
        rw [HK0.out] at ho31
        obtain ⟨A40, q40, c40, rfl, hc40, _, hm40, _⟩ := ho31.form
        have S_31 := kept (show (fun w' : World => Below w4.heap.size w4 w') A31 from S_28.out.grown hg31 S_28.out.size (fun kk hk => (World.ownsRow.lt C_29.out kk hk).1))
        have K_31 := kept hm40
        have HC40 := kept hc40
        have L_31 := kept (L_30.out.grown hg31 (fun e => LC.out _ e.symm rfl))
        clear ho31 hg31 ha31 hc40 hm40
        clear S_28 C_29 L_30 Z_27
        refine hK.out _ _ S_31.out (fun _ => ?_)
        clear hK K
        try simp only [Act.put, List.getElem_toArray, List.getElem_cons_zero, List.getElem_cons_succ, List.setIfInBounds_toArray, List.set_cons_zero, List.set_cons_succ]
        refine wpAnyH_ready (rs := [11]) (by kernel_rfl) (by simp) ?_
        refine AllReadyH.cons rfl (fun K hK => ?_) (AllReadyH.nil)
        go_simp
        refine (HMZ2.out A31 q40 g24 A40 c40 (HAT.out _ S_31.out).1 K_31.out HC40.out (memM_blk L_31.out (HAT.out _ S_31.out).2.2 HC2.out)).mono ?_
        rintro e Y32 ⟨rfl, hb32⟩
        have S_33 := kept (HKEEP.out _ _ S_31.out hb32)
        clear S_31
        refine hK.out _ _ S_33.out (fun _ => ?_)
        clear hK K
        try simp only [Act.put, List.getElem_toArray, List.getElem_cons_zero, List.getElem_cons_succ, List.setIfInBounds_toArray, List.set_cons_zero, List.set_cons_succ]
        refine wpAnyH_take (i := 13) (v := .bool true) rfl (by kernel_rfl) (by kernel_rfl) (by kernel_rfl) (fun _ _ _ h => h) (Or.inl ⟨by rfl, ?_⟩) S_33.out ?_
        · intro w _
          have hrun := HNEQ.out w
          go_simp
        try simp only [Act.put, List.getElem_toArray, List.getElem_cons_zero, List.getElem_cons_succ, List.setIfInBounds_toArray, List.set_cons_zero, List.set_cons_succ]
        refine wpAnyH_take (i := 14) (v := ?_) rfl (by kernel_rfl) (by kernel_rfl) (by kernel_rfl) (fun _ _ _ h => h) (Or.inl ⟨by rfl, ?_⟩) S_33.out ?_
        rotate_left
        · intro w _; go_simp; with_reducible rfl
        try simp only [Act.put, List.getElem_toArray, List.getElem_cons_zero, List.getElem_cons_succ, List.setIfInBounds_toArray, List.set_cons_zero, List.set_cons_succ]
        refine wpAnyH_take (i := 15) (v := ?_) rfl (by kernel_rfl) (by kernel_rfl) (by kernel_rfl) (fun _ _ _ h => h) (Or.inl ⟨by rfl, ?_⟩) S_33.out ?_
        rotate_left
        · intro w _; go_simp; with_reducible rfl
        try simp only [Act.put, List.getElem_toArray, List.getElem_cons_zero, List.getElem_cons_succ, List.setIfInBounds_toArray, List.set_cons_zero, List.set_cons_succ]
        refine wpAnyH_done (by kernel_rfl) ?_ _
        go_wp2
        go_ret
        exact ⟨rfl, HB4.out.trans (S_33.out.mono HB4.out.size)⟩
    · have hltE : g5 < X5.heap.size := (World.ownsRow.lt E_5.out _ rfl).2
      go_simp
      have hba34 : Below X5.heap.size X5 (X5.alloc (.cells #[.int .u8 0] 5)) := (Below.refl _ X5).alloc (Nat.le_refl _) _
      have Z_34 := kept (show Mem (X5.alloc (.cells #[.int .u8 0] 5)) X5.heap.size (some ⟨X5.heap.size, 0, none⟩) [0] from mem_lit1 (w := X5) (b := 0) rfl)
      have S_35 := kept (HKEEP.out _ _ S_6.out hba34)
      clear S_6
      have E_36 := kept (E_5.out.below hba34)
      clear E_5
      refine hK.out _ _ S_35.out (fun _ => ?_)
      clear hK K
      try simp only [Act.put, List.getElem_toArray, List.getElem_cons_zero, List.getElem_cons_succ, List.setIfInBounds_toArray, List.set_cons_zero, List.set_cons_succ]
      obtain ⟨X34, hX34⟩ : ∃ Y, X5.alloc (.cells #[.int .u8 0] 5) = Y := ⟨_, rfl⟩
      obtain ⟨g34, hg34⟩ : ∃ g, X5.heap.size = g := ⟨_, rfl⟩
      rw [hX34] at S_35
      rw [hX34] at E_36
      rw [hX34] at Z_34
      rw [hg34] at hltE
      rw [hg34] at Z_34
      rw [hX34, hg34]
      clear hX34 hg34 hba34
      have NEZ := kept (show g34 ≠ g5 by omega)
      clear hltE
      refine wpAnyH_ready (rs := [6, 10]) (by kernel_rfl) (by simp) ?_
      refine AllReadyH.cons rfl (fun K hK => ?_) (AllReadyH.cons rfl (fun K hK => ?_) (AllReadyH.nil))
      · refine step_append_own (by rfl) (.tmp 36) (.tmp 37) 22 rfl w4.heap.size i0 Tryd.underlying22 hi0 hzz0 hs0 hbb0 (.slice (some ⟨g5, 0, none⟩) 0 0) [] rfl E_36.out qk (some ⟨qk, 0, none⟩) kl ck key rfl HKEY.out.symm (HAT.out _ S_35.out).2.1 (by rw [HKEY.out]; have := HKL.out; simp; omega) S_35.out.size ?_
        intro v38 A37 ho37 hg37 ha37
        rw [List.nil_append] at ho37
        have hE37 : w4.heap.size ≤ g5 := (World.ownsRow.lt E_36.out _ rfl).1
        have S_37 := kept (show (fun w' : World => Below w4.heap.size w4 w') A37 from S_35.out.grown hg37 S_35.out.size (fun kk hk => by simp [Value.ownBlock] at hk; omega))
        have C_37 := kept ho37
        have Z_37 := kept (Z_34.out.grown hg37 (fun e => NEZ.out (by simpa [Value.ownBlock] using e)))
        clear ho37 hg37 ha37 hE37
        clear S_35 E_36 Z_34
        refine hK.out _ _ S_37.out (fun _ => ?_)
        clear hK K
        try simp only [Act.put, List.getElem_toArray, List.getElem_cons_zero, List.getElem_cons_succ, List.setIfInBounds_toArray, List.set_cons_zero, List.set_cons_succ]
        refine wpAnyH_ready (rs := [8, 10]) (by kernel_rfl) (by simp) ?_
        refine AllReadyH.cons rfl (fun K hK => ?_) (AllReadyH.cons rfl (fun K hK => ?_) (AllReadyH.nil))
        · refine step_append_own (by rfl) (.tmp 38) (.tmp 39) 22 rfl w4.heap.size i0 Tryd.underlying22 hi0 hzz0 hs0 hbb0 v38 key rfl C_37.out g34 (some ⟨g34, 0, none⟩) 1 1 [0] rfl rfl Z_37.out (by rw [HKEY.out]; have := HKL.out; simp; omega) S_37.out.size ?_
          intro v40 A38 ho38 hg38 ha38
          rw [HK0.out] at ho38
          obtain ⟨A40, q40, c40, rfl, hc40, _, hm40, _⟩ := ho38.form
          have S_38 := kept (show (fun w' : World => Below w4.heap.size w4 w') A38 from S_37.out.grown hg38 S_37.out.size (fun kk hk => (World.ownsRow.lt C_37.out kk hk).1))
          have K_38 := kept hm40
          have HC40 := kept hc40
          clear ho38 hg38 ha38 hc40 hm40
          clear S_37 C_37 Z_37
          refine hK.out _ _ S_38.out (fun _ => ?_)
          clear hK K
          try simp only [Act.put, List.getElem_toArray, List.getElem_cons_zero, List.getElem_cons_succ, List.setIfInBounds_toArray, List.set_cons_zero, List.set_cons_succ]
          refine wpAnyH_ready (rs := [10]) (by kernel_rfl) (by simp) ?_
          refine AllReadyH.cons rfl (fun K hK => ?_) (AllReadyH.nil)
          go_simp
          have hba39 : Below A38.heap.size A38 (A38.alloc (.cells #[.slice A2 b.length c2] 22)) := (Below.refl _ A38).alloc (Nat.le_refl _) _
          have L_39 := kept (Blk.new A38 22 #[.slice A2 b.length c2])
          have S_40 := kept (HKEEP.out _ _ S_38.out hba39)
          clear S_38
          have K_41 := kept (K_38.out.below0 hba39)
          clear K_38
          refine hK.out _ _ S_40.out (fun _ => ?_)
          clear hK K
          try simp only [Act.put, List.getElem_toArray, List.getElem_cons_zero, List.getElem_cons_succ, List.setIfInBounds_toArray, List.set_cons_zero, List.set_cons_succ]
          obtain ⟨X39, hX39⟩ : ∃ Y, A38.alloc (.cells #[.slice A2 b.length c2] 22) = Y := ⟨_, rfl⟩
          obtain ⟨g39, hg39⟩ : ∃ g, A38.heap.size = g := ⟨_, rfl⟩
          rw [hX39] at S_40
          rw [hX39] at K_41
          rw [hX39] at L_39
          rw [hg39] at L_39
          rw [hX39, hg39]
          clear hX39 hg39 hba39
          refine wpAnyH_ready (rs := [11]) (by kernel_rfl) (by simp) ?_
          refine AllReadyH.cons rfl (fun K hK => ?_) (AllReadyH.nil)
          go_simp
          refine (HMZ2.out X39 q40 g39 A40 c40 (HAT.out _ S_40.out).1 K_41.out HC40.out (memM_blk L_39.out (HAT.out _ S_40.out).2.2 HC2.out)).mono ?_
          rintro e Y42 ⟨rfl, hb42⟩
          have S_43 := kept (HKEEP.out _ _ S_40.out hb42)
          clear S_40
          refine hK.out _ _ S_43.out (fun _ => ?_)
          clear hK K
          try simp only [Act.put, List.getElem_toArray, List.getElem_cons_zero, List.getElem_cons_succ, List.setIfInBounds_toArray, List.set_cons_zero, List.set_cons_succ]
          refine wpAnyH_take (i := 13) (v := .bool true) rfl (by kernel_rfl) (by kernel_rfl) (by kernel_rfl) (fun _ _ _ h => h) (Or.inl ⟨by rfl, ?_⟩) S_43.out ?_
          · intro w _
            have hrun := HNEQ.out w
            go_simp
          try simp only [Act.put, List.getElem_toArray, List.getElem_cons_zero, List.getElem_cons_succ, List.setIfInBounds_toArray, List.set_cons_zero, List.set_cons_succ]
          refine wpAnyH_take (i := 14) (v := ?_) rfl (by kernel_rfl) (by kernel_rfl) (by kernel_rfl) (fun _ _ _ h => h) (Or.inl ⟨by rfl, ?_⟩) S_43.out ?_
          rotate_left
          · intro w _; go_simp; with_reducible rfl
          try simp only [Act.put, List.getElem_toArray, List.getElem_cons_zero, List.getElem_cons_succ, List.setIfInBounds_toArray, List.set_cons_zero, List.set_cons_succ]
          refine wpAnyH_take (i := 15) (v := ?_) rfl (by kernel_rfl) (by kernel_rfl) (by kernel_rfl) (fun _ _ _ h => h) (Or.inl ⟨by rfl, ?_⟩) S_43.out ?_
          rotate_left
          · intro w _; go_simp; with_reducible rfl
          try simp only [Act.put, List.getElem_toArray, List.getElem_cons_zero, List.getElem_cons_succ, List.setIfInBounds_toArray, List.set_cons_zero, List.set_cons_succ]
          refine wpAnyH_done (by kernel_rfl) ?_ _
          go_wp2
          go_ret
          exact ⟨rfl, HB4.out.trans (S_43.out.mono HB4.out.size)⟩
        · have hltC := fun (kk : Nat) (hk : v38.ownBlock = some kk) => (World.ownsRow.lt C_37.out kk hk).2
          go_simp
          have hba44 : Below A37.heap.size A37 (A37.alloc (.cells #[.slice A2 b.length c2] 22)) := (Below.refl _ A37).alloc (Nat.le_refl _) _
          have L_44 := kept (Blk.new A37 22 #[.slice A2 b.length c2])
          have S_45 := kept (HKEEP.out _ _ S_37.out hba44)
          clear S_37
          have C_46 := kept (C_37.out.below hba44)
          clear C_37
          have Z_47 := kept (Z_37.out.below0 hba44)
          clear Z_37
          refine hK.out _ _ S_45.out (fun _ => ?_)
          clear hK K
          try simp only [Act.put, List.getElem_toArray, List.getElem_cons_zero, List.getElem_cons_succ, List.setIfInBounds_toArray, List.set_cons_zero, List.set_cons_succ]
          obtain ⟨X44, hX44⟩ : ∃ Y, A37.alloc (.cells #[.slice A2 b.length c2] 22) = Y := ⟨_, rfl⟩
          obtain ⟨g44, hg44⟩ : ∃ g, A37.heap.size = g := ⟨_, rfl⟩
          rw [hX44] at S_45
          rw [hX44] at C_46
          rw [hX44] at Z_47
          rw [hX44] at L_44
          rw [hg44] at hltC
          rw [hg44] at L_44
          rw [hX44, hg44]
          clear hX44 hg44 hba44
          have LC := kept (show ∀ kk, v38.ownBlock = some kk → kk ≠ g44 from fun kk hk => by have := hltC kk hk; omega)
          clear hltC
          refine wpAnyH_ready (rs := [8]) (by kernel_rfl) (by simp) ?_
          refine AllReadyH.cons rfl (fun K hK => ?_) (AllReadyH.nil)
          refine step_append_own (by rfl) (.tmp 38) (.tmp 39) 22 rfl w4.heap.size i0 Tryd.underlying22 hi0 hzz0 hs0 hbb0 v38 key rfl C_46.out g34 (some ⟨g34, 0, none⟩) 1 1 [0] rfl rfl Z_47.out (by rw [HKEY.out]; have := HKL.out; simp; omega) S_45.out.size ?_
          intro v40 A48 ho48 hg48 ha48
          rw [HK0.out] at ho48
          obtain ⟨A40, q40, c40, rfl, hc40, _, hm40, _⟩ := ho48.form
          have S_48 := kept (show (fun w' : World => Below w4.heap.size w4 w') A48 from S_45.out.grown hg48 S_45.out.size (fun kk hk => (World.ownsRow.lt C_46.out kk hk).1))
          have K_48 := kept hm40
          have HC40 := kept hc40
          have L_48 := kept (L_44.out.grown hg48 (fun e => LC.out _ e.symm rfl))
          clear ho48 hg48 ha48 hc40 hm40
          clear S_45 C_46 Z_47 L_44
          refine hK.out _ _ S_48.out (fun _ => ?_)
          clear hK K
          try simp only [Act.put, List.getElem_toArray, List.getElem_cons_zero, List.getElem_cons_succ, List.setIfInBounds_toArray, List.set_cons_zero, List.set_cons_succ]
          refine wpAnyH_ready (rs := [11]) (by kernel_rfl) (by simp) ?_
          refine AllReadyH.cons rfl (fun K hK => ?_) (AllReadyH.nil)
          go_simp
          refine (HMZ2.out A48 q40 g44 A40 c40 (HAT.out _ S_48.out).1 K_48.out HC40.out (memM_blk L_48.out (HAT.out _ S_48.out).2.2 HC2.out)).mono ?_
          rintro e Y49 ⟨rfl, hb49⟩
          have S_50 := kept (HKEEP.out _ _ S_48.out hb49)
          clear S_48
          refine hK.out _ _ S_50.out (fun _ => ?_)
          clear hK K
          try simp only [Act.put, List.getElem_toArray, List.getElem_cons_zero, List.getElem_cons_succ, List.setIfInBounds_toArray, List.set_cons_zero, List.set_cons_succ]
          refine wpAnyH_take (i := 13) (v := .bool true) rfl (by kernel_rfl) (by kernel_rfl) (by kernel_rfl) (fun _ _ _ h => h) (Or.inl ⟨by rfl, ?_⟩) S_50.out ?_
          · intro w _
            have hrun := HNEQ.out w
            go_simp
          try simp only [Act.put, List.getElem_toArray, List.getElem_cons_zero, List.getElem_cons_succ, List.setIfInBounds_toArray, List.set_cons_zero, List.set_cons_succ]
          refine wpAnyH_take (i := 14) (v := ?_) rfl (by kernel_rfl) (by kernel_rfl) (by kernel_rfl) (fun _ _ _ h => h) (Or.inl ⟨by rfl, ?_⟩) S_50.out ?_
          rotate_left
          · intro w _; go_simp; with_reducible rfl
          try simp only [Act.put, List.getElem_toArray, List.getElem_cons_zero, List.getElem_cons_succ, List.setIfInBounds_toArray, List.set_cons_zero, List.set_cons_succ]
          refine wpAnyH_take (i := 15) (v := ?_) rfl (by kernel_rfl) (by kernel_rfl) (by kernel_rfl) (fun _ _ _ h => h) (Or.inl ⟨by rfl, ?_⟩) S_50.out ?_
          rotate_left
          · intro w _; go_simp; with_reducible rfl
          try simp only [Act.put, List.getElem_toArray, List.getElem_cons_zero, List.getElem_cons_succ, List.setIfInBounds_toArray, List.set_cons_zero, List.set_cons_succ]
          refine wpAnyH_done (by kernel_rfl) ?_ _
          go_wp2
          go_ret
          exact ⟨rfl, HB4.out.trans (S_50.out.mono HB4.out.size)⟩
      · have hltE : g5 < X34.heap.size := (World.ownsRow.lt E_36.out _ rfl).2
        go_simp
        have hba51 : Below X34.heap.size X34 (X34.alloc (.cells #[.slice A2 b.length c2] 22)) := (Below.refl _ X34).alloc (Nat.le_refl _) _
        have L_51 := kept (Blk.new X34 22 #[.slice A2 b.length c2])
        have S_52 := kept (HKEEP.out _ _ S_35.out hba51)
        clear S_35
        have E_53 := kept (E_36.out.below hba51)
        clear E_36
        have Z_54 := kept (Z_34.out.below0 hba51)
        clear Z_34
        refine hK.out _ _ S_52.out (fun _ => ?_)
        clear hK K
        try simp only [Act.put, List.getElem_toArray, List.getElem_cons_zero, List.getElem_cons_succ, List.setIfInBounds_toArray, List.set_cons_zero, List.set_cons_succ]
        obtain ⟨X51, hX51⟩ : ∃ Y, X34.alloc (.cells #[.slice A2 b.length c2] 22) = Y := ⟨_, rfl⟩
        obtain ⟨g51, hg51⟩ : ∃ g, X34.heap.size = g := ⟨_, rfl⟩
        rw [hX51] at S_52
        rw [hX51] at E_53
        rw [hX51] at Z_54
        rw [hX51] at L_51
        rw [hg51] at hltE
        rw [hg51] at L_51
        rw [hX51, hg51]
        clear hX51 hg51 hba51
        have NEL := kept (show g51 ≠ g5 by omega)
        clear hltE
        refine wpAnyH_ready (rs := [6]) (by kernel_rfl) (by simp) ?_
        refine AllReadyH.cons rfl (fun K hK => ?_) (AllReadyH.nil)
        refine step_append_own (by rfl) (.tmp 36) (.tmp 37) 22 rfl w4.heap.size i0 Tryd.underlying22 hi0 hzz0 hs0 hbb0 (.slice (some ⟨g5, 0, none⟩) 0 0) [] rfl E_53.out qk (some ⟨qk, 0, none⟩) kl ck key rfl HKEY.out.symm (HAT.out _ S_52.out).2.1 (by rw [HKEY.out]; have := HKL.out; simp; omega) S_52.out.size ?_
        intro v38 A55 ho55 hg55 ha55
        rw [List.nil_append] at ho55
        have hE55 : w4.heap.size ≤ g5 := (World.ownsRow.lt E_53.out _ rfl).1
        have S_55 := kept (show (fun w' : World => Below w4.heap.size w4 w') A55 from S_52.out.grown hg55 S_52.out.size (fun kk hk => by simp [Value.ownBlock] at hk; omega))
        have C_55 := kept ho55
        have Z_55 := kept (Z_54.out.grown hg55 (fun e => NEZ.out (by simpa [Value.ownBlock] using e)))
        have hL55 := L_51.out.lt
        have L_55 := kept (L_51.out.grown hg55 (fun e => NEL.out (by simpa [Value.ownBlock] using e)))
        have LC := kept (show ∀ kk, v38.ownBlock = some kk → kk ≠ g51 from fun kk hk => by
          have hne := NEL.out
          rcases ha55 with h | h
          · rw [h] at hk; simp [Value.ownBlock] at hk; omega
          · rw [h] at hk; injection hk with hk; omega)
        clear hL55
        clear ho55 hg55 ha55 hE55
        clear S_52 E_53 Z_54 L_51
        refine hK.out _ _ S_55.out (fun _ => ?_)
        clear hK K
        try simp only [Act.put, List.getElem_toArray, List.getElem_cons_zero, List.getElem_cons_succ, List.setIfInBounds_toArray, List.set_cons_zero, List.set_cons_succ]
        refine wpAnyH_ready (rs := [8]) (by kernel_rfl) (by simp) ?_
        refine AllReadyH.cons rfl (fun K hK => ?_) (AllReadyH.nil)
        refine step_append_own (by rfl) (.tmp 38) (.tmp 39) 22 rfl w4.heap.size i0 Tryd.underlying22 hi0 hzz0 hs0 hbb0 v38 key rfl C_55.out g34 (some ⟨g34, 0, none⟩) 1 1 [0] rfl rfl Z_55.out (by rw [HKEY.out]; have := HKL.out; simp; omega) S_55.out.size ?_
        intro v40 A56 ho56 hg56 ha56
        rw [HK0.out] at ho56
        obtain ⟨A40, q40, c40, rfl, hc40, _, hm40, _⟩ := ho56.form
        have S_56 := kept (show (fun w' : World => Below w4.heap.size w4 w') A56 from S_55.out.grown hg56 S_55.out.size (fun kk hk => (World.ownsRow.lt C_55.out kk hk).1))
        have K_56 := kept hm40
        have HC40 := kept hc40
        have L_56 := kept (L_55.out.grown hg56 (fun e => LC.out _ e.symm rfl))
        clear ho56 hg56 ha56 hc40 hm40
        clear S_55 C_55 Z_55 L_55
        refine hK.out _ _ S_56.out (fun _ => ?_)
        clear hK K
        try simp only [Act.put, List.getElem_toArray, List.getElem_cons_zero, List.getElem_cons_succ, List.setIfInBounds_toArray, List.set_cons_zero, List.set_cons_succ]
        refine wpAnyH_ready (rs := [11]) (by kernel_rfl) (by simp) ?_
        refine AllReadyH.cons rfl (fun K hK => ?_) (AllReadyH.nil)
        go_simp
        refine (HMZ2.out A56 q40 g51 A40 c40 (HAT.out _ S_56.out).1 K_56.out HC40.out (memM_blk L_56.out (HAT.out _ S_56.out).2.2 HC2.out)).mono ?_
        rintro e Y57 ⟨rfl, hb57⟩
        have S_58 := kept (HKEEP.out _ _ S_56.out hb57)
        clear S_56
        refine hK.out _ _ S_58.out (fun _ => ?_)
        clear hK K
        try simp only [Act.put, List.getElem_toArray, List.getElem_cons_zero, List.getElem_cons_succ, List.setIfInBounds_toArray, List.set_cons_zero, List.set_cons_succ]
        refine wpAnyH_take (i := 13) (v := .bool true) rfl (by kernel_rfl) (by kernel_rfl) (by kernel_rfl) (fun _ _ _ h => h) (Or.inl ⟨by rfl, ?_⟩) S_58.out ?_
        · intro w _
          have hrun := HNEQ.out w
          go_simp
        try simp only [Act.put, List.getElem_toArray, List.getElem_cons_zero, List.getElem_cons_succ, List.setIfInBounds_toArray, List.set_cons_zero, List.set_cons_succ]
        refine wpAnyH_take (i := 14) (v := ?_) rfl (by kernel_rfl) (by kernel_rfl) (by kernel_rfl) (fun _ _ _ h => h) (Or.inl ⟨by rfl, ?_⟩) S_58.out ?_
        rotate_left
        · intro w _; go_simp; with_reducible rfl
        try simp only [Act.put, List.getElem_toArray, List.getElem_cons_zero, List.getElem_cons_succ, List.setIfInBounds_toArray, List.set_cons_zero, List.set_cons_succ]
        refine wpAnyH_take (i := 15) (v := ?_) rfl (by kernel_rfl) (by kernel_rfl) (by kernel_rfl) (fun _ _ _ h => h) (Or.inl ⟨by rfl, ?_⟩) S_58.out ?_
        rotate_left
        · intro w _; go_simp; with_reducible rfl
        try simp only [Act.put, List.getElem_toArray, List.getElem_cons_zero, List.getElem_cons_succ, List.setIfInBounds_toArray, List.set_cons_zero, List.set_cons_succ]
        refine wpAnyH_done (by kernel_rfl) ?_ _
        go_wp2
        go_ret
        exact ⟨rfl, HB4.out.trans (S_58.out.mono HB4.out.size)⟩
    · have hltE : g5 < X5.heap.size := (World.ownsRow.lt E_5.out _ rfl).2
      go_simp
      have hba59 : Below X5.heap.size X5 (X5.alloc (.cells #[.slice A2 b.length c2] 22)) := (Below.refl _ X5).alloc (Nat.le_refl _) _
      have L_59 := kept (Blk.new X5 22 #[.slice A2 b.length c2])
      have S_60 := kept (HKEEP.out _ _ S_6.out hba59)
      clear S_6
      have E_61 := kept (E_5.out.below hba59)
      clear E_5
      refine hK.out _ _ S_60.out (fun _ => ?_)
      clear hK K
      try simp only [Act.put, List.getElem_toArray, List.getElem_cons_zero, List.getElem_cons_succ, List.setIfInBounds_toArray, List.set_cons_zero, List.set_cons_succ]
      obtain ⟨X59, hX59⟩ : ∃ Y, X5.alloc (.cells #[.slice A2 b.length c2] 22) = Y := ⟨_, rfl⟩
      obtain ⟨g59, hg59⟩ : ∃ g, X5.heap.size = g := ⟨_, rfl⟩
      rw [hX59] at S_60
      rw [hX59] at E_61
      rw [hX59] at L_59
      rw [hg59] at hltE
      rw [hg59] at L_59
      rw [hX59, hg59]
      clear hX59 hg59 hba59
      have NEL := kept (show g59 ≠ g5 by omega)
      clear hltE
      refine wpAnyH_ready (rs := [6, 7]) (by kernel_rfl) (by simp) ?_
      refine AllReadyH.cons rfl (fun K hK => ?_) (AllReadyH.cons rfl (fun K hK => ?_) (AllReadyH.nil))
      · refine step_append_own (by rfl) (.tmp 36) (.tmp 37) 22 rfl w4.heap.size i0 Tryd.underlying22 hi0 hzz0 hs0 hbb0 (.slice (some ⟨g5, 0, none⟩) 0 0) [] rfl E_61.out qk (some ⟨qk, 0, none⟩) kl ck key rfl HKEY.out.symm (HAT.out _ S_60.out).2.1 (by rw [HKEY.out]; have := HKL.out; simp; omega) S_60.out.size ?_
        intro v38 A62 ho62 hg62 ha62
        rw [List.nil_append] at ho62
        have hE62 : w4.heap.size ≤ g5 := (World.ownsRow.lt E_61.out _ rfl).1
        have S_62 := kept (show (fun w' : World => Below w4.heap.size w4 w') A62 from S_60.out.grown hg62 S_60.out.size (fun kk hk => by simp [Value.ownBlock] at hk; omega))
        have C_62 := kept ho62
        have hL62 := L_59.out.lt
        have L_62 := kept (L_59.out.grown hg62 (fun e => NEL.out (by simpa [Value.ownBlock] using e)))
        have LC := kept (show ∀ kk, v38.ownBlock = some kk → kk ≠ g59 from fun kk hk => by
          have hne := NEL.out
          rcases ha62 with h | h
          · rw [h] at hk; simp [Value.ownBlock] at hk; omega
          · rw [h] at hk; injection hk with hk; omega)
        clear hL62
        clear ho62 hg62 ha62 hE62
        clear S_60 E_61 L_59
        refine hK.out _ _ S_62.out (fun _ => ?_)
        clear hK K
        try simp only [Act.put, List.getElem_toArray, List.getElem_cons_zero, List.getElem_cons_succ, List.setIfInBounds_toArray, List.set_cons_zero, List.set_cons_succ]
        refine wpAnyH_ready (rs := [7]) (by kernel_rfl) (by simp) ?_
        refine AllReadyH.cons rfl (fun K hK => ?_) (AllReadyH.nil)
        go_simp
        have hba63 : Below A62.heap.size A62 (A62.alloc (.cells #[.int .u8 0] 5)) := (Below.refl _ A62).alloc (Nat.le_refl _) _
        have Z_63 := kept (show Mem (A62.alloc (.cells #[.int .u8 0] 5)) A62.heap.size (some ⟨A62.heap.size, 0, none⟩) [0] from mem_lit1 (w := A62) (b := 0) rfl)
        have S_64 := kept (HKEEP.out _ _ S_62.out hba63)
        clear S_62
        have C_65 := kept (C_62.out.below hba63)
        clear C_62
        have L_66 := kept (L_62.out.below hba63 L_62.out.lt)
        clear L_62
        refine hK.out _ _ S_64.out (fun _ => ?_)
        clear hK K
        try simp only [Act.put, List.getElem_toArray, List.getElem_cons_zero, List.getElem_cons_succ, List.setIfInBounds_toArray, List.set_cons_zero, List.set_cons_succ]
        obtain ⟨X63, hX63⟩ : ∃ Y, A62.alloc (.cells #[.int .u8 0] 5) = Y := ⟨_, rfl⟩
        obtain ⟨g63, hg63⟩ : ∃ g, A62.heap.size = g := ⟨_, rfl⟩
        rw [hX63] at S_64
        rw [hX63] at C_65
        rw [hX63] at L_66
        rw [hX63] at Z_63
        rw [hg63] at Z_63
        rw [hX63, hg63]
        clear hX63 hg63 hba63
        refine wpAnyH_ready (rs := [8]) (by kernel_rfl) (by simp) ?_
        refine AllReadyH.cons rfl (fun K hK => ?_) (AllReadyH.nil)
        refine step_append_own (by rfl) (.tmp 38) (.tmp 39) 22 rfl w4.heap.size i0 Tryd.underlying22 hi0 hzz0 hs0 hbb0 v38 key rfl C_65.out g63 (some ⟨g63, 0, none⟩) 1 1 [0] rfl rfl Z_63.out (by rw [HKEY.out]; have := HKL.out; simp; omega) S_64.out.size ?_
        intro v40 A67 ho67 hg67 ha67
        rw [HK0.out] at ho67
        obtain ⟨A40, q40, c40, rfl, hc40, _, hm40, _⟩ := ho67.form
        have S_67 := kept (show (fun w' : World => Below w4.heap.size w4 w') A67 from S_64.out.grown hg67 S_64.out.size (fun kk hk => (World.ownsRow.lt C_65.out kk hk).1))
        have K_67 := kept hm40
        have HC40 := kept hc40
        have L_67 := kept (L_66.out.grown hg67 (fun e => LC.out _ e.symm rfl))
        clear ho67 hg67 ha67 hc40 hm40
        clear S_64 C_65 L_66 Z_63
        refine hK.out _ _ S_67.out (fun _ => ?_)
        clear hK K
        try simp only [Act.put, List.getElem_toArray, List.getElem_cons_zero, List.getElem_cons_succ, List.setIfInBounds_toArray, List.set_cons_zero, List.set_cons_succ]
        refine wpAnyH_ready (rs := [11]) (by kernel_rfl) (by simp) ?_
        refine AllReadyH.cons rfl (fun K hK => ?_) (AllReadyH.nil)
        go_simp
        refine (HMZ2.out A67 q40 g59 A40 c40 (HAT.out _ S_67.out).1 K_67.out HC40.out (memM_blk L_67.out (HAT.out _ S_67.out).2.2 HC2.out)).mono ?_
        rintro e Y68 ⟨rfl, hb68⟩
        have S_69 := kept (HKEEP.out _ _ S_67.out hb68)
        clear S_67
        refine hK.out _ _ S_69.out (fun _ => ?_)
        clear hK K
        try simp only [Act.put, List.getElem_toArray, List.getElem_cons_zero, List.getElem_cons_succ, List.setIfInBounds_toArray, List.set_cons_zero, List.set_cons_succ]
        refine wpAnyH_take (i := 13) (v := .bool true) rfl (by kernel_rfl) (by kernel_rfl) (by kernel_rfl) (fun _ _ _ h => h) (Or.inl ⟨by rfl, ?_⟩) S_69.out ?_
        · intro w _
          have hrun := HNEQ.out w
          go_simp
        try simp only [Act.put, List.getElem_toArray, List.getElem_cons_zero, List.getElem_cons_succ, List.setIfInBounds_toArray, List.set_cons_zero, List.set_cons_succ]
        refine wpAnyH_take (i := 14) (v := ?_) rfl (by kernel_rfl) (by kernel_rfl) (by kernel_rfl) (fun _ _ _ h => h) (Or.inl ⟨by rfl, ?_⟩) S_69.out ?_
        rotate_left
        · intro w _; go_simp; with_reducible rfl
        try simp only [Act.put, List.getElem_toArray, List.getElem_cons_zero, List.getElem_cons_succ, List.setIfInBounds_toArray, List.set_cons_zero, List.set_cons_succ]
        refine wpAnyH_take (i := 15) (v := ?_) rfl (by kernel_rfl) (by kernel_rfl) (by kernel_rfl) (fun _ _ _ h => h) (Or.inl ⟨by rfl, ?_⟩) S_69.out ?_
        rotate_left
        · intro w _; go_simp; with_reducible rfl
        try simp only [Act.put, List.getElem_toArray, List.getElem_cons_zero, List.getElem_cons_succ, List.setIfInBounds_toArray, List.set_cons_zero, List.set_cons_succ]
        refine wpAnyH_done (by kernel_rfl) ?_ _
        go_wp2
        go_ret
        exact ⟨rfl, HB4.out.trans (S_69.out.mono HB4.out.size)⟩
      · have hltE : g5 < X59.heap.size := (World.ownsRow.lt E_61.out _ rfl).2
        go_simp
        have hba70 : Below X59.heap.size X59 (X59.alloc (.cells #[.int .u8 0] 5)) := (Below.refl _ X59).alloc (Nat.le_refl _) _
        have Z_70 := kept (show Mem (X59.alloc (.cells #[.int .u8 0] 5)) X59.heap.size (some ⟨X59.heap.size, 0, none⟩) [0] from mem_lit1 (w := X59) (b := 0) rfl)
        have S_71 := kept (HKEEP.out _ _ S_60.out hba70)
        clear S_60
        have E_72 := kept (E_61.out.below hba70)
        clear E_61
        have L_73 := kept (L_59.out.below hba70 L_59.out.lt)
        clear L_59
        refine hK.out _ _ S_71.out (fun _ => ?_)
        clear hK K
        try simp only [Act.put, List.getElem_toArray, List.getElem_cons_zero, List.getElem_cons_succ, List.setIfInBounds_toArray, List.set_cons_zero, List.set_cons_succ]
        obtain ⟨X70, hX70⟩ : ∃ Y, X59.alloc (.cells #[.int .u8 0] 5) = Y := ⟨_, rfl⟩
        obtain ⟨g70, hg70⟩ : ∃ g, X59.heap.size = g := ⟨_, rfl⟩
        rw [hX70] at S_71
        rw [hX70] at E_72
        rw [hX70] at L_73
        rw [hX70] at Z_70
        rw [hg70] at hltE
        rw [hg70] at Z_70
        rw [hX70, hg70]
        clear hX70 hg70 hba70
        have NEZ := kept (show g70 ≠ g5 by omega)
        clear hltE
        refine wpAnyH_ready (rs := [6]) (by kernel_rfl) (by simp) ?_
        refine AllReadyH.cons rfl (fun K hK => ?_) (AllReadyH.nil)
        refine step_append_own (by rfl) (.tmp 36) (.tmp 37) 22 rfl w4.heap.size i0 Tryd.underlying22 hi0 hzz0 hs0 hbb0 (.slice (some ⟨g5, 0, none⟩) 0 0) [] rfl E_72.out qk (some ⟨qk, 0, none⟩) kl ck key rfl HKEY.out.symm (HAT.out _ S_71.out).2.1 (by rw [HKEY.out]; have := HKL.out; simp; omega) S_71.out.size ?_
        intro v38 A74 ho74 hg74 ha74
        rw [List.nil_append] at ho74
        have hE74 : w4.heap.size ≤ g5 := (World.ownsRow.lt E_72.out _ rfl).1
        have S_74 := kept (show (fun w' : World => Below w4.heap.size w4 w') A74 from S_71.out.grown hg74 S_71.out.size (fun kk hk => by simp [Value.ownBlock] at hk; omega))
        have C_74 := kept ho74
        have Z_74 := kept (Z_70.out.grown hg74 (fun e => NEZ.out (by simpa [Value.ownBlock] using e)))
        have hL74 := L_73.out.lt
        have L_74 := kept (L_73.out.grown hg74 (fun e => NEL.out (by simpa [Value.ownBlock] using e)))
        have LC := kept (show ∀ kk, v38.ownBlock = some kk → kk ≠ g59 from fun kk hk => by
          have hne := NEL.out
          rcases ha74 with h | h
          · rw [h] at hk; simp [Value.ownBlock] at hk; omega
          · rw [h] at hk; injection hk with hk; omega)
        clear hL74
        clear ho74 hg74 ha74 hE74
        clear S_71 E_72 L_73 Z_70
        refine hK.out _ _ S_74.out (fun _ => ?_)
        clear hK K
        try simp only [Act.put, List.getElem_toArray, List.getElem_cons_zero, List.getElem_cons_succ, List.setIfInBounds_toArray, List.set_cons_zero, List.set_cons_succ]
        refine wpAnyH_ready (rs := [8]) (by kernel_rfl) (by simp) ?_
        refine AllReadyH.cons rfl (fun K hK => ?_) (AllReadyH.nil)
        refine step_append_own (by rfl) (.tmp 38) (.tmp 39) 22 rfl w4.heap.size i0 Tryd.underlying22 hi0 hzz0 hs0 hbb0 v38 key rfl C_74.out g70 (some ⟨g70, 0, none⟩) 1 1 [0] rfl rfl Z_74.out (by rw [HKEY.out]; have := HKL.out; simp; omega) S_74.out.size ?_
        intro v40 A75 ho75 hg75 ha75
        rw [HK0.out] at ho75
        obtain ⟨A40, q40, c40, rfl, hc40, _, hm40, _⟩ := ho75.form
        have S_75 := kept (show (fun w' : World => Below w4.heap.size w4 w') A75 from S_74.out.grown hg75 S_74.out.size (fun kk hk => (World.ownsRow.lt C_74.out kk hk).1))
        have K_75 := kept hm40
        have HC40 := kept hc40
        have L_75 := kept (L_74.out.grown hg75 (fun e => LC.out _ e.symm rfl))
        clear ho75 hg75 ha75 hc40 hm40
        clear S_74 C_74 Z_74 L_74
        refine hK.out _ _ S_75.out (fun _ => ?_)
        clear hK K
        try simp only [Act.put, List.getElem_toArray, List.getElem_cons_zero, List.getElem_cons_succ, List.setIfInBounds_toArray, List.set_cons_zero, List.set_cons_succ]
        refine wpAnyH_ready (rs := [11]) (by kernel_rfl) (by simp) ?_
        refine AllReadyH.cons rfl (fun K hK => ?_) (AllReadyH.nil)
        go_simp
        refine (HMZ2.out A75 q40 g59 A40 c40 (HAT.out _ S_75.out).1 K_75.out HC40.out (memM_blk L_75.out (HAT.out _ S_75.out).2.2 HC2.out)).mono ?_
        rintro e Y76 ⟨rfl, hb76⟩
        have S_77 := kept (HKEEP.out _ _ S_75.out hb76)
        clear S_75
        refine hK.out _ _ S_77.out (fun _ => ?_)
        clear hK K
        try simp only [Act.put, List.getElem_toArray, List.getElem_cons_zero, List.getElem_cons_succ, List.setIfInBounds_toArray, List.set_cons_zero, List.set_cons_succ]
        refine wpAnyH_take (i := 13) (v := .bool true) rfl (by kernel_rfl) (by kernel_rfl) (by kernel_rfl) (fun _ _ _ h => h) (Or.inl ⟨by rfl, ?_⟩) S_77.out ?_
        · intro w _
          have hrun := HNEQ.out w
          go_simp
        try simp only [Act.put, List.getElem_toArray, List.getElem_cons_zero, List.getElem_cons_succ, List.setIfInBounds_toArray, List.set_cons_zero, List.set_cons_succ]
        refine wpAnyH_take (i := 14) (v := ?_) rfl (by kernel_rfl) (by kernel_rfl) (by kernel_rfl) (fun _ _ _ h => h) (Or.inl ⟨by rfl, ?_⟩) S_77.out ?_
        rotate_left
        · intro w _; go_simp; with_reducible rfl
        try simp only [Act.put, List.getElem_toArray, List.getElem_cons_zero, List.getElem_cons_succ, List.setIfInBounds_toArray, List.set_cons_zero, List.set_cons_succ]
        refine wpAnyH_take (i := 15) (v := ?_) rfl (by kernel_rfl) (by kernel_rfl) (by kernel_rfl) (fun _ _ _ h => h) (Or.inl ⟨by rfl, ?_⟩) S_77.out ?_
        rotate_left
        · intro w _; go_simp; with_reducible rfl
        try simp only [Act.put, List.getElem_toArray, List.getElem_cons_zero, List.getElem_cons_succ, List.setIfInBounds_toArray, List.set_cons_zero, List.set_cons_succ]
        refine wpAnyH_done (by kernel_rfl) ?_ _
        go_wp2
        go_ret
        exact ⟨rfl, HB4.out.trans (S_77.out.mono HB4.out.size)⟩
  · go_simp
    have hba78 : Below w7.heap.size w7 (w7.alloc (.cells #[.int .u8 0] 5)) := (Below.refl _ w7).alloc (Nat.le_refl _) _
    have Z_78 := kept (show Mem (w7.alloc (.cells #[.int .u8 0] 5)) w7.heap.size (some ⟨w7.heap.size, 0, none⟩) [0] from mem_lit1 (w := w7) (b := 0) rfl)
    have S_79 := kept (HKEEP.out _ _ S7.out hba78)
    clear S7
    refine hK.out _ _ S_79.out (fun _ => ?_)
    clear hK K
    try simp only [Act.put, List.getElem_toArray, List.getElem_cons_zero, List.getElem_cons_succ, List.setIfInBounds_toArray, List.set_cons_zero, List.set_cons_succ]
    obtain ⟨X78, hX78⟩ : ∃ Y, w7.alloc (.cells #[.int .u8 0] 5) = Y := ⟨_, rfl⟩
    obtain ⟨g78, hg78⟩ : ∃ g, w7.heap.size = g := ⟨_, rfl⟩
    rw [hX78] at S_79
    rw [hX78] at Z_78
    rw [hg78] at Z_78
    rw [hX78, hg78]
    clear hX78 hg78 hba78
    refine wpAnyH_ready (rs := [4, 10]) (by kernel_rfl) (by simp) ?_
    refine AllReadyH.cons rfl (fun K hK => ?_) (AllReadyH.cons rfl (fun K hK => ?_) (AllReadyH.nil))
    · have hltZ := Z_78.out.lt (by simp)
      go_simp
      have hba80 : Below X78.heap.size X78 (X78.alloc (.cells #[] 5)) := (Below.refl _ X78).alloc (Nat.le_refl _) _
      have E_80 := kept (show Own (X78.alloc (.cells #[] 5)) w4.heap.size (.slice (some ⟨X78.heap.size, 0, none⟩) 0 0) [] from own_of_blk (l := []) (Blk.new X78 _ _) S_79.out.size (by simp))
      have S_81 := kept (HKEEP.out _ _ S_79.out hba80)
      clear S_79
      have Z_82 := kept (Z_78.out.below0 hba80)
      clear Z_78
      refine hK.out _ _ S_81.out (fun _ => ?_)
      clear hK K
      try simp only [Act.put, List.getElem_toArray, List.getElem_cons_zero, List.getElem_cons_succ, List.setIfInBounds_toArray, List.set_cons_zero, List.set_cons_succ]
      obtain ⟨X80, hX80⟩ : ∃ Y, X78.alloc (.cells #[] 5) = Y := ⟨_, rfl⟩
      obtain ⟨g80, hg80⟩ : ∃ g, X78.heap.size = g := ⟨_, rfl⟩
      rw [hX80] at S_81
      rw [hX80] at Z_82
      rw [hX80] at E_80
      rw [hg80] at hltZ
      rw [hg80] at E_80
      rw [hX80, hg80]
      clear hX80 hg80 hba80
      have NEZ := kept (show g78 ≠ g80 by omega)
      clear hltZ
      refine wpAnyH_ready (rs := [6, 10]) (by kernel_rfl) (by simp) ?_
      refine AllReadyH.cons rfl (fun K hK => ?_) (AllReadyH.cons rfl (fun K hK => ?_) (AllReadyH.nil))
      · refine step_append_own (by rfl) (.tmp 36) (.tmp 37) 22 rfl w4.heap.size i0 Tryd.underlying22 hi0 hzz0 hs0 hbb0 (.slice (some ⟨g80, 0, none⟩) 0 0) [] rfl E_80.out qk (some ⟨qk, 0, none⟩) kl ck key rfl HKEY.out.symm (HAT.out _ S_81.out).2.1 (by rw [HKEY.out]; have := HKL.out; simp; omega) S_81.out.size ?_
        intro v38 A83 ho83 hg83 ha83
        rw [List.nil_append] at ho83
        have hE83 : w4.heap.size ≤ g80 := (World.ownsRow.lt E_80.out _ rfl).1
        have S_83 := kept (show (fun w' : World => Below w4.heap.size w4 w') A83 from S_81.out.grown hg83 S_81.out.size (fun kk hk => by simp [Value.ownBlock] at hk; omega))
        have C_83 := kept ho83
        have Z_83 := kept (Z_82.out.grown hg83 (fun e => NEZ.out (by simpa [Value.ownBlock] using e)))
        clear ho83 hg83 ha83 hE83
        clear S_81 Z_82 E_80
        refine hK.out _ _ S_83.out (fun _ => ?_)
        clear hK K
        try simp only [Act.put, List.getElem_toArray, List.getElem_cons_zero, List.getElem_cons_succ, List.setIfInBounds_toArray, List.set_cons_zero, List.set_cons_succ]
        refine wpAnyH_ready (rs := [8, 10]) (by kernel_rfl) (by simp) ?_
        refine AllReadyH.cons rfl (fun K hK => ?_) (AllReadyH.cons rfl (fun K hK => ?_) (AllReadyH.nil))
        · refine step_append_own (by rfl) (.tmp 38) (.tmp 39) 22 rfl w4.heap.size i0 Tryd.underlying22 hi0 hzz0 hs0 hbb0 v38 key rfl C_83.out g78 (some ⟨g78, 0, none⟩) 1 1 [0] rfl rfl Z_83.out (by rw [HKEY.out]; have := HKL.out; simp; omega) S_83.out.size ?_
          intro v40 A84 ho84 hg84 ha84
          rw [HK0.out] at ho84
          obtain ⟨A40, q40, c40, rfl, hc40, _, hm40, _⟩ := ho84.form
          have S_84 := kept (show (fun w' : World => Below w4.heap.size w4 w') A84 from S_83.out.grown hg84 S_83.out.size (fun kk hk => (World.ownsRow.lt C_83.out kk hk).1))
          have K_84 := kept hm40
          have HC40 := kept hc40
          clear ho84 hg84 ha84 hc40 hm40
          clear S_83 C_83 Z_83
          refine hK.out _ _ S_84.out (fun _ => ?_)
          clear hK K
          try simp only [Act.put, List.getElem_toArray, List.getElem_cons_zero, List.getElem_cons_succ, List.setIfInBounds_toArray, List.set_cons_zero, List.set_cons_succ]
          refine wpAnyH_ready (rs := [10]) (by kernel_rfl) (by simp) ?_
          refine AllReadyH.cons rfl (fun K hK => ?_) (AllReadyH.nil)
          go_simp
          have hba85 : Below A84.heap.size A84 (A84.alloc (.cells #[.slice A2 b.length c2] 22)) := (Below.refl _ A84).alloc (Nat.le_refl _) _
          have L_85 := kept (Blk.new A84 22 #[.slice A2 b.length c2])
          have S_86 := kept (HKEEP.out _ _ S_84.out hba85)
          clear S_84
          have K_87 := kept (K_84.out.below0 hba85)
          clear K_84
          refine hK.out _ _ S_86.out (fun _ => ?_)
          clear hK K
          try simp only [Act.put, List.getElem_toArray, List.getElem_cons_zero, List.getElem_cons_succ, List.setIfInBounds_toArray, List.set_cons_zero, List.set_cons_succ]
          obtain ⟨X85, hX85⟩ : ∃ Y, A84.alloc (.cells #[.slice A2 b.length c2] 22) = Y := ⟨_, rfl⟩
          obtain ⟨g85, hg85⟩ : ∃ g, A84.heap.size = g := ⟨_, rfl⟩
          rw [hX85] at S_86
          rw [hX85] at K_87
          rw [hX85] at L_85
          rw [hg85] at L_85
          rw [hX85, hg85]
          clear hX85 hg85 hba85
          refine wpAnyH_ready (rs := [11]) (by kernel_rfl) (by simp) ?_
          refine AllReadyH.cons rfl (fun K hK => ?_) (AllReadyH.nil)
          go_simp
          refine (HMZ2.out X85 q40 g85 A40 c40 (HAT.out _ S_86.out).1 K_87.out HC40.out (memM_blk L_85.out (HAT.out _ S_86.out).2.2 HC2.out)).mono ?_
          rintro e Y88 ⟨rfl, hb88⟩
          have S_89 := kept (HKEEP.out _ _ S_86.out hb88)
          clear S_86
          refine hK.out _ _ S_89.out (fun _ => ?_)
          clear hK K
          try simp only [Act.put, List.getElem_toArray, List.getElem_cons_zero, List.getElem_cons_succ, List.setIfInBounds_toArray, List.set_cons_zero, List.set_cons_succ]
          refine wpAnyH_take (i := 13) (v := .bool true) rfl (by kernel_rfl) (by kernel_rfl) (by kernel_rfl) (fun _ _ _ h => h) (Or.inl ⟨by rfl, ?_⟩) S_89.out ?_
          · intro w _
            have hrun := HNEQ.out w
            go_simp
          try simp only [Act.put, List.getElem_toArray, List.getElem_cons_zero, List.getElem_cons_succ, List.setIfInBounds_toArray, List.set_cons_zero, List.set_cons_succ]
          refine wpAnyH_take (i := 14) (v := ?_) rfl (by kernel_rfl) (by kernel_rfl) (by kernel_rfl) (fun _ _ _ h => h) (Or.inl ⟨by rfl, ?_⟩) S_89.out ?_
          rotate_left
          · intro w _; go_simp; with_reducible rfl
          try simp only [Act.put, List.getElem_toArray, List.getElem_cons_zero, List.getElem_cons_succ, List.setIfInBounds_toArray, List.set_cons_zero, List.set_cons_succ]
          refine wpAnyH_take (i := 15) (v := ?_) rfl (by kernel_rfl) (by kernel_rfl) (by kernel_rfl) (fun _ _ _ h => h) (Or.inl ⟨by rfl, ?_⟩) S_89.out ?_
          rotate_left
          · intro w _; go_simp; with_reducible rfl
          try simp only [Act.put, List.getElem_toArray, List.getElem_cons_zero, List.getElem_cons_succ, List.setIfInBounds_toArray, List.set_cons_zero, List.set_cons_succ]
          refine wpAnyH_done (by kernel_rfl) ?_ _
          go_wp2
          go_ret
          exact ⟨rfl, HB4.out.trans (S_89.out.mono HB4.out.size)⟩
        · have hltC := fun (kk : Nat) (hk : v38.ownBlock = some kk) => (World.ownsRow.lt C_83.out kk hk).2
          go_simp
          have hba90 : Below A83.heap.size A83 (A83.alloc (.cells #[.slice A2 b.length c2] 22)) := (Below.refl _ A83).alloc (Nat.le_refl _) _
          have L_90 := kept (Blk.new A83 22 #[.slice A2 b.length c2])
          have S_91 := kept (HKEEP.out _ _ S_83.out hba90)
          clear S_83
          have C_92 := kept (C_83.out.below hba90)
          clear C_83
          have Z_93 := kept (Z_83.out.below0 hba90)
          clear Z_83
          refine hK.out _ _ S_91.out (fun _ => ?_)
          clear hK K
          try simp only [Act.put, List.getElem_toArray, List.getElem_cons_zero, List.getElem_cons_succ, List.setIfInBounds_toArray, List.set_cons_zero, List.set_cons_succ]
          obtain ⟨X90, hX90⟩ : ∃ Y, A83.alloc (.cells #[.slice A2 b.length c2] 22) = Y := ⟨_, rfl⟩
          obtain ⟨g90, hg90⟩ : ∃ g, A83.heap.size = g := ⟨_, rfl⟩
          rw [hX90] at S_91
          rw [hX90] at C_92
          rw [hX90] at Z_93
          rw [hX90] at L_90
          rw [hg90] at hltC
          rw [hg90] at L_90
          rw [hX90, hg90]
          clear hX90 hg90 hba90
          have LC := kept (show ∀ kk, v38.ownBlock = some kk → kk ≠ g90 from fun kk hk => by have := hltC kk hk; omega)
          clear hltC
          refine wpAnyH_ready (rs := [8]) (by kernel_rfl) (by simp) ?_
          refine AllReadyH.cons rfl (fun K hK => ?_) (AllReadyH.nil)
          refine step_append_own (by rfl) (.tmp 38) (.tmp 39) 22 rfl w4.heap.size i0 Tryd.underlying22 hi0 hzz0 hs0 hbb0 v38 key rfl C_92.out g78 (some ⟨g78, 0, none⟩) 1 1 [0] rfl rfl Z_93.out (by rw [HKEY.out]; have := HKL.out; simp; omega) S_91.out.size ?_
          intro v40 A94 ho94 hg94 ha94
          rw [HK0.out] at ho94
          obtain ⟨A40, q40, c40, rfl, hc40, _, hm40, _⟩ := ho94.form
          have S_94 := kept (show (fun w' : World => Below w4.heap.size w4 w') A94 from S_91.out.grown hg94 S_91.out.size (fun kk hk => (World.ownsRow.lt C_92.out kk hk).1))
          have K_94 := kept hm40
          have HC40 := kept hc40
          have L_94 := kept (L_90.out.grown hg94 (fun e => LC.out _ e.symm rfl))
          clear ho94 hg94 ha94 hc40 hm40
          clear S_91 C_92 Z_93 L_90
          refine hK.out _ _ S_94.out (fun _ => ?_)
          clear hK K
          try simp only [Act.put, List.getElem_toArray, List.getElem_cons_zero, List.getElem_cons_succ, List.setIfInBounds_toArray, List.set_cons_zero, List.set_cons_succ]
          refine wpAnyH_ready (rs := [11]) (by kernel_rfl) (by simp) ?_
          refine AllReadyH.cons rfl (fun K hK => ?_) (AllReadyH.nil)
          go_simp
          refine (HMZ2.out A94 q40 g90 A40 c40 (HAT.out _ S_94.out).1 K_94.out HC40.out (memM_blk L_94.out (HAT.out _ S_94.out).2.2 HC2.out)).mono ?_
          rintro e Y95 ⟨rfl, hb95⟩
          have S_96 := kept (HKEEP.out _ _ S_94.out hb95)
          clear S_94
          refine hK.out _ _ S_96.out (fun _ => ?_)
          clear hK K
          try simp only [Act.put, List.getElem_toArray, List.getElem_cons_zero, List.getElem_cons_succ, List.setIfInBounds_toArray, List.set_cons_zero, List.set_cons_succ]
          refine wpAnyH_take (i := 13) (v := .bool true) rfl (by kernel_rfl) (by kernel_rfl) (by kernel_rfl) (fun _ _ _ h => h) (Or.inl ⟨by rfl, ?_⟩) S_96.out ?_
          · intro w _
            have hrun := HNEQ.out w
            go_simp
          try simp only [Act.put, List.getElem_toArray, List.getElem_cons_zero, List.getElem_cons_succ, List.setIfInBounds_toArray, List.set_cons_zero, List.set_cons_succ]
          refine wpAnyH_take (i := 14) (v := ?_) rfl (by kernel_rfl) (by kernel_rfl) (by kernel_rfl) (fun _ _ _ h => h) (Or.inl ⟨by rfl, ?_⟩) S_96.out ?_
          rotate_left
          · intro w _; go_simp; with_reducible rfl
          try simp only [Act.put, List.getElem_toArray, List.getElem_cons_zero, List.getElem_cons_succ, List.setIfInBounds_toArray, List.set_cons_zero, List.set_cons_succ]
          refine wpAnyH_take (i := 15) (v := ?_) rfl (by kernel_rfl) (by kernel_rfl) (by kernel_rfl) (fun _ _ _ h => h) (Or.inl ⟨by rfl, ?_⟩) S_96.out ?_
          rotate_left
          · intro w _; go_simp; with_reducible rfl
          try simp only [Act.put, List.getElem_toArray, List.getElem_cons_zero, List.getElem_cons_succ, List.setIfInBounds_toArray, List.set_cons_zero, List.set_cons_succ]
          refine wpAnyH_done (by kernel_rfl) ?_ _
          go_wp2
          go_ret
          exact ⟨rfl, HB4.out.trans (S_96.out.mono HB4.out.size)⟩
      · have hltE : g80 < X80.heap.size := (World.ownsRow.lt E_80.out _ rfl).2
        go_simp
        have hba97 : Below X80.heap.size X80 (X80.alloc (.cells #[.slice A2 b.length c2] 22)) := (Below.refl _ X80).alloc (Nat.le_refl _) _
        have L_97 := kept (Blk.new X80 22 #[.slice A2 b.length c2])
        have S_98 := kept (HKEEP.out _ _ S_81.out hba97)
        clear S_81
        have Z_99 := kept (Z_82.out.below0 hba97)
        clear Z_82
        have E_100 := kept (E_80.out.below hba97)
        clear E_80
        refine hK.out _ _ S_98.out (fun _ => ?_)
        clear hK K
        try simp only [Act.put, List.getElem_toArray, List.getElem_cons_zero, List.getElem_cons_succ, List.setIfInBounds_toArray, List.set_cons_zero, List.set_cons_succ]
        obtain ⟨X97, hX97⟩ : ∃ Y, X80.alloc (.cells #[.slice A2 b.length c2] 22) = Y := ⟨_, rfl⟩
        obtain ⟨g97, hg97⟩ : ∃ g, X80.heap.size = g := ⟨_, rfl⟩
        rw [hX97] at S_98
        rw [hX97] at Z_99
        rw [hX97] at E_100
        rw [hX97] at L_97
        rw [hg97] at hltE
        rw [hg97] at L_97
        rw [hX97, hg97]
        clear hX97 hg97 hba97
        have NEL := kept (show g97 ≠ g80 by omega)
        clear hltE
        refine wpAnyH_ready (rs := [6]) (by kernel_rfl) (by simp) ?_
        refine AllReadyH.cons rfl (fun K hK => ?_) (AllReadyH.nil)
        refine step_append_own (by rfl) (.tmp 36) (.tmp 37) 22 rfl w4.heap.size i0 Tryd.underlying22 hi0 hzz0 hs0 hbb0 (.slice (some ⟨g80, 0, none⟩) 0 0) [] rfl E_100.out qk (some ⟨qk, 0, none⟩) kl ck key rfl HKEY.out.symm (HAT.out _ S_98.out).2.1 (by rw [HKEY.out]; have := HKL.out; simp; omega) S_98.out.size ?_
        intro v38 A101 ho101 hg101 ha101
        rw [List.nil_append] at ho101
        have hE101 : w4.heap.size ≤ g80 := (World.ownsRow.lt E_100.out _ rfl).1
        have S_101 := kept (show (fun w' : World => Below w4.heap.size w4 w') A101 from S_98.out.grown hg101 S_98.out.size (fun kk hk => by simp [Value.ownBlock] at hk; omega))
        have C_101 := kept ho101
        have Z_101 := kept (Z_99.out.grown hg101 (fun e => NEZ.out (by simpa [Value.ownBlock] using e)))
        have hL101 := L_97.out.lt
        have L_101 := kept (L_97.out.grown hg101 (fun e => NEL.out (by simpa [Value.ownBlock] using e)))
        have LC := kept (show ∀ kk, v38.ownBlock = some kk → kk ≠ g97 from fun kk hk => by
          have hne := NEL.out
          rcases ha101 with h | h
          · rw [h] at hk; simp [Value.ownBlock] at hk; omega
          · rw [h] at hk; injection hk with hk; omega)
        clear hL101
        clear ho101 hg101 ha101 hE101
        clear S_98 Z_99 E_100 L_97
        refine hK.out _ _ S_101.out (fun _ => ?_)
        clear hK K
        try simp only [Act.put, List.getElem_toArray, List.getElem_cons_zero, List.getElem_cons_succ, List.setIfInBounds_toArray, List.set_cons_zero, List.set_cons_succ]
        refine wpAnyH_ready (rs := [8]) (by kernel_rfl) (by simp) ?_
        refine AllReadyH.cons rfl (fun K hK => ?_) (AllReadyH.nil)
        refine step_append_own (by rfl) (.tmp 38) (.tmp 39) 22 rfl w4.heap.size i0 Tryd.underlying22 hi0 hzz0 hs0 hbb0 v38 key rfl C_101.out g78 (some ⟨g78, 0, none⟩) 1 1 [0] rfl rfl Z_101.out (by rw [HKEY.out]; have := HKL.out; simp; omega) S_101.out.size ?_
        intro v40 A102 ho102 hg102 ha102
        rw [HK0.out] at ho102
        obtain ⟨A40, q40, c40, rfl, hc40, _, hm40, _⟩ := ho102.form
        have S_102 := kept (show (fun w' : World => Below w4.heap.size w4 w') A102 from S_101.out.grown hg102 S_101.out.size (fun kk hk => (World.ownsRow.lt C_101.out kk hk).1))
        have K_102 := kept hm40
        have HC40 := kept hc40
        have L_102 := kept (L_101.out.grown hg102 (fun e => LC.out _ e.symm rfl))
        clear ho102 hg102 ha102 hc40 hm40
        clear S_101 C_101 Z_101 L_101
        refine hK.out _ _ S_102.out (fun _ => ?_)
        clear hK K
        try simp only [Act.put, List.getElem_toArray, List.getElem_cons_zero, List.getElem_cons_succ, List.setIfInBounds_toArray, List.set_cons_zero, List.set_cons_succ]
        refine wpAnyH_ready (rs := [11]) (by kernel_rfl) (by simp) ?_
        refine AllReadyH.cons rfl (fun K hK => ?_) (AllReadyH.nil)
        go_simp
        refine (HMZ2.out A102 q40 g97 A40 c40 (HAT.out _ S_102.out).1 K_102.out HC40.out (memM_blk L_102.out (HAT.out _ S_102.out).2.2 HC2.out)).mono ?_
        rintro e Y103 ⟨rfl, hb103⟩
        have S_104 := kept (HKEEP.out _ _ S_102.out hb103)
        clear S_102
        refine hK.out _ _ S_104.out (fun _ => ?_)
        clear hK K
        try simp only [Act.put, List.getElem_toArray, List.getElem_cons_zero, List.getElem_cons_succ, List.setIfInBounds_toArray, List.set_cons_zero, List.set_cons_succ]
        refine wpAnyH_take (i := 13) (v := .bool true) rfl (by kernel_rfl) (by kernel_rfl) (by kernel_rfl) (fun _ _ _ h => h) (Or.inl ⟨by rfl, ?_⟩) S_104.out ?_
        · intro w _
          have hrun := HNEQ.out w
          go_simp
        try simp only [Act.put, List.getElem_toArray, List.getElem_cons_zero, List.getElem_cons_succ, List.setIfInBounds_toArray, List.set_cons_zero, List.set_cons_succ]
        refine wpAnyH_take (i := 14) (v := ?_) rfl (by kernel_rfl) (by kernel_rfl) (by kernel_rfl) (fun _ _ _ h => h) (Or.inl ⟨by rfl, ?_⟩) S_104.out ?_
        rotate_left
        · intro w _; go_simp; with_reducible rfl
        try simp only [Act.put, List.getElem_toArray, List.getElem_cons_zero, List.getElem_cons_succ, List.setIfInBounds_toArray, List.set_cons_zero, List.set_cons_succ]
        refine wpAnyH_take (i := 15) (v := ?_) rfl (by kernel_rfl) (by kernel_rfl) (by kernel_rfl) (fun _ _ _ h => h) (Or.inl ⟨by rfl, ?_⟩) S_104.out ?_
        rotate_left
        · intro w _; go_simp; with_reducible rfl
        try simp only [Act.put, List.getElem_toArray, List.getElem_cons_zero, List.getElem_cons_succ, List.setIfInBounds_toArray, List.set_cons_zero, List.set_cons_succ]
        refine wpAnyH_done (by kernel_rfl) ?_ _
        go_wp2
        go_ret
        exact ⟨rfl, HB4.out.trans (S_104.out.mono HB4.out.size)⟩
    · go_simp
      have hba105 : Below X78.heap.size X78 (X78.alloc (.cells #[.slice A2 b.length c2] 22)) := (Below.refl _ X78).alloc (Nat.le_refl _) _
      have L_105 := kept (Blk.new X78 22 #[.slice A2 b.length c2])
      have S_106 := kept (HKEEP.out _ _ S_79.out hba105)
      clear S_79
      have Z_107 := kept (Z_78.out.below0 hba105)
      clear Z_78
      refine hK.out _ _ S_106.out (fun _ => ?_)
      clear hK K
      try simp only [Act.put, List.getElem_toArray, List.getElem_cons_zero, List.getElem_cons_succ, List.setIfInBounds_toArray, List.set_cons_zero, List.set_cons_succ]
      obtain ⟨X105, hX105⟩ : ∃ Y, X78.alloc (.cells #[.slice A2 b.length c2] 22) = Y := ⟨_, rfl⟩
      obtain ⟨g105, hg105⟩ : ∃ g, X78.heap.size = g := ⟨_, rfl⟩
      rw [hX105] at S_106
      rw [hX105] at Z_107
      rw [hX105] at L_105
      rw [hg105] at L_105
      rw [hX105, hg105]
      clear hX105 hg105 hba105
      refine wpAnyH_ready (rs := [4]) (by kernel_rfl) (by simp) ?_
      refine AllReadyH.cons rfl (fun K hK => ?_) (AllReadyH.nil)
      have hltZ := Z_107.out.lt (by simp)
      have hltL := L_105.out.lt
      go_simp
      have hba108 : Below X105.heap.size X105 (X105.alloc (.cells #[] 5)) := (Below.refl _ X105).alloc (Nat.le_refl _) _
      have E_108 := kept (show Own (X105.alloc (.cells #[] 5)) w4.heap.size (.slice (some ⟨X105.heap.size, 0, none⟩) 0 0) [] from own_of_blk (l := []) (Blk.new X105 _ _) S_106.out.size (by simp))
      have S_109 := kept (HKEEP.out _ _ S_106.out hba108)
      clear S_106
      have Z_110 := kept (Z_107.out.below0 hba108)
      clear Z_107
      have L_111 := kept (L_105.out.below hba108 L_105.out.lt)
      clear L_105
      refine hK.out _ _ S_109.out (fun _ => ?_)
      clear hK K
      try simp only [Act.put, List.getElem_toArray, List.getElem_cons_zero, List.getElem_cons_succ, List.setIfInBounds_toArray, List.set_cons_zero, List.set_cons_succ]
      obtain ⟨X108, hX108⟩ : ∃ Y, X105.alloc (.cells #[] 5) = Y := ⟨_, rfl⟩
      obtain ⟨g108, hg108⟩ : ∃ g, X105.heap.size = g := ⟨_, rfl⟩
      rw [hX108] at S_109
      rw [hX108] at Z_110
      rw [hX108] at L_111
      rw [hX108] at E_108
      rw [hg108] at hltZ
      rw [hg108] at hltL
      rw [hg108] at E_108
      rw [hX108, hg108]
      clear hX108 hg108 hba108
      have NEZ := kept (show g78 ≠ g108 by omega)
      clear hltZ
      have NEL := kept (show g105 ≠ g108 by omega)
      clear hltL
      refine wpAnyH_ready (rs := [6]) (by kernel_rfl) (by simp) ?_
      refine AllReadyH.cons rfl (fun K hK => ?_) (AllReadyH.nil)
      refine step_append_own (by rfl) (.tmp 36) (.tmp 37) 22 rfl w4.heap.size i0 Tryd.underlying22 hi0 hzz0 hs0 hbb0 (.slice (some ⟨g108, 0, none⟩) 0 0) [] rfl E_108.out qk (some ⟨qk, 0, none⟩) kl ck key rfl HKEY.out.symm (HAT.out _ S_109.out).2.1 (by rw [HKEY.out]; have := HKL.out; simp; omega) S_109.out.size ?_
      intro v38 A112 ho112 hg112 ha112
      rw [List.nil_append] at ho112
      have hE112 : w4.heap.size ≤ g108 := (World.ownsRow.lt E_108.out _ rfl).1
      have S_112 := kept (show (fun w' : World => Below w4.heap.size w4 w') A112 from S_109.out.grown hg112 S_109.out.size (fun kk hk => by simp [Value.ownBlock] at hk; omega))
      have C_112 := kept ho112
      have Z_112 := kept (Z_110.out.grown hg112 (fun e => NEZ.out (by simpa [Value.ownBlock] using e)))
      have hL112 := L_111.out.lt
      have L_112 := kept (L_111.out.grown hg112 (fun e => NEL.out (by simpa [Value.ownBlock] using e)))
      have LC := kept (show ∀ kk, v38.ownBlock = some kk → kk ≠ g105 from fun kk hk => by
        have hne := NEL.out
        rcases ha112 with h | h
        · rw [h] at hk; simp [Value.ownBlock] at hk; omega
        · rw [h] at hk; injection hk with hk; omega)
      clear hL112
      clear ho112 hg112 ha112 hE112
      clear S_109 Z_110 L_111 E_108
      refine hK.out _ _ S_112.out (fun _ => ?_)
      clear hK K
      try simp only [Act.put, List.getElem_toArray, List.getElem_cons_zero, List.getElem_cons_succ, List.setIfInBounds_toArray, List.set_cons_zero, List.set_cons_succ]
      refine wpAnyH_ready (rs := [8]) (by kernel_rfl) (by simp) ?_
      refine AllReadyH.cons rfl (fun K hK => ?_) (AllReadyH.nil)
      refine step_append_own (by rfl) (.tmp 38) (.tmp 39) 22 rfl w4.heap.size i0 Tryd.underlying22 hi0 hzz0 hs0 hbb0 v38 key rfl C_112.out g78 (some ⟨g78, 0, none⟩) 1 1 [0] rfl rfl Z_112.out (by rw [HKEY.out]; have := HKL.out; simp; omega) S_112.out.size ?_
      intro v40 A113 ho113 hg113 ha113
      rw [HK0.out] at ho113
      obtain ⟨A40, q40, c40, rfl, hc40, _, hm40, _⟩ := ho113.form
      have S_113 := kept (show (fun w' : World => Below w4.heap.size w4 w') A113 from S_112.out.grown hg113 S_112.out.size (fun kk hk => (World.ownsRow.lt C_112.out kk hk).1))
      have K_113 := kept hm40
      have HC40 := kept hc40
      have L_113 := kept (L_112.out.grown hg113 (fun e => LC.out _ e.symm rfl))
      clear ho113 hg113 ha113 hc40 hm40
      clear S_112 C_112 Z_112 L_112
      refine hK.out _ _ S_113.out (fun _ => ?_)
      clear hK K
      try simp only [Act.put, List.getElem_toArray, List.getElem_cons_zero, List.getElem_cons_succ, List.setIfInBounds_toArray, List.set_cons_zero, List.set_cons_succ]
      refine wpAnyH_ready (rs := [11]) (by kernel_rfl) (by simp) ?_
      refine AllReadyH.cons rfl (fun K hK => ?_) (AllReadyH.nil)
      go_simp
      refine (HMZ2.out A113 q40 g105 A40 c40 (HAT.out _ S_113.out).1 K_113.out HC40.out (memM_blk L_113.out (HAT.out _ S_113.out).2.2 HC2.out)).mono ?_
      rintro e Y114 ⟨rfl, hb114⟩
      have S_115 := kept (HKEEP.out _ _ S_113.out hb114)
      clear S_113
      refine hK.out _ _ S_115.out (fun _ => ?_)
      clear hK K
      try simp only [Act.put, List.getElem_toArray, List.getElem_cons_zero, List.getElem_cons_succ, List.setIfInBounds_toArray, List.set_cons_zero, List.set_cons_succ]
      refine wpAnyH_take (i := 13) (v := .bool true) rfl (by kernel_rfl) (by kernel_rfl) (by kernel_rfl) (fun _ _ _ h => h) (Or.inl ⟨by rfl, ?_⟩) S_115.out ?_
      · intro w _
        have hrun := HNEQ.out w
        go_simp
      try simp only [Act.put, List.getElem_toArray, List.getElem_cons_zero, List.getElem_cons_succ, List.setIfInBounds_toArray, List.set_cons_zero, List.set_cons_succ]
      refine wpAnyH_take (i := 14) (v := ?_) rfl (by kernel_rfl) (by kernel_rfl) (by kernel_rfl) (fun _ _ _ h => h) (Or.inl ⟨by rfl, ?_⟩) S_115.out ?_
      rotate_left
      · intro w _; go_simp; with_reducible rfl
      try simp only [Act.put, List.getElem_toArray, List.getElem_cons_zero, List.getElem_cons_succ, List.setIfInBounds_toArray, List.set_cons_zero, List.set_cons_succ]
      refine wpAnyH_take (i := 15) (v := ?_) rfl (by kernel_rfl) (by kernel_rfl) (by kernel_rfl) (fun _ _ _ h => h) (Or.inl ⟨by rfl, ?_⟩) S_115.out ?_
      rotate_left
      · intro w _; go_simp; with_reducible rfl
      try simp only [Act.put, List.getElem_toArray, List.getElem_cons_zero, List.getElem_cons_succ, List.setIfInBounds_toArray, List.set_cons_zero, List.set_cons_succ]
      refine wpAnyH_done (by kernel_rfl) ?_ _
      go_wp2
      go_ret
      exact ⟨rfl, HB4.out.trans (S_115.out.mono HB4.out.size)⟩
  · go_simp
    have hba116 : Below w7.heap.size w7 (w7.alloc (.cells #[.slice A2 b.length c2] 22)) := (Below.refl _ w7).alloc (Nat.le_refl _) _
    have L_116 := kept (Blk.new w7 22 #[.slice A2 b.length c2])
    have S_117 := kept (HKEEP.out _ _ S7.out hba116)
    clear S7
    refine hK.out _ _ S_117.out (fun _ => ?_)
    clear hK K
    try simp only [Act.put, List.getElem_toArray, List.getElem_cons_zero, List.getElem_cons_succ, List.setIfInBounds_toArray, List.set_cons_zero, List.set_cons_succ]
    obtain ⟨X116, hX116⟩ : ∃ Y, w7.alloc (.cells #[.slice A2 b.length c2] 22) = Y := ⟨_, rfl⟩
    obtain ⟨g116, hg116⟩ : ∃ g, w7.heap.size = g := ⟨_, rfl⟩
    rw [hX116] at S_117
    rw [hX116] at L_116
    rw [hg116] at L_116
    rw [hX116, hg116]
    clear hX116 hg116 hba116
    refine wpAnyH_ready (rs := [4, 7]) (by kernel_rfl) (by simp) ?_
    refine AllReadyH.cons rfl (fun K hK => ?_) (AllReadyH.cons rfl (fun K hK => ?_) (AllReadyH.nil))
    · have hltL := L_116.out.lt
      go_simp
      have hba118 : Below X116.heap.size X116 (X116.alloc (.cells #[] 5)) := (Below.refl _ X116).alloc (Nat.le_refl _) _
      have E_118 := kept (show Own (X116.alloc (.cells #[] 5)) w4.heap.size (.slice (some ⟨X116.heap.size, 0, none⟩) 0 0) [] from own_of_blk (l := []) (Blk.new X116 _ _) S_117.out.size (by simp))
      have S_119 := kept (HKEEP.out _ _ S_117.out hba118)
      clear S_117
      have L_120 := kept (L_116.out.below hba118 L_116.out.lt)
      clear L_116
      refine hK.out _ _ S_119.out (fun _ => ?_)
      clear hK K
      try simp only [Act.put, List.getElem_toArray, List.getElem_cons_zero, List.getElem_cons_succ, List.setIfInBounds_toArray, List.set_cons_zero, List.set_cons_succ]
      obtain ⟨X118, hX118⟩ : ∃ Y, X116.alloc (.cells #[] 5) = Y := ⟨_, rfl⟩
      obtain ⟨g118, hg118⟩ : ∃ g, X116.heap.size = g := ⟨_, rfl⟩
      rw [hX118] at S_119
      rw [hX118] at L_120
      rw [hX118] at E_118
      rw [hg118] at hltL
      rw [hg118] at E_118
      rw [hX118, hg118]
      clear hX118 hg118 hba118
      have NEL := kept (show g116 ≠ g118 by omega)
      clear hltL
      refine wpAnyH_ready (rs := [6, 7]) (by kernel_rfl) (by simp) ?_
      refine AllReadyH.cons rfl (fun K hK => ?_) (AllReadyH.cons rfl (fun K hK => ?_) (AllReadyH.nil))
      · refine step_append_own (by rfl) (.tmp 36) (.tmp 37) 22 rfl w4.heap.size i0 Tryd.underlying22 hi0 hzz0 hs0 hbb0 (.slice (some ⟨g118, 0, none⟩) 0 0) [] rfl E_118.out qk (some ⟨qk, 0, none⟩) kl ck key rfl HKEY.out.symm (HAT.out _ S_119.out).2.1 (by rw [HKEY.out]; have := HKL.out; simp; omega) S_119.out.size ?_
        intro v38 A121 ho121 hg121 ha121
        rw [List.nil_append] at ho121
        have hE121 : w4.heap.size ≤ g118 := (World.ownsRow.lt E_118.out _ rfl).1
        have S_121 := kept (show (fun w' : World => Below w4.heap.size w4 w') A121 from S_119.out.grown hg121 S_119.out.size (fun kk hk => by simp [Value.ownBlock] at hk; omega))
        have C_121 := kept ho121
        have hL121 := L_120.out.lt
        have L_121 := kept (L_120.out.grown hg121 (fun e => NEL.out (by simpa [Value.ownBlock] using e)))
        have LC := kept (show ∀ kk, v38.ownBlock = some kk → kk ≠ g116 from fun kk hk => by
          have hne := NEL.out
          rcases ha121 with h | h
          · rw [h] at hk; simp [Value.ownBlock] at hk; omega
          · rw [h] at hk; injection hk with hk; omega)
        clear hL121
        clear ho121 hg121 ha121 hE121
        clear S_119 L_120 E_118
        refine hK.out _ _ S_121.out (fun _ => ?_)
        clear hK K
        try simp only [Act.put, List.getElem_toArray, List.getElem_cons_zero, List.getElem_cons_succ, List.setIfInBounds_toArray, List.set_cons_zero, List.set_cons_succ]
        refine wpAnyH_ready (rs := [7]) (by kernel_rfl) (by simp) ?_
        refine AllReadyH.cons rfl (fun K hK => ?_) (AllReadyH.nil)
        go_simp
        have hba122 : Below A121.heap.size A121 (A121.alloc (.cells #[.int .u8 0] 5)) := (Below.refl _ A121).alloc (Nat.le_refl _) _
        have Z_122 := kept (show Mem (A121.alloc (.cells #[.int .u8 0] 5)) A121.heap.size (some ⟨A121.heap.size, 0, none⟩) [0] from mem_lit1 (w := A121) (b := 0) rfl)
        have S_123 := kept (HKEEP.out _ _ S_121.out hba122)
        clear S_121
        have C_124 := kept (C_121.out.below hba122)
        clear C_121
        have L_125 := kept (L_121.out.below hba122 L_121.out.lt)
        clear L_121
        refine hK.out _ _ S_123.out (fun _ => ?_)
        clear hK K
        try simp only [Act.put, List.getElem_toArray, List.getElem_cons_zero, List.getElem_cons_succ, List.setIfInBounds_toArray, List.set_cons_zero, List.set_cons_succ]
        obtain ⟨X122, hX122⟩ : ∃ Y, A121.alloc (.cells #[.int .u8 0] 5) = Y := ⟨_, rfl⟩
        obtain ⟨g122, hg122⟩ : ∃ g, A121.heap.size = g := ⟨_, rfl⟩
        rw [hX122] at S_123
        rw [hX122] at C_124
        rw [hX122] at L_125
        rw [hX122] at Z_122
        rw [hg122] at Z_122
        rw [hX122, hg122]
        clear hX122 hg122 hba122
        refine wpAnyH_ready (rs := [8]) (by kernel_rfl) (by simp) ?_
        refine AllReadyH.cons rfl (fun K hK => ?_) (AllReadyH.nil)
        refine step_append_own (by rfl) (.tmp 38) (.tmp 39) 22 rfl w4.heap.size i0 Tryd.underlying22 hi0 hzz0 hs0 hbb0 v38 key rfl C_124.out g122 (some ⟨g122, 0, none⟩) 1 1 [0] rfl rfl Z_122.out (by rw [HKEY.out]; have := HKL.out; simp; omega) S_123.out.size ?_
        intro v40 A126 ho126 hg126 ha126
        rw [HK0.out] at ho126
        obtain ⟨A40, q40, c40, rfl, hc40, _, hm40, _⟩ := ho126.form
        have S_126 := kept (show (fun w' : World => Below w4.heap.size w4 w') A126 from S_123.out.grown hg126 S_123.out.size (fun kk hk => (World.ownsRow.lt C_124.out kk hk).1))
        have K_126 := kept hm40
        have HC40 := kept hc40
        have L_126 := kept (L_125.out.grown hg126 (fun e => LC.out _ e.symm rfl))
        clear ho126 hg126 ha126 hc40 hm40
        clear S_123 C_124 L_125 Z_122
        refine hK.out _ _ S_126.out (fun _ => ?_)
        clear hK K
        try simp only [Act.put, List.getElem_toArray, List.getElem_cons_zero, List.getElem_cons_succ, List.setIfInBounds_toArray, List.set_cons_zero, List.set_cons_succ]
        refine wpAnyH_ready (rs := [11]) (by kernel_rfl) (by simp) ?_
        refine AllReadyH.cons rfl (fun K hK => ?_) (AllReadyH.nil)
        go_simp
        refine (HMZ2.out A126 q40 g116 A40 c40 (HAT.out _ S_126.out).1 K_126.out HC40.out (memM_blk L_126.out (HAT.out _ S_126.out).2.2 HC2.out)).mono ?_
        rintro e Y127 ⟨rfl, hb127⟩
        have S_128 := kept (HKEEP.out _ _ S_126.out hb127)
        clear S_126
        refine hK.out _ _ S_128.out (fun _ => ?_)
        clear hK K
        try simp only [Act.put, List.getElem_toArray, List.getElem_cons_zero, List.getElem_cons_succ, List.setIfInBounds_toArray, List.set_cons_zero, List.set_cons_succ]
        refine wpAnyH_take (i := 13) (v := .bool true) rfl (by kernel_rfl) (by kernel_rfl) (by kernel_rfl) (fun _ _ _ h => h) (Or.inl ⟨by rfl, ?_⟩) S_128.out ?_
        · intro w _
          have hrun := HNEQ.out w
          go_simp
        try simp only [Act.put, List.getElem_toArray, List.getElem_cons_zero, List.getElem_cons_succ, List.setIfInBounds_toArray, List.set_cons_zero, List.set_cons_succ]
        refine wpAnyH_take (i := 14) (v := ?_) rfl (by kernel_rfl) (by kernel_rfl) (by kernel_rfl) (fun _ _ _ h => h) (Or.inl ⟨by rfl, ?_⟩) S_128.out ?_
        rotate_left
        · intro w _; go_simp; with_reducible rfl
        try simp only [Act.put, List.getElem_toArray, List.getElem_cons_zero, List.getElem_cons_succ, List.setIfInBounds_toArray, List.set_cons_zero, List.set_cons_succ]
        refine wpAnyH_take (i := 15) (v := ?_) rfl (by kernel_rfl) (by kernel_rfl) (by kernel_rfl) (fun _ _ _ h => h) (Or.inl ⟨by rfl, ?_⟩) S_128.out ?_
        rotate_left
        · intro w _; go_simp; with_reducible rfl
        try simp only [Act.put, List.getElem_toArray, List.getElem_cons_zero, List.getElem_cons_succ, List.setIfInBounds_toArray, List.set_cons_zero, List.set_cons_succ]
        refine wpAnyH_done (by kernel_rfl) ?_ _
        go_wp2
        go_ret
        exact ⟨rfl, HB4.out.trans (S_128.out.mono HB4.out.size)⟩
      · have hltE : g118 < X118.heap.size := (World.ownsRow.lt E_118.out _ rfl).2
        go_simp
        have hba129 : Below X118.heap.size X118 (X118.alloc (.cells #[.int .u8 0] 5)) := (Below.refl _ X118).alloc (Nat.le_refl _) _
        have Z_129 := kept (show Mem (X118.alloc (.cells #[.int .u8 0] 5)) X118.heap.size (some ⟨X118.heap.size, 0, none⟩) [0] from mem_lit1 (w := X118) (b := 0) rfl)
        have S_130 := kept (HKEEP.out _ _ S_119.out hba129)
        clear S_119
        have L_131 := kept (L_120.out.below hba129 L_120.out.lt)
        clear L_120
        have E_132 := kept (E_118.out.below hba129)
        clear E_118
        refine hK.out _ _ S_130.out (fun _ => ?_)
        clear hK K
        try simp only [Act.put, List.getElem_toArray, List.getElem_cons_zero, List.getElem_cons_succ, List.setIfInBounds_toArray, List.set_cons_zero, List.set_cons_succ]
        obtain ⟨X129, hX129⟩ : ∃ Y, X118.alloc (.cells #[.int .u8 0] 5) = Y := ⟨_, rfl⟩
        obtain ⟨g129, hg129⟩ : ∃ g, X118.heap.size = g := ⟨_, rfl⟩
        rw [hX129] at S_130
        rw [hX129] at L_131
        rw [hX129] at E_132
        rw [hX129] at Z_129
        rw [hg129] at hltE
        rw [hg129] at Z_129
        rw [hX129, hg129]
        clear hX129 hg129 hba129
        have NEZ := kept (show g129 ≠ g118 by omega)
        clear hltE
        refine wpAnyH_ready (rs := [6]) (by kernel_rfl) (by simp) ?_
        refine AllReadyH.cons rfl (fun K hK => ?_) (AllReadyH.nil)
        refine step_append_own (by rfl) (.tmp 36) (.tmp 37) 22 rfl w4.heap.size i0 Tryd.underlying22 hi0 hzz0 hs0 hbb0 (.slice (some ⟨g118, 0, none⟩) 0 0) [] rfl E_132.out qk (some ⟨qk, 0, none⟩) kl ck key rfl HKEY.out.symm (HAT.out _ S_130.out).2.1 (by rw [HKEY.out]; have := HKL.out; simp; omega) S_130.out.size ?_
        intro v38 A133 ho133 hg133 ha133
        rw [List.nil_append] at ho133
        have hE133 : w4.heap.size ≤ g118 := (World.ownsRow.lt E_132.out _ rfl).1
        have S_133 := kept (show (fun w' : World => Below w4.heap.size w4 w') A133 from S_130.out.grown hg133 S_130.out.size (fun kk hk => by simp [Value.ownBlock] at hk; omega))
        have C_133 := kept ho133
        have Z_133 := kept (Z_129.out.grown hg133 (fun e => NEZ.out (by simpa [Value.ownBlock] using e)))
        have hL133 := L_131.out.lt
        have L_133 := kept (L_131.out.grown hg133 (fun e => NEL.out (by simpa [Value.ownBlock] using e)))
        have LC := kept (show ∀ kk, v38.ownBlock = some kk → kk ≠ g116 from fun kk hk => by
          have hne := NEL.out
          rcases ha133 with h | h
          · rw [h] at hk; simp [Value.ownBlock] at hk; omega
          · rw [h] at hk; injection hk with hk; omega)
        clear hL133
        clear ho133 hg133 ha133 hE133
        clear S_130 L_131 E_132 Z_129
        refine hK.out _ _ S_133.out (fun _ => ?_)
        clear hK K
        try simp only [Act.put, List.getElem_toArray, List.getElem_cons_zero, List.getElem_cons_succ, List.setIfInBounds_toArray, List.set_cons_zero, List.set_cons_succ]
        refine wpAnyH_ready (rs := [8]) (by kernel_rfl) (by simp) ?_
        refine AllReadyH.cons rfl (fun K hK => ?_) (AllReadyH.nil)
        refine step_append_own (by rfl) (.tmp 38) (.tmp 39) 22 rfl w4.heap.size i0 Tryd.underlying22 hi0 hzz0 hs0 hbb0 v38 key rfl C_133.out g129 (some ⟨g129, 0, none⟩) 1 1 [0] rfl rfl Z_133.out (by rw [HKEY.out]; have := HKL.out; simp; omega) S_133.out.size ?_
        intro v40 A134 ho134 hg134 ha134
        rw [HK0.out] at ho134
        obtain ⟨A40, q40, c40, rfl, hc40, _, hm40, _⟩ := ho134.form
        have S_134 := kept (show (fun w' : World => Below w4.heap.size w4 w') A134 from S_133.out.grown hg134 S_133.out.size (fun kk hk => (World.ownsRow.lt C_133.out kk hk).1))
        have K_134 := kept hm40
        have HC40 := kept hc40
        have L_134 := kept (L_133.out.grown hg134 (fun e => LC.out _ e.symm rfl))
        clear ho134 hg134 ha134 hc40 hm40
        clear S_133 C_133 Z_133 L_133
        refine hK.out _ _ S_134.out (fun _ => ?_)
        clear hK K
        try simp only [Act.put, List.getElem_toArray, List.getElem_cons_zero, List.getElem_cons_succ, List.setIfInBounds_toArray, List.set_cons_zero, List.set_cons_succ]
        refine wpAnyH_ready (rs := [11]) (by kernel_rfl) (by simp) ?_
        refine AllReadyH.cons rfl (fun K hK => ?_) (AllReadyH.nil)
        go_simp
        refine (HMZ2.out A134 q40 g116 A40 c40 (HAT.out _ S_134.out).1 K_134.out HC40.out (memM_blk L_134.out (HAT.out _ S_134.out).2.2 HC2.out)).mono ?_
        rintro e Y135 ⟨rfl, hb135⟩
        have S_136 := kept (HKEEP.out _ _ S_134.out hb135)
        clear S_134
        refine hK.out _ _ S_136.out (fun _ => ?_)
        clear hK K
        try simp only [Act.put, List.getElem_toArray, List.getElem_cons_zero, List.getElem_cons_succ, List.setIfInBounds_toArray, List.set_cons_zero, List.set_cons_succ]
        refine wpAnyH_take (i := 13) (v := .bool true) rfl (by kernel_rfl) (by kernel_rfl) (by kernel_rfl) (fun _ _ _ h => h) (Or.inl ⟨by rfl, ?_⟩) S_136.out ?_
        · intro w _
          have hrun := HNEQ.out w
          go_simp
        try simp only [Act.put, List.getElem_toArray, List.getElem_cons_zero, List.getElem_cons_succ, List.setIfInBounds_toArray, List.set_cons_zero, List.set_cons_succ]
        refine wpAnyH_take (i := 14) (v := ?_) rfl (by kernel_rfl) (by kernel_rfl) (by kernel_rfl) (fun _ _ _ h => h) (Or.inl ⟨by rfl, ?_⟩) S_136.out ?_
        rotate_left
        · intro w _; go_simp; with_reducible rfl
        try simp only [Act.put, List.getElem_toArray, List.getElem_cons_zero, List.getElem_cons_succ, List.setIfInBounds_toArray, List.set_cons_zero, List.set_cons_succ]
        refine wpAnyH_take (i := 15) (v := ?_) rfl (by kernel_rfl) (by kernel_rfl) (by kernel_rfl) (fun _ _ _ h => h) (Or.inl ⟨by rfl, ?_⟩) S_136.out ?_
        rotate_left
        · intro w _; go_simp; with_reducible rfl
        try simp only [Act.put, List.getElem_toArray, List.getElem_cons_zero, List.getElem_cons_succ, List.setIfInBounds_toArray, List.set_cons_zero, List.set_cons_succ]
        refine wpAnyH_done (by kernel_rfl) ?_ _
        go_wp2
        go_ret
        exact ⟨rfl, HB4.out.trans (S_136.out.mono HB4.out.size)⟩
    · go_simp
      have hba137 : Below X116.heap.size X116 (X116.alloc (.cells #[.int .u8 0] 5)) := (Below.refl _ X116).alloc (Nat.le_refl _) _
      have Z_137 := kept (show Mem (X116.alloc (.cells #[.int .u8 0] 5)) X116.heap.size (some ⟨X116.heap.size, 0, none⟩) [0] from mem_lit1 (w := X116) (b := 0) rfl)
      have S_138 := kept (HKEEP.out _ _ S_117.out hba137)
      clear S_117
      have L_139 := kept (L_116.out.below hba137 L_116.out.lt)
      clear L_116
      refine hK.out _ _ S_138.out (fun _ => ?_)
      clear hK K
      try simp only [Act.put, List.getElem_toArray, List.getElem_cons_zero, List.getElem_cons_succ, List.setIfInBounds_toArray, List.set_cons_zero, List.set_cons_succ]
      obtain ⟨X137, hX137⟩ : ∃ Y, X116.alloc (.cells #[.int .u8 0] 5) = Y := ⟨_, rfl⟩
      obtain ⟨g137, hg137⟩ : ∃ g, X116.heap.size = g := ⟨_, rfl⟩
      rw [hX137] at S_138
      rw [hX137] at L_139
      rw [hX137] at Z_137
      rw [hg137] at Z_137
      rw [hX137, hg137]
      clear hX137 hg137 hba137
      refine wpAnyH_ready (rs := [4]) (by kernel_rfl) (by simp) ?_
      refine AllReadyH.cons rfl (fun K hK => ?_) (AllReadyH.nil)
      have hltZ := Z_137.out.lt (by simp)
      have hltL := L_139.out.lt
      go_simp
      have hba140 : Below X137.heap.size X137 (X137.alloc (.cells #[] 5)) := (Below.refl _ X137).alloc (Nat.le_refl _) _
      have E_140 := kept (show Own (X137.alloc (.cells #[] 5)) w4.heap.size (.slice (some ⟨X137.heap.size, 0, none⟩) 0 0) [] from own_of_blk (l := []) (Blk.new X137 _ _) S_138.out.size (by simp))
      have S_141 := kept (HKEEP.out _ _ S_138.out hba140)
      clear S_138
      have L_142 := kept (L_139.out.below hba140 L_139.out.lt)
      clear L_139
      have Z_143 := kept (Z_137.out.below0 hba140)
      clear Z_137
      refine hK.out _ _ S_141.out (fun _ => ?_)
      clear hK K
      try simp only [Act.put, List.getElem_toArray, List.getElem_cons_zero, List.getElem_cons_succ, List.setIfInBounds_toArray, List.set_cons_zero, List.set_cons_succ]
      obtain ⟨X140, hX140⟩ : ∃ Y, X137.alloc (.cells #[] 5) = Y := ⟨_, rfl⟩
      obtain ⟨g140, hg140⟩ : ∃ g, X137.heap.size = g := ⟨_, rfl⟩
      rw [hX140] at S_141
      rw [hX140] at L_142
      rw [hX140] at Z_143
      rw [hX140] at E_140
      rw [hg140] at hltZ
      rw [hg140] at hltL
      rw [hg140] at E_140
      rw [hX140, hg140]
      clear hX140 hg140 hba140
      have NEZ := kept (show g137 ≠ g140 by omega)
      clear hltZ
      have NEL := kept (show g116 ≠ g140 by omega)
      clear hltL
      refine wpAnyH_ready (rs := [6]) (by kernel_rfl) (by simp) ?_
      refine AllReadyH.cons rfl (fun K hK => ?_) (AllReadyH.nil)
      refine step_append_own (by rfl) (.tmp 36) (.tmp 37) 22 rfl w4.heap.size i0 Tryd.underlying22 hi0 hzz0 hs0 hbb0 (.slice (some ⟨g140, 0, none⟩) 0 0) [] rfl E_140.out qk (some ⟨qk, 0, none⟩) kl ck key rfl HKEY.out.symm (HAT.out _ S_141.out).2.1 (by rw [HKEY.out]; have := HKL.out; simp; omega) S_141.out.size ?_
      intro v38 A144 ho144 hg144 ha144
      rw [List.nil_append] at ho144
      have hE144 : w4.heap.size ≤ g140 := (World.ownsRow.lt E_140.out _ rfl).1
      have S_144 := kept (show (fun w' : World => Below w4.heap.size w4 w') A144 from S_141.out.grown hg144 S_141.out.size (fun kk hk => by simp [Value.ownBlock] at hk; omega))
      have C_144 := kept ho144
      have Z_144 := kept (Z_143.out.grown hg144 (fun e => NEZ.out (by simpa [Value.ownBlock] using e)))
      have hL144 := L_142.out.lt
      have L_144 := kept (L_142.out.grown hg144 (fun e => NEL.out (by simpa [Value.ownBlock] using e)))
      have LC := kept (show ∀ kk, v38.ownBlock = some kk → kk ≠ g116 from fun kk hk => by
        have hne := NEL.out
        rcases ha144 with h | h
        · rw [h] at hk; simp [Value.ownBlock] at hk; omega
        · rw [h] at hk; injection hk with hk; omega)
      clear hL144
      clear ho144 hg144 ha144 hE144
      clear S_141 L_142 Z_143 E_140
      refine hK.out _ _ S_144.out (fun _ => ?_)
      clear hK K
      try simp only [Act.put, List.getElem_toArray, List.getElem_cons_zero, List.getElem_cons_succ, List.setIfInBounds_toArray, List.set_cons_zero, List.set_cons_succ]
      refine wpAnyH_ready (rs := [8]) (by kernel_rfl) (by simp) ?_
      refine AllReadyH.cons rfl (fun K hK => ?_) (AllReadyH.nil)
      refine step_append_own (by rfl) (.tmp 38) (.tmp 39) 22 rfl w4.heap.size i0 Tryd.underlying22 hi0 hzz0 hs0 hbb0 v38 key rfl C_144.out g137 (some ⟨g137, 0, none⟩) 1 1 [0] rfl rfl Z_144.out (by rw [HKEY.out]; have := HKL.out; simp; omega) S_144.out.size ?_
      intro v40 A145 ho145 hg145 ha145
      rw [HK0.out] at ho145
      obtain ⟨A40, q40, c40, rfl, hc40, _, hm40, _⟩ := ho145.form
      have S_145 := kept (show (fun w' : World => Below w4.heap.size w4 w') A145 from S_144.out.grown hg145 S_144.out.size (fun kk hk => (World.ownsRow.lt C_144.out kk hk).1))
      have K_145 := kept hm40
      have HC40 := kept hc40
      have L_145 := kept (L_144.out.grown hg145 (fun e => LC.out _ e.symm rfl))
      clear ho145 hg145 ha145 hc40 hm40
      clear S_144 C_144 Z_144 L_144
      refine hK.out _ _ S_145.out (fun _ => ?_)
      clear hK K
      try simp only [Act.put, List.getElem_toArray, List.getElem_cons_zero, List.getElem_cons_succ, List.setIfInBounds_toArray, List.set_cons_zero, List.set_cons_succ]
      refine wpAnyH_ready (rs := [11]) (by kernel_rfl) (by simp) ?_
      refine AllReadyH.cons rfl (fun K hK => ?_) (AllReadyH.nil)
      go_simp
      refine (HMZ2.out A145 q40 g116 A40 c40 (HAT.out _ S_145.out).1 K_145.out HC40.out (memM_blk L_145.out (HAT.out _ S_145.out).2.2 HC2.out)).mono ?_
      rintro e Y146 ⟨rfl, hb146⟩
      have S_147 := kept (HKEEP.out _ _ S_145.out hb146)
      clear S_145
      refine hK.out _ _ S_147.out (fun _ => ?_)
      clear hK K
      try simp only [Act.put, List.getElem_toArray, List.getElem_cons_zero, List.getElem_cons_succ, List.setIfInBounds_toArray, List.set_cons_zero, List.set_cons_succ]
      refine wpAnyH_take (i := 13) (v := .bool true) rfl (by kernel_rfl) (by kernel_rfl) (by kernel_rfl) (fun _ _ _ h => h) (Or.inl ⟨by rfl, ?_⟩) S_147.out ?_
      · intro w _
        have hrun := HNEQ.out w
        go_simp
      try simp only [Act.put, List.getElem_toArray, List.getElem_cons_zero, List.getElem_cons_succ, List.setIfInBounds_toArray, List.set_cons_zero, List.set_cons_succ]
      refine wpAnyH_take (i := 14) (v := ?_) rfl (by kernel_rfl) (by kernel_rfl) (by kernel_rfl) (fun _ _ _ h => h) (Or.inl ⟨by rfl, ?_⟩) S_147.out ?_
      rotate_left
      · intro w _; go_simp; with_reducible rfl
      try simp only [Act.put, List.getElem_toArray, List.getElem_cons_zero, List.getElem_cons_succ, List.setIfInBounds_toArray, List.set_cons_zero, List.set_cons_succ]
      refine wpAnyH_take (i := 15) (v := ?_) rfl (by kernel_rfl) (by kernel_rfl) (by kernel_rfl) (fun _ _ _ h => h) (Or.inl ⟨by rfl, ?_⟩) S_147.out ?_
      rotate_left
      · intro w _; go_simp; with_reducible rfl
      try simp only [Act.put, List.getElem_toArray, List.getElem_cons_zero, List.getElem_cons_succ, List.setIfInBounds_toArray, List.set_cons_zero, List.set_cons_succ]
      refine wpAnyH_done (by kernel_rfl) ?_ _
      go_wp2
      go_ret
      exact ⟨rfl, HB4.out.trans (S_147.out.mono HB4.out.size)⟩
end Go.Proofs.YtgplkdnffbappaaDoor.macKeys
