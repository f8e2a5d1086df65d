/-
  The reference's Derive, by a contract.
-/
import Derived.Test.YtcjbplgjjhenkaaDoorSm26
import Derived.Test.YtcjbplgjjhenkaaDoorSm10
namespace Go.Proofs.YtcjbplgjjhenkaaDoor
open Go.RowKit
set_option linter.unusedVariables false
set_option linter.unusedSimpArgs false

/-- A cut 's[:k]' of a slice of the call's own. -/
theorem own_take {w : World} {B n c : Nat} {A : Option Addr} {l : List UInt8} (h : Own w B (.slice A n c) l) (k : Nat) (hk : k ≤ l.length) : Own w B (.slice A k c) (l.take k) := by
  obtain ⟨h1, h2⟩ := h
  have hl : (l.take k).length = k := by rw [List.length_take]; omega
  refine ⟨by rw [hl]; simp [hk], ?_⟩
  rcases h2 with ⟨hv, hn⟩ | ⟨g, cap, cur, hv, hg, hh, hnc, hcm, hsz, ht⟩
  · injection hv with e1 e2 e3
    subst e1 e3
    have : l = [] := List.length_eq_zero_iff.1 hn
    subst this
    obtain rfl : k = 0 := by simpa using hk
    exact .inl ⟨rfl, rfl⟩
  · injection hv with e1 e2 e3
    subst e1 e3
    refine .inr ⟨g, c, cur, by rw [hl], hg, hh, by omega, hcm, hsz, ?_⟩
    rw [hl, List.map_take, ← ht, List.take_take, Nat.mul_one, Nat.mul_one, Nat.min_eq_left hk]
theorem rder_no (w : World) (v1 v2 : Value) (n : Int) (h : n < 0 ∨ 8160 < n) :
    Calls Tryd.prog 16 #[v1, v2, .int .i64 n] w fun e w' => e = .returned (.slice none 0 0) ∧ w = w' := by
  by_cases h0 : n < 0
  · have hd : decide (n < 0) = true := by simpa using h0
    clear h h0
    go_enter Tryd.func16, Tryd.ntmps16
    go_wp2
    go_ret
    exact ⟨rfl, rfl⟩
  · have hd : decide (n < 0) = false := by simpa using h0
    have hd2 : decide (8160 < n) = true := by rw [decide_eq_true_eq]; omega
    clear h h0
    go_enter Tryd.func16, Tryd.ntmps16
    go_wp2
    go_ret
    exact ⟨rfl, rfl⟩
set_option maxHeartbeats 16000000 in
set_option maxRecDepth 100000 in
theorem rder_yes (w : World) (q : Nat) (A : Option Addr) (n1 c : Nat) (k : List UInt8) (s : ByteArray) (n : Nat) (hn1 : n1 = k.length) (hm : Mem w q A k) (hkl : k.length ≤ 140737488355000) (hsl : s.data.toList.length ≤ 140737488354000) (hn : n ≤ 8160) :
    Calls Tryd.prog 16 #[.slice A n1 c, .string s, .int .i64 (n : Int)] w fun e w' => ∃ v, e = .returned v ∧ Own w' w.heap.size v (derive k s.data.toList n) ∧ Below w.heap.size w w' := by
  subst hn1
  obtain ⟨i0, hi0, hz0, hs0, hbb0⟩ := info_parts u8_info
  have HM := kept hm
  have hd : decide ((n : Int) < 0) = false := by rw [decide_eq_false_iff_not]; omega
  have hd2 : decide (8160 < (n : Int)) = false := by rw [decide_eq_false_iff_not]; omega
  obtain ⟨lab, hlab⟩ : ∃ l, s.data.toList = l := ⟨_, rfl⟩
  have HLAB := kept hlab
  rw [hlab] at hsl
  rw [hlab]
  have HRM := kept (fun (w' : World) (q2 : Nat) (A2 : Option Addr) (n2 c2 : Nat) (b : List UInt8) (hm1 : Mem w' q A k) (hn2 : n2 = b.length) (hm2 : Mem w' q2 A2 b) (hbl : b.length ≤ 140737488355000) => rmac_any w' q q2 A A2 k.length n2 c c2 k b rfl hm1 hkl hn2 hm2 hbl)
  have HBX := kept (fun (w : World) => Blk.new w 36 (Array.replicate 32 (.int .u8 0)))
  clear hm hkl hlab
  go_enter Tryd.func16, Tryd.ntmps16
  go_wp2_with fail
  clear hd hd2
  go_loopw [7, 8] (fun v i wr => ∃ j : Nat, j ≤ n ∧ i = .int .i64 j ∧ Kept (Own wr w.heap.size v (codes k lab ((j + 31) / 32))) ∧ Kept (Below w.heap.size w wr)) (fun _ i _ => n - (intOf i).toNat)
  case atStart => exact ⟨0, Nat.zero_le _, rfl, kept (Own.nil_ _ _), kept (Below.refl _ _)⟩
  case round =>
    obtain ⟨j, hj, rfl, HO, HB⟩ := hrel
    rename World => W1
    by_cases hlt : j < n
    · by_cases h32 : j % 32 = 0
      · have hr : (j : Int) % 32 = 0 := by omega
        have hq : (j : Int) / 32 = ((j / 32 : Nat) : Int) := by omega
        obtain ⟨a, ha⟩ : ∃ a, j / 32 = a := ⟨_, rfl⟩
        rw [ha] at hq
        have ha1 : a ≤ 254 := by omega
        have hja : (j + 31) / 32 = a := by omega
        have hja2 : (j + 1 + 31) / 32 = a + 1 := by omega
        rw [hja] at HO
        have hib : (((UInt8.ofNat (a + 1)).toNat : Nat) : Int) = (a : Int) + 1 := by rw [UInt8.toNat_ofNat']; omega
        have hcod : codes k lab (a + 1) = codes k lab a ++ hmac k (UInt8.ofNat (a + 1) :: lab) := rfl
        obtain ⟨ib, hibe⟩ : ∃ b, UInt8.ofNat (a + 1) = b := ⟨_, rfl⟩
        rw [hibe] at hib hcod
        obtain ⟨D, hD⟩ : ∃ D, hmac k (ib :: lab) = D := ⟨_, rfl⟩
        have hDl : D.length = 32 := by rw [← hD, hmac_len]
        rw [hD] at hcod
        have hcl := codes_len k lab a
        obtain ⟨T, hT⟩ : ∃ T, codes k lab a = T := ⟨_, rfl⟩
        rw [hT] at HO hcod hcl
        have HCOD := kept hcod
        have HDE := kept hD
        have HDL := kept hDl
        have HJA := kept hja2
        have HTL := kept hcl
        have HIB := kept hib
        have hx1 : Own (W1.alloc (.cells #[.int .u8 (ib.toNat : Int)] 5)) W1.heap.size (.slice (some ⟨W1.heap.size, 0, none⟩) 1 1) [ib] := own_of_blk (l := [ib]) (Blk.new W1 _ _) (Nat.le_refl _) (by simp)
        rw [hib] at hx1
        have HX1 := kept hx1
        have HBA := kept ((Below.refl _ W1).alloc (Nat.le_refl _) (.cells #[.int .u8 ((a : Int) + 1)] 5))
        clear hibe ha hja hja2 hcod hD hDl hT hcl hx1 h32 hib
        obtain ⟨M, hM⟩ : ∃ M, [ib] ++ lab = M := ⟨_, rfl⟩
        have hml : M.length ≤ 140737488355000 := by rw [← hM]; simp; omega
        have HRM2 := kept (fun (w' : World) (q2 : Nat) (A2 : Option Addr) (c2 : Nat) (hm1 : Mem w' q A k) (hm2 : Mem w' q2 A2 M) => HRM.out w' q2 A2 M.length c2 M hm1 rfl hm2 hml)
        have HDE2 := kept (show hmac k M = D by rw [← hM]; exact HDE.out)
        rw [HDE2.out] at HRM2
        have HMM := kept hM
        clear hM hml
        have hls : s.data.toList.length ≤ 140737488354000 := by rw [HLAB.out]; exact hsl
        have HLS := kept hls
        clear hls
        go_upto_region 9 with (first | (at_builtin; refine wpList_append_str rfl (.tmp 29) (.tmp 30) 24 9 rfl W1.heap.size i0 Tryd.underlying24 Tryd.underlying9 hi0 hz0 hs0 hbb0 (.slice (some ⟨W1.heap.size, 0, none⟩) 1 1) [ib] rfl HX1.out s rfl (by rw [List.length_singleton]; have := HLS.out; omega) HBA.out.size ?_; intro v2 W2; rw [HLAB.out, HMM.out]; intro ho2 hg2; obtain ⟨A2, q2, c2, rfl, _, _, hm2, _⟩ := ho2.form; have HM2 := kept hm2; have HB2 := kept (HBA.out.grown hg2 HBA.out.size (fun kk hk => by simp [Value.ownBlock] at hk; omega)); clear ho2 hg2 hm2) | (go_at_call 21; refine (HRM2.out _ _ _ _ ((HM.out.below0 HB.out).below0 HB2.out) HM2.out).mono ?_; rintro e W3 ⟨rfl, hb3⟩; have HB3 := kept (HB2.out.trans (hb3.mono HB2.out.size)); clear hb3) | (refine wpList_store_row rfl 36 _ _ rfl W3.heap.size (D.map bv).toArray rfl rfl 36 (Array.replicate 32 (.int .u8 0)) (HBX.out W3) (by rw [b32_size]; simp [HDL.out]) (by simp [HDL.out]) (padded_one D) ?_))
        go_name_world W4 hW4
        have hb14 : Below W1.heap.size W1 W4 := by rw [← hW4]; exact below_setRow (HB3.out.alloc HB3.out.size _) HB3.out.size _
        have HD4 := kept (show Blk W4 W3.heap.size 36 (D.map bv).toArray by rw [← hW4]; exact setRow_heap _ _ _ _ _ _ (HBX.out W3))
        have HO4 := kept (HO.out.below hb14)
        have HB4 := kept (HB.out.trans (hb14.mono HB.out.size))
        clear hW4 hb14 HB2 HM2 HX1 HO
        obtain ⟨gD, hgD⟩ : ∃ g, W3.heap.size = g := ⟨_, rfl⟩
        rw [hgD] at HD4
        rw [hgD]
        clear hgD HB3
        go_wp2_with (at_builtin; refine wpList_append_bytes rfl (.tmp 33) (.tmp 34) 24 rfl w.heap.size i0 Tryd.underlying24 hi0 hz0 hs0 hbb0 u7 T rfl HO4.out gD (some ⟨gD, 0, none⟩) 32 32 D rfl HDL.out.symm (mem_blk2 HD4.out) (by rw [HTL.out, HDL.out]; omega) HB4.out.size ?_; intro v5 W5 ho5 hg5)
        have HO5 := kept ho5
        have HB5 := kept (HB4.out.grown hg5 HB4.out.size (fun kk hk => (World.ownsRow.lt HO4.out kk hk).1))
        clear ho5 hg5
        go_wp2
        go_roundw
        case rel => exact ⟨j + 1, by omega, by go_num, kept (by rw [HJA.out, HCOD.out]; exact HO5.out), HB5⟩
        case measure => simp [intOf]; omega
      · have hr : ¬ ((j : Int) % 32 = 0) := by omega
        have hja : (j + 1 + 31) / 32 = (j + 31) / 32 := by omega
        have HJA := kept hja
        clear hja h32
        go_wp2
        go_roundw
        case rel => exact ⟨j + 1, by omega, by go_num, kept (by rw [HJA.out]; exact HO.out), HB⟩
        case measure => simp [intOf]; omega
    · obtain rfl : j = n := by omega
      obtain ⟨A5, q5, c5, rfl, hc5, hcm5, hm5, hq5, _⟩ := HO.out.form
      have hcl := codes_len k lab ((j + 31) / 32)
      have hde : derive k lab j = (codes k lab ((j + 31) / 32)).take j := rfl
      obtain ⟨T, hT⟩ : ∃ T, codes k lab ((j + 31) / 32) = T := ⟨_, rfl⟩
      rw [hT] at HO hc5 hm5 hcl hde
      rw [hT]
      have h0 : (0 : Int) ≤ (j : Int) := by omega
      have h1 : j ≤ T.length := by omega
      have h2 : (j : Int) ≤ (c5 : Int) := by omega
      have HCUT := kept (own_take HO.out j h1)
      have HDE := kept hde
      clear hT hcl hde hq5 hm5 h1
      go_wp2_with fail
      go_ret
      exact ⟨_, rfl, by rw [HDE.out]; exact HCUT.out, HB.out⟩
end Go.Proofs.YtcjbplgjjhenkaaDoor
