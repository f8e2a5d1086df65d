/-
  The walk of the law MacChecks, where the arguments are within its bounds.
-/
import Derived.Test.YtgplkdnffbappaaDoorMacMore
import Derived.Test.YtgplkdnffbappaaDoorMacAwk
import Derived.Test.YtgplkdnffbappaaDoorMacRef
import Derived.Test.YtgplkdnffbappaaDoorHOpen
import Derived.Deep.Cut
namespace Go.Proofs.YtgplkdnffbappaaDoor.macChecks
open Go.ChangeShapes Go.WideShapes Go.ChangeAt Go.RowKit
set_option linter.unusedVariables false
set_option linter.unusedSimpArgs false

theorem take_7 (D : List UInt8) (m : Nat) (hD : D.length = 32) (h : m ≤ 32) : (D ++ [7]).take m = D.take m := List.take_append_of_le_length (by omega)
set_option maxHeartbeats 16000000 in
set_option maxRecDepth 100000 in
theorem walk_nil (w : World) (q1 q2 : Nat) (A1 A2 : Option Addr) (c1 c2 : Nat) (k b : List UInt8) (n at8 : Nat) (c : UInt8) (hK : KAt w) (hm1 : Mem w q1 A1 k) (hc1 : k.length ≤ c1) (hm2 : Mem w q2 A2 b) (hc2 : b.length ≤ c2) (hk : k.length ≤ 200) (hb : b.length ≤ 500) (hn : n < 256) (hat : at8 < 256) (hway : n % 34 = 0) :
    Calls Tryd.prog 5 #[.slice A1 k.length c1, .slice A2 b.length c2, .int .u8 (n : Int), .int .u8 (at8 : Int), .int .u8 (c.toNat : Int)] w fun e w' => e = .returned (.bool true) ∧ Below w.heap.size w w' := by
  obtain ⟨i0, hi0, hz0, hs0, hbb0⟩ := info_parts u8_info
  have HK := kept hK
  have HM1 := kept hm1
  have HM2 := kept hm2
  have hd1 : decide ((200 : Int) < (k.length : Int)) = false := by rw [decide_eq_false_iff_not]; omega
  have hd2 : decide ((500 : Int) < (b.length : Int)) = false := by rw [decide_eq_false_iff_not]; omega
  have HR := kept (fun (w' : World) (a1 : Mem w' q1 A1 k) (a2 : Mem w' q2 A2 b) => rmac_any w' q1 q2 A1 A2 k.length b.length c1 c2 k b rfl a1 (by omega) rfl a2 (by omega))
  have hml := hmac_len k b
  have HCH := kept (fun (w' : World) (qc gL : Nat) (Ac : Option Addr) (nc cc : Nat) (code : List UInt8) (hk' : KAt w') (a1 : Mem w' q1 A1 k) (hnc : nc = code.length) (hcl : code.length ≤ 140737488355328) (a3 : Mem w' qc Ac code) (a2 : MemM w' gL (some ⟨gL, 0, none⟩) [b]) =>
    check_any w' q1 gL qc A1 (some ⟨gL, 0, none⟩) Ac k.length 1 nc c1 1 cc k code [b] hk' rfl a1 hc1 (by omega) hnc a3 hcl rfl a2 (by simp) (by simp; omega))
  rw [show [b].flatten = b by simp] at HCH
  obtain ⟨D, hD⟩ : ∃ D, hmac k b = D := ⟨_, rfl⟩
  rw [hD] at HR HCH hml
  have HDL := kept hml
  have HC2 := kept hc2
  obtain ⟨m, hmm⟩ : ∃ m, n % 34 = m := ⟨_, rfl⟩
  rw [hmm] at hway
  have hnm : (n : Int) % 34 = (m : Int) := by omega
  have hn8 : (n : Int) < 256 := by omega
  have hat8 : (at8 : Int) < 256 := by omega
  have HM33 := kept (show m ≤ 33 by omega)
  clear hK hm1 hm2 hD hml hc1 hc2 hk hb hmm
  go_enter Tryd.func5, Tryd.ntmps5
  go_wp2_with fail
  refine (mawake_any _ HK.out).mono ?_
  rintro e w1 ⟨rfl, b1⟩
  have HB1 := kept b1
  clear b1
  go_wp2_with fail
  refine (HR.out w1 (HM1.out.below0 HB1.out) (HM2.out.below0 HB1.out)).mono ?_
  rintro e w2 ⟨rfl, b2⟩
  go_upto_region 4 with (refine wpList_store_row rfl 26 _ _ rfl w2.heap.size (D.map bv).toArray rfl rfl 26 (Array.replicate 32 (.int .u8 0)) (Blk.new w2 _ _) (by rw [b32_size]; simp [HDL.out]) (by simp [HDL.out]) (padded_one D) ?_)
  go_name_world w3 hW3
  have hb13 : Below w1.heap.size w1 w3 := by rw [← hW3]; exact below_setRow (b2.alloc b2.size _) b2.size _
  have HF3 := kept (show Blk w3 w2.heap.size 26 (D.map bv).toArray by rw [← hW3]; exact setRow_heap _ _ _ _ _ _ (Blk.new w2 _ _))
  have HB3 := kept (HB1.out.trans (hb13.mono HB1.out.size))
  clear hW3 b2 hb13 HB1
  obtain ⟨gF, hgF⟩ : ∃ g, w2.heap.size = g := ⟨_, rfl⟩
  rw [hgF] at HF3
  rw [hgF]
  clear hgF
  have HOE := kept (show Own (w3.alloc (.cells #[] 5)) w3.heap.size (.slice (some ⟨w3.heap.size, 0, none⟩) 0 0) [] from own_of_blk (l := []) (Blk.new w3 _ _) (Nat.le_refl _) (by simp))
  have HFA := kept (mem_blk (HF3.out.alloc (.cells #[] 5)))
  have HBA := kept ((Below.refl _ w3).alloc (Nat.le_refl _) (.cells #[] 5))
  have h33 : (D ++ [7]).length = 33 := by rw [List.length_append, HDL.out]; rfl
  obtain ⟨G, hG⟩ : ∃ G, D ++ [7] = G := ⟨_, rfl⟩
  rw [hG] at h33
  have HGE := kept hG
  have HGL := kept h33
  have hD32 : D.length = 32 := HDL.out
  clear hG h33
  go_upto_region 5 with (first | (at_builtin; refine wpList_append_bytes rfl (.tmp 32) (.tmp 33) 22 rfl w3.heap.size i0 Tryd.underlying22 hi0 hz0 hs0 hbb0 (.slice (some ⟨w3.heap.size, 0, none⟩) 0 0) [] rfl HOE.out gF (some ⟨gF, 0, none⟩) 32 32 D rfl HDL.out.symm HFA.out (by rw [HDL.out]; simp) HBA.out.size ?_; intro v4 w4 ho4 hg4; rw [List.nil_append] at ho4; have HB4 := kept (HBA.out.grown hg4 HBA.out.size (fun kk hk => by simp [Value.ownBlock] at hk; omega)); have HO4 := kept (ho4.alloc (.cells #[.int .u8 7] 5)); have HX4 := kept (show Mem (w4.alloc (.cells #[.int .u8 7] 5)) w4.heap.size (some ⟨w4.heap.size, 0, none⟩) [7] from mem_lit1 (w := w4) (b := 7) rfl); have HBX4 := kept (HB4.out.alloc HB4.out.size (.cells #[.int .u8 7] 5)); clear ho4 hg4) | (at_builtin; refine wpList_append_bytes rfl (.tmp 34) (.tmp 35) 22 rfl w3.heap.size i0 Tryd.underlying22 hi0 hz0 hs0 hbb0 v4 D rfl HO4.out w4.heap.size (some ⟨w4.heap.size, 0, none⟩) 1 1 [7] rfl rfl HX4.out (by rw [HDL.out]; simp) HBX4.out.size ?_; intro v5 w5 ho5 hg5; rw [HGE.out] at ho5; obtain ⟨A5, q5, c5, rfl, hc5, _, hm5, hf5, _⟩ := ho5.form; have HO5 := kept ho5; have HB5 := kept (HBX4.out.grown hg5 HBX4.out.size (fun kk hk => (World.ownsRow.lt HO4.out kk hk).1)); have HF5 := kept hf5; have HC5 := kept hc5; clear ho5 hg5 hm5 hf5 hc5))
  obtain ⟨_, rfl, _⟩ := HF5.out (by intro e; have := HGL.out; rw [e] at this; simp at this)
  have HCD := kept (own_take HO5.out m (by have := HGL.out; have := HM33.out; omega))
  have HBW := kept (HB3.out.trans (HB5.out.mono HB3.out.size))
  have HS5 := kept HB5.out.size
  have HS3 := kept (show w.heap.size ≤ w3.heap.size from HB3.out.size)
  have hmc : (m : Int) ≤ (c5 : Int) := by have := HC5.out; have := HGL.out; have := HM33.out; omega
  have hm0 : (0 : Int) ≤ (m : Int) := by omega
  clear HOE HFA HBA HB4 HO4 HX4 HBX4 HF5 HF3 HB3 HB5 HO5 hD32
  obtain ⟨CD, hCD⟩ : ∃ C, G.take m = C := ⟨_, rfl⟩
  have hcl : CD.length = m := by rw [← hCD, List.length_take, HGL.out]; have := HM33.out; omega
  rw [hCD] at HCD
  have HCL := kept hcl
  have hck1 : chkB CD D = false := chkB_len CD D (by rw [HCL.out]; omega)
  have hsb : MemM (w5.alloc (.cells #[.slice A2 b.length c2] 22)) w5.heap.size (some ⟨w5.heap.size, 0, none⟩) [b] := memM_one (w := w5) (g := w5.heap.size) (c1 := c2) rfl (HM2.out.below0 HBW.out) HC2.out
  have hba : Below w5.heap.size w5 (w5.alloc (.cells #[.slice A2 b.length c2] 22)) := (Below.refl _ w5).alloc (Nat.le_refl _) _
  have hmem : Mem w5 q5 (some ⟨q5, 0, none⟩) CD := by
    obtain ⟨A', q', hx⟩ : ∃ A' q', A' = (some ⟨q5, 0, none⟩ : Option Addr) ∧ Mem w5 q' A' CD := by
      obtain ⟨A', q', c', hv, _, _, hm, _⟩ := HCD.out.form
      injection hv with e1 e2 e3
      exact ⟨A', q', e1.symm, hm⟩
    obtain ⟨rfl, hx⟩ := hx
    rcases hx with h | ⟨o, ho, hcc⟩
    · exact .inl h
    · injection ho with ho
      injection ho with h1 h2 _
      subst h1 h2
      exact .inr ⟨0, rfl, hcc⟩
  have HC1 := kept (HCH.out _ q5 _ (some ⟨q5, 0, none⟩) m c5 CD ((HK.out.below0 HBW.out).below0 hba) ((HM1.out.below0 HBW.out).below0 hba) HCL.out.symm (by rw [HCL.out]; omega) (hmem.below0 hba) hsb)
  rw [hck1] at HC1
  have HBA5 := kept hba
  clear hsb hba hmem hck1 hCD hcl
  have hg1 : decide ((16 : Int) ≤ (m : Int)) = false := by rw [decide_eq_false_iff_not]; omega
  have hme : m = 0 := by omega
  subst hme
  clear hway HCH
  go_wp2_with fail
  refine HC1.out.mono ?_
  rintro e w6 ⟨rfl, b6⟩
  have hb56 := HBA5.out.trans (b6.mono HBA5.out.size)
  have HB6 := kept (HBW.out.trans (hb56.mono HBW.out.size))
  clear b6 hb56
  go_wp2_with fail
  go_ret
  exact ⟨rfl, HB6.out⟩
set_option maxHeartbeats 16000000 in
set_option maxRecDepth 100000 in
theorem walk_low (w : World) (q1 q2 : Nat) (A1 A2 : Option Addr) (c1 c2 : Nat) (k b : List UInt8) (n at8 : Nat) (c : UInt8) (hK : KAt w) (hm1 : Mem w q1 A1 k) (hc1 : k.length ≤ c1) (hm2 : Mem w q2 A2 b) (hc2 : b.length ≤ c2) (hk : k.length ≤ 200) (hb : b.length ≤ 500) (hn : n < 256) (hat : at8 < 256) (hway : 0 < n % 34 ∧ n % 34 < 16) :
    Calls Tryd.prog 5 #[.slice A1 k.length c1, .slice A2 b.length c2, .int .u8 (n : Int), .int .u8 (at8 : Int), .int .u8 (c.toNat : Int)] w fun e w' => e = .returned (.bool true) ∧ Below w.heap.size w w' := by
  obtain ⟨i0, hi0, hz0, hs0, hbb0⟩ := info_parts u8_info
  have HK := kept hK
  have HM1 := kept hm1
  have HM2 := kept hm2
  have hd1 : decide ((200 : Int) < (k.length : Int)) = false := by rw [decide_eq_false_iff_not]; omega
  have hd2 : decide ((500 : Int) < (b.length : Int)) = false := by rw [decide_eq_false_iff_not]; omega
  have HR := kept (fun (w' : World) (a1 : Mem w' q1 A1 k) (a2 : Mem w' q2 A2 b) => rmac_any w' q1 q2 A1 A2 k.length b.length c1 c2 k b rfl a1 (by omega) rfl a2 (by omega))
  have hml := hmac_len k b
  have HCH := kept (fun (w' : World) (qc gL : Nat) (Ac : Option Addr) (nc cc : Nat) (code : List UInt8) (hk' : KAt w') (a1 : Mem w' q1 A1 k) (hnc : nc = code.length) (hcl : code.length ≤ 140737488355328) (a3 : Mem w' qc Ac code) (a2 : MemM w' gL (some ⟨gL, 0, none⟩) [b]) =>
    check_any w' q1 gL qc A1 (some ⟨gL, 0, none⟩) Ac k.length 1 nc c1 1 cc k code [b] hk' rfl a1 hc1 (by omega) hnc a3 hcl rfl a2 (by simp) (by simp; omega))
  rw [show [b].flatten = b by simp] at HCH
  obtain ⟨D, hD⟩ : ∃ D, hmac k b = D := ⟨_, rfl⟩
  rw [hD] at HR HCH hml
  have HDL := kept hml
  have HC2 := kept hc2
  obtain ⟨m, hmm⟩ : ∃ m, n % 34 = m := ⟨_, rfl⟩
  rw [hmm] at hway
  have hnm : (n : Int) % 34 = (m : Int) := by omega
  have hn8 : (n : Int) < 256 := by omega
  have hat8 : (at8 : Int) < 256 := by omega
  have HM33 := kept (show m ≤ 33 by omega)
  clear hK hm1 hm2 hD hml hc1 hc2 hk hb hmm
  go_enter Tryd.func5, Tryd.ntmps5
  go_wp2_with fail
  refine (mawake_any _ HK.out).mono ?_
  rintro e w1 ⟨rfl, b1⟩
  have HB1 := kept b1
  clear b1
  go_wp2_with fail
  refine (HR.out w1 (HM1.out.below0 HB1.out) (HM2.out.below0 HB1.out)).mono ?_
  rintro e w2 ⟨rfl, b2⟩
  go_upto_region 4 with (refine wpList_store_row rfl 26 _ _ rfl w2.heap.size (D.map bv).toArray rfl rfl 26 (Array.replicate 32 (.int .u8 0)) (Blk.new w2 _ _) (by rw [b32_size]; simp [HDL.out]) (by simp [HDL.out]) (padded_one D) ?_)
  go_name_world w3 hW3
  have hb13 : Below w1.heap.size w1 w3 := by rw [← hW3]; exact below_setRow (b2.alloc b2.size _) b2.size _
  have HF3 := kept (show Blk w3 w2.heap.size 26 (D.map bv).toArray by rw [← hW3]; exact setRow_heap _ _ _ _ _ _ (Blk.new w2 _ _))
  have HB3 := kept (HB1.out.trans (hb13.mono HB1.out.size))
  clear hW3 b2 hb13 HB1
  obtain ⟨gF, hgF⟩ : ∃ g, w2.heap.size = g := ⟨_, rfl⟩
  rw [hgF] at HF3
  rw [hgF]
  clear hgF
  have HOE := kept (show Own (w3.alloc (.cells #[] 5)) w3.heap.size (.slice (some ⟨w3.heap.size, 0, none⟩) 0 0) [] from own_of_blk (l := []) (Blk.new w3 _ _) (Nat.le_refl _) (by simp))
  have HFA := kept (mem_blk (HF3.out.alloc (.cells #[] 5)))
  have HBA := kept ((Below.refl _ w3).alloc (Nat.le_refl _) (.cells #[] 5))
  have h33 : (D ++ [7]).length = 33 := by rw [List.length_append, HDL.out]; rfl
  obtain ⟨G, hG⟩ : ∃ G, D ++ [7] = G := ⟨_, rfl⟩
  rw [hG] at h33
  have HGE := kept hG
  have HGL := kept h33
  have hD32 : D.length = 32 := HDL.out
  clear hG h33
  go_upto_region 5 with (first | (at_builtin; refine wpList_append_bytes rfl (.tmp 32) (.tmp 33) 22 rfl w3.heap.size i0 Tryd.underlying22 hi0 hz0 hs0 hbb0 (.slice (some ⟨w3.heap.size, 0, none⟩) 0 0) [] rfl HOE.out gF (some ⟨gF, 0, none⟩) 32 32 D rfl HDL.out.symm HFA.out (by rw [HDL.out]; simp) HBA.out.size ?_; intro v4 w4 ho4 hg4; rw [List.nil_append] at ho4; have HB4 := kept (HBA.out.grown hg4 HBA.out.size (fun kk hk => by simp [Value.ownBlock] at hk; omega)); have HO4 := kept (ho4.alloc (.cells #[.int .u8 7] 5)); have HX4 := kept (show Mem (w4.alloc (.cells #[.int .u8 7] 5)) w4.heap.size (some ⟨w4.heap.size, 0, none⟩) [7] from mem_lit1 (w := w4) (b := 7) rfl); have HBX4 := kept (HB4.out.alloc HB4.out.size (.cells #[.int .u8 7] 5)); clear ho4 hg4) | (at_builtin; refine wpList_append_bytes rfl (.tmp 34) (.tmp 35) 22 rfl w3.heap.size i0 Tryd.underlying22 hi0 hz0 hs0 hbb0 v4 D rfl HO4.out w4.heap.size (some ⟨w4.heap.size, 0, none⟩) 1 1 [7] rfl rfl HX4.out (by rw [HDL.out]; simp) HBX4.out.size ?_; intro v5 w5 ho5 hg5; rw [HGE.out] at ho5; obtain ⟨A5, q5, c5, rfl, hc5, _, hm5, hf5, _⟩ := ho5.form; have HO5 := kept ho5; have HB5 := kept (HBX4.out.grown hg5 HBX4.out.size (fun kk hk => (World.ownsRow.lt HO4.out kk hk).1)); have HF5 := kept hf5; have HC5 := kept hc5; clear ho5 hg5 hm5 hf5 hc5))
  obtain ⟨_, rfl, _⟩ := HF5.out (by intro e; have := HGL.out; rw [e] at this; simp at this)
  have HCD := kept (own_take HO5.out m (by have := HGL.out; have := HM33.out; omega))
  have HBW := kept (HB3.out.trans (HB5.out.mono HB3.out.size))
  have HS5 := kept HB5.out.size
  have HS3 := kept (show w.heap.size ≤ w3.heap.size from HB3.out.size)
  have hmc : (m : Int) ≤ (c5 : Int) := by have := HC5.out; have := HGL.out; have := HM33.out; omega
  have hm0 : (0 : Int) ≤ (m : Int) := by omega
  clear HOE HFA HBA HB4 HO4 HX4 HBX4 HF5 HF3 HB3 HB5 HO5 hD32
  obtain ⟨CD, hCD⟩ : ∃ C, G.take m = C := ⟨_, rfl⟩
  have hcl : CD.length = m := by rw [← hCD, List.length_take, HGL.out]; have := HM33.out; omega
  rw [hCD] at HCD
  have HCL := kept hcl
  have hck1 : chkB CD D = false := chkB_len CD D (by rw [HCL.out]; omega)
  have hsb : MemM (w5.alloc (.cells #[.slice A2 b.length c2] 22)) w5.heap.size (some ⟨w5.heap.size, 0, none⟩) [b] := memM_one (w := w5) (g := w5.heap.size) (c1 := c2) rfl (HM2.out.below0 HBW.out) HC2.out
  have hba : Below w5.heap.size w5 (w5.alloc (.cells #[.slice A2 b.length c2] 22)) := (Below.refl _ w5).alloc (Nat.le_refl _) _
  have hmem : Mem w5 q5 (some ⟨q5, 0, none⟩) CD := by
    obtain ⟨A', q', hx⟩ : ∃ A' q', A' = (some ⟨q5, 0, none⟩ : Option Addr) ∧ Mem w5 q' A' CD := by
      obtain ⟨A', q', c', hv, _, _, hm, _⟩ := HCD.out.form
      injection hv with e1 e2 e3
      exact ⟨A', q', e1.symm, hm⟩
    obtain ⟨rfl, hx⟩ := hx
    rcases hx with h | ⟨o, ho, hcc⟩
    · exact .inl h
    · injection ho with ho
      injection ho with h1 h2 _
      subst h1 h2
      exact .inr ⟨0, rfl, hcc⟩
  have HC1 := kept (HCH.out _ q5 _ (some ⟨q5, 0, none⟩) m c5 CD ((HK.out.below0 HBW.out).below0 hba) ((HM1.out.below0 HBW.out).below0 hba) HCL.out.symm (by rw [HCL.out]; omega) (hmem.below0 hba) hsb)
  rw [hck1] at HC1
  have HBA5 := kept hba
  clear hsb hba hmem hck1 hCD hcl
  have hg1 : decide ((16 : Int) ≤ (m : Int)) = false := by rw [decide_eq_false_iff_not]; omega
  have hmp : (0 : Int) < (m : Int) := by omega
  have hmn : ¬ ((m : Int) = 0) := by omega
  obtain ⟨i, hi⟩ : ∃ i, at8 % m = i := ⟨_, rfl⟩
  have him : i < m := by rw [← hi]; exact Nat.mod_lt _ (by omega)
  have hai : (at8 : Int) % (m : Int) = (i : Int) := by rw [← hi]; rfl
  have hicl : i < CD.length := by rw [HCL.out]; exact him
  have HAT := kept (own_at HCD.out i hicl)
  have HSET := kept (fun (w' : World) (ho : Own w' w3.heap.size (.slice (some ⟨q5, 0, none⟩) m c5) CD) => own_set ho i c hicl)
  have hck2 : chkB (CD.set i c) D = false := chkB_len _ D (by rw [List.length_set, HCL.out]; omega)
  have HCK2 := kept hck2
  generalize hxv : (CD[i]'hicl) = x at HAT
  have HXV := kept (show ∃ h : i < CD.length, CD[i]'h = x from ⟨hicl, hxv⟩)
  have hi0 : (0 : Int) ≤ (i : Int) := by omega
  have hi1 : (i : Int) < (m : Int) := by omega
  clear hi hicl hck2 hxv
  clear hway
  go_wp2_with fail
  refine HC1.out.mono ?_
  rintro e w6 ⟨rfl, b6⟩
  have hb56 := HBA5.out.trans (b6.mono HBA5.out.size)
  have HB6 := kept (HBW.out.trans (hb56.mono HBW.out.size))
  have HO6 := kept (HCD.out.below hb56)
  have hat6 := own_at HO6.out i (by rw [HCL.out]; exact him)
  obtain ⟨hcell, hfz, hq5⟩ := hat6
  obtain ⟨_, hxv⟩ := HXV.out
  rw [hxv] at hcell
  clear hxv
  have HQ5 := kept hq5
  have hw7 : w6.setCell ⟨q5, i, none⟩ (.int .u8 (c.toNat : Int)) = w6.setCell ⟨q5, i, none⟩ (.int .u8 (c.toNat : Int)) := rfl
  have hb7 : Below w.heap.size w (w6.setCell ⟨q5, i, none⟩ (.int .u8 (c.toNat : Int))) := HB6.out.setCell (p := ⟨q5, i, none⟩) (by have := HQ5.out; have := HS3.out; show w.heap.size ≤ q5; omega) _
  have hO7 := HSET.out w6 HO6.out
  have hsb : MemM ((w6.setCell ⟨q5, i, none⟩ (.int .u8 (c.toNat : Int))).alloc (.cells #[.slice A2 b.length c2] 22)) w6.heap.size (some ⟨w6.heap.size, 0, none⟩) [b] := memM_one (g := w6.heap.size) (c1 := c2) (by simp) (HM2.out.below0 hb7) HC2.out
  have hba : Below w.heap.size w ((w6.setCell ⟨q5, i, none⟩ (.int .u8 (c.toNat : Int))).alloc (.cells #[.slice A2 b.length c2] 22)) := hb7.alloc hb7.size _
  have hmem7 : Mem ((w6.setCell ⟨q5, i, none⟩ (.int .u8 (c.toNat : Int))).alloc (.cells #[.slice A2 b.length c2] 22)) q5 (some ⟨q5, 0, none⟩) (CD.set i c) := by
    obtain ⟨A', q', c', hv, _, _, hm, _⟩ := hO7.form
    injection hv with e1 e2 e3
    subst e1
    rcases hm with h | ⟨o, ho, hcc⟩
    · exact .inl h
    · injection ho with ho
      injection ho with h1 h2 _
      subst h1 h2
      exact (show Mem _ q5 (some ⟨q5, 0, none⟩) (CD.set i c) from .inr ⟨0, rfl, hcc⟩).alloc _
  have HC2' := kept (HCH.out _ q5 _ (some ⟨q5, 0, none⟩) m c5 (CD.set i c) (HK.out.below0 hba) (HM1.out.below0 hba) (by rw [List.length_set, HCL.out]) (by rw [List.length_set, HCL.out]; omega) hmem7 hsb)
  rw [HCK2.out] at HC2'
  have HBA7 := kept hba
  clear b6 hb56 hq5 hw7 hb7 hO7 hsb hba hmem7 HSET
  go_wp2_with fail
  refine HC2'.out.mono ?_
  rintro e w8 ⟨rfl, b8⟩
  have HB8 := kept (HBA7.out.trans (b8.mono HBA7.out.size))
  clear b8
  go_wp2_with fail
  go_ret
  exact ⟨rfl, HB8.out⟩
set_option maxHeartbeats 16000000 in
set_option maxRecDepth 100000 in
theorem walk_hi (w : World) (q1 q2 : Nat) (A1 A2 : Option Addr) (c1 c2 : Nat) (k b : List UInt8) (n at8 : Nat) (c : UInt8) (hK : KAt w) (hm1 : Mem w q1 A1 k) (hc1 : k.length ≤ c1) (hm2 : Mem w q2 A2 b) (hc2 : b.length ≤ c2) (hk : k.length ≤ 200) (hb : b.length ≤ 500) (hn : n < 256) (hat : at8 < 256) (hway : n % 34 = 33) :
    Calls Tryd.prog 5 #[.slice A1 k.length c1, .slice A2 b.length c2, .int .u8 (n : Int), .int .u8 (at8 : Int), .int .u8 (c.toNat : Int)] w fun e w' => e = .returned (.bool true) ∧ Below w.heap.size w w' := by
  obtain ⟨i0, hi0, hz0, hs0, hbb0⟩ := info_parts u8_info
  have HK := kept hK
  have HM1 := kept hm1
  have HM2 := kept hm2
  have hd1 : decide ((200 : Int) < (k.length : Int)) = false := by rw [decide_eq_false_iff_not]; omega
  have hd2 : decide ((500 : Int) < (b.length : Int)) = false := by rw [decide_eq_false_iff_not]; omega
  have HR := kept (fun (w' : World) (a1 : Mem w' q1 A1 k) (a2 : Mem w' q2 A2 b) => rmac_any w' q1 q2 A1 A2 k.length b.length c1 c2 k b rfl a1 (by omega) rfl a2 (by omega))
  have hml := hmac_len k b
  have HCH := kept (fun (w' : World) (qc gL : Nat) (Ac : Option Addr) (nc cc : Nat) (code : List UInt8) (hk' : KAt w') (a1 : Mem w' q1 A1 k) (hnc : nc = code.length) (hcl : code.length ≤ 140737488355328) (a3 : Mem w' qc Ac code) (a2 : MemM w' gL (some ⟨gL, 0, none⟩) [b]) =>
    check_any w' q1 gL qc A1 (some ⟨gL, 0, none⟩) Ac k.length 1 nc c1 1 cc k code [b] hk' rfl a1 hc1 (by omega) hnc a3 hcl rfl a2 (by simp) (by simp; omega))
  rw [show [b].flatten = b by simp] at HCH
  obtain ⟨D, hD⟩ : ∃ D, hmac k b = D := ⟨_, rfl⟩
  rw [hD] at HR HCH hml
  have HDL := kept hml
  have HC2 := kept hc2
  obtain ⟨m, hmm⟩ : ∃ m, n % 34 = m := ⟨_, rfl⟩
  rw [hmm] at hway
  have hnm : (n : Int) % 34 = (m : Int) := by omega
  have hn8 : (n : Int) < 256 := by omega
  have hat8 : (at8 : Int) < 256 := by omega
  have HM33 := kept (show m ≤ 33 by omega)
  clear hK hm1 hm2 hD hml hc1 hc2 hk hb hmm
  go_enter Tryd.func5, Tryd.ntmps5
  go_wp2_with fail
  refine (mawake_any _ HK.out).mono ?_
  rintro e w1 ⟨rfl, b1⟩
  have HB1 := kept b1
  clear b1
  go_wp2_with fail
  refine (HR.out w1 (HM1.out.below0 HB1.out) (HM2.out.below0 HB1.out)).mono ?_
  rintro e w2 ⟨rfl, b2⟩
  go_upto_region 4 with (refine wpList_store_row rfl 26 _ _ rfl w2.heap.size (D.map bv).toArray rfl rfl 26 (Array.replicate 32 (.int .u8 0)) (Blk.new w2 _ _) (by rw [b32_size]; simp [HDL.out]) (by simp [HDL.out]) (padded_one D) ?_)
  go_name_world w3 hW3
  have hb13 : Below w1.heap.size w1 w3 := by rw [← hW3]; exact below_setRow (b2.alloc b2.size _) b2.size _
  have HF3 := kept (show Blk w3 w2.heap.size 26 (D.map bv).toArray by rw [← hW3]; exact setRow_heap _ _ _ _ _ _ (Blk.new w2 _ _))
  have HB3 := kept (HB1.out.trans (hb13.mono HB1.out.size))
  clear hW3 b2 hb13 HB1
  obtain ⟨gF, hgF⟩ : ∃ g, w2.heap.size = g := ⟨_, rfl⟩
  rw [hgF] at HF3
  rw [hgF]
  clear hgF
  have HOE := kept (show Own (w3.alloc (.cells #[] 5)) w3.heap.size (.slice (some ⟨w3.heap.size, 0, none⟩) 0 0) [] from own_of_blk (l := []) (Blk.new w3 _ _) (Nat.le_refl _) (by simp))
  have HFA := kept (mem_blk (HF3.out.alloc (.cells #[] 5)))
  have HBA := kept ((Below.refl _ w3).alloc (Nat.le_refl _) (.cells #[] 5))
  have h33 : (D ++ [7]).length = 33 := by rw [List.length_append, HDL.out]; rfl
  obtain ⟨G, hG⟩ : ∃ G, D ++ [7] = G := ⟨_, rfl⟩
  rw [hG] at h33
  have HGE := kept hG
  have HGL := kept h33
  have hD32 : D.length = 32 := HDL.out
  clear hG h33
  go_upto_region 5 with (first | (at_builtin; refine wpList_append_bytes rfl (.tmp 32) (.tmp 33) 22 rfl w3.heap.size i0 Tryd.underlying22 hi0 hz0 hs0 hbb0 (.slice (some ⟨w3.heap.size, 0, none⟩) 0 0) [] rfl HOE.out gF (some ⟨gF, 0, none⟩) 32 32 D rfl HDL.out.symm HFA.out (by rw [HDL.out]; simp) HBA.out.size ?_; intro v4 w4 ho4 hg4; rw [List.nil_append] at ho4; have HB4 := kept (HBA.out.grown hg4 HBA.out.size (fun kk hk => by simp [Value.ownBlock] at hk; omega)); have HO4 := kept (ho4.alloc (.cells #[.int .u8 7] 5)); have HX4 := kept (show Mem (w4.alloc (.cells #[.int .u8 7] 5)) w4.heap.size (some ⟨w4.heap.size, 0, none⟩) [7] from mem_lit1 (w := w4) (b := 7) rfl); have HBX4 := kept (HB4.out.alloc HB4.out.size (.cells #[.int .u8 7] 5)); clear ho4 hg4) | (at_builtin; refine wpList_append_bytes rfl (.tmp 34) (.tmp 35) 22 rfl w3.heap.size i0 Tryd.underlying22 hi0 hz0 hs0 hbb0 v4 D rfl HO4.out w4.heap.size (some ⟨w4.heap.size, 0, none⟩) 1 1 [7] rfl rfl HX4.out (by rw [HDL.out]; simp) HBX4.out.size ?_; intro v5 w5 ho5 hg5; rw [HGE.out] at ho5; obtain ⟨A5, q5, c5, rfl, hc5, _, hm5, hf5, _⟩ := ho5.form; have HO5 := kept ho5; have HB5 := kept (HBX4.out.grown hg5 HBX4.out.size (fun kk hk => (World.ownsRow.lt HO4.out kk hk).1)); have HF5 := kept hf5; have HC5 := kept hc5; clear ho5 hg5 hm5 hf5 hc5))
  obtain ⟨_, rfl, _⟩ := HF5.out (by intro e; have := HGL.out; rw [e] at this; simp at this)
  have HCD := kept (own_take HO5.out m (by have := HGL.out; have := HM33.out; omega))
  have HBW := kept (HB3.out.trans (HB5.out.mono HB3.out.size))
  have HS5 := kept HB5.out.size
  have HS3 := kept (show w.heap.size ≤ w3.heap.size from HB3.out.size)
  have hmc : (m : Int) ≤ (c5 : Int) := by have := HC5.out; have := HGL.out; have := HM33.out; omega
  have hm0 : (0 : Int) ≤ (m : Int) := by omega
  clear HOE HFA HBA HB4 HO4 HX4 HBX4 HF5 HF3 HB3 HB5 HO5 hD32
  obtain ⟨CD, hCD⟩ : ∃ C, G.take m = C := ⟨_, rfl⟩
  have hcl : CD.length = m := by rw [← hCD, List.length_take, HGL.out]; have := HM33.out; omega
  rw [hCD] at HCD
  have HCL := kept hcl
  have hck1 : chkB CD D = false := chkB_len CD D (by rw [HCL.out]; omega)
  have hsb : MemM (w5.alloc (.cells #[.slice A2 b.length c2] 22)) w5.heap.size (some ⟨w5.heap.size, 0, none⟩) [b] := memM_one (w := w5) (g := w5.heap.size) (c1 := c2) rfl (HM2.out.below0 HBW.out) HC2.out
  have hba : Below w5.heap.size w5 (w5.alloc (.cells #[.slice A2 b.length c2] 22)) := (Below.refl _ w5).alloc (Nat.le_refl _) _
  have hmem : Mem w5 q5 (some ⟨q5, 0, none⟩) CD := by
    obtain ⟨A', q', hx⟩ : ∃ A' q', A' = (some ⟨q5, 0, none⟩ : Option Addr) ∧ Mem w5 q' A' CD := by
      obtain ⟨A', q', c', hv, _, _, hm, _⟩ := HCD.out.form
      injection hv with e1 e2 e3
      exact ⟨A', q', e1.symm, hm⟩
    obtain ⟨rfl, hx⟩ := hx
    rcases hx with h | ⟨o, ho, hcc⟩
    · exact .inl h
    · injection ho with ho
      injection ho with h1 h2 _
      subst h1 h2
      exact .inr ⟨0, rfl, hcc⟩
  have HC1 := kept (HCH.out _ q5 _ (some ⟨q5, 0, none⟩) m c5 CD ((HK.out.below0 HBW.out).below0 hba) ((HM1.out.below0 HBW.out).below0 hba) HCL.out.symm (by rw [HCL.out]; omega) (hmem.below0 hba) hsb)
  rw [hck1] at HC1
  have HBA5 := kept hba
  clear hsb hba hmem hck1 hCD hcl
  have hg1 : decide ((16 : Int) ≤ (m : Int)) = true := by rw [decide_eq_true_eq]; omega
  have hg2 : decide ((m : Int) ≤ 32) = false := by rw [decide_eq_false_iff_not]; omega
  have hmp : (0 : Int) < (m : Int) := by omega
  have hmn : ¬ ((m : Int) = 0) := by omega
  obtain ⟨i, hi⟩ : ∃ i, at8 % m = i := ⟨_, rfl⟩
  have him : i < m := by rw [← hi]; exact Nat.mod_lt _ (by omega)
  have hai : (at8 : Int) % (m : Int) = (i : Int) := by rw [← hi]; rfl
  have hicl : i < CD.length := by rw [HCL.out]; exact him
  have HAT := kept (own_at HCD.out i hicl)
  have HSET := kept (fun (w' : World) (ho : Own w' w3.heap.size (.slice (some ⟨q5, 0, none⟩) m c5) CD) => own_set ho i c hicl)
  have hck2 : chkB (CD.set i c) D = false := chkB_len _ D (by rw [List.length_set, HCL.out]; omega)
  have HCK2 := kept hck2
  generalize hxv : (CD[i]'hicl) = x at HAT
  have HXV := kept (show ∃ h : i < CD.length, CD[i]'h = x from ⟨hicl, hxv⟩)
  have hi0 : (0 : Int) ≤ (i : Int) := by omega
  have hi1 : (i : Int) < (m : Int) := by omega
  clear hi hicl hck2 hxv
  clear hway
  go_wp2_with fail
  refine HC1.out.mono ?_
  rintro e w6 ⟨rfl, b6⟩
  have hb56 := HBA5.out.trans (b6.mono HBA5.out.size)
  have HB6 := kept (HBW.out.trans (hb56.mono HBW.out.size))
  have HO6 := kept (HCD.out.below hb56)
  have hat6 := own_at HO6.out i (by rw [HCL.out]; exact him)
  obtain ⟨hcell, hfz, hq5⟩ := hat6
  obtain ⟨_, hxv⟩ := HXV.out
  rw [hxv] at hcell
  clear hxv
  have HQ5 := kept hq5
  have hw7 : w6.setCell ⟨q5, i, none⟩ (.int .u8 (c.toNat : Int)) = w6.setCell ⟨q5, i, none⟩ (.int .u8 (c.toNat : Int)) := rfl
  have hb7 : Below w.heap.size w (w6.setCell ⟨q5, i, none⟩ (.int .u8 (c.toNat : Int))) := HB6.out.setCell (p := ⟨q5, i, none⟩) (by have := HQ5.out; have := HS3.out; show w.heap.size ≤ q5; omega) _
  have hO7 := HSET.out w6 HO6.out
  have hsb : MemM ((w6.setCell ⟨q5, i, none⟩ (.int .u8 (c.toNat : Int))).alloc (.cells #[.slice A2 b.length c2] 22)) w6.heap.size (some ⟨w6.heap.size, 0, none⟩) [b] := memM_one (g := w6.heap.size) (c1 := c2) (by simp) (HM2.out.below0 hb7) HC2.out
  have hba : Below w.heap.size w ((w6.setCell ⟨q5, i, none⟩ (.int .u8 (c.toNat : Int))).alloc (.cells #[.slice A2 b.length c2] 22)) := hb7.alloc hb7.size _
  have hmem7 : Mem ((w6.setCell ⟨q5, i, none⟩ (.int .u8 (c.toNat : Int))).alloc (.cells #[.slice A2 b.length c2] 22)) q5 (some ⟨q5, 0, none⟩) (CD.set i c) := by
    obtain ⟨A', q', c', hv, _, _, hm, _⟩ := hO7.form
    injection hv with e1 e2 e3
    subst e1
    rcases hm with h | ⟨o, ho, hcc⟩
    · exact .inl h
    · injection ho with ho
      injection ho with h1 h2 _
      subst h1 h2
      exact (show Mem _ q5 (some ⟨q5, 0, none⟩) (CD.set i c) from .inr ⟨0, rfl, hcc⟩).alloc _
  have HC2' := kept (HCH.out _ q5 _ (some ⟨q5, 0, none⟩) m c5 (CD.set i c) (HK.out.below0 hba) (HM1.out.below0 hba) (by rw [List.length_set, HCL.out]) (by rw [List.length_set, HCL.out]; omega) hmem7 hsb)
  rw [HCK2.out] at HC2'
  have HBA7 := kept hba
  clear b6 hb56 hq5 hw7 hb7 hO7 hsb hba hmem7 HSET
  go_wp2_with fail
  refine HC2'.out.mono ?_
  rintro e w8 ⟨rfl, b8⟩
  have HB8 := kept (HBA7.out.trans (b8.mono HBA7.out.size))
  clear b8
  go_wp2_with fail
  go_ret
  exact ⟨rfl, HB8.out⟩
set_option maxHeartbeats 16000000 in
set_option maxRecDepth 100000 in
theorem walk_yes (w : World) (q1 q2 : Nat) (A1 A2 : Option Addr) (c1 c2 : Nat) (k b : List UInt8) (n at8 : Nat) (c : UInt8) (hK : KAt w) (hm1 : Mem w q1 A1 k) (hc1 : k.length ≤ c1) (hm2 : Mem w q2 A2 b) (hc2 : b.length ≤ c2) (hk : k.length ≤ 200) (hb : b.length ≤ 500) (hn : n < 256) (hat : at8 < 256) (hway : 16 ≤ n % 34 ∧ n % 34 ≤ 32) (hx : ((hmac k b).take (n % 34)).getD (at8 % (n % 34)) 0 = c) :
    Calls Tryd.prog 5 #[.slice A1 k.length c1, .slice A2 b.length c2, .int .u8 (n : Int), .int .u8 (at8 : Int), .int .u8 (c.toNat : Int)] w fun e w' => e = .returned (.bool true) ∧ Below w.heap.size w w' := by
  obtain ⟨i0, hi0, hz0, hs0, hbb0⟩ := info_parts u8_info
  have HK := kept hK
  have HM1 := kept hm1
  have HM2 := kept hm2
  have hd1 : decide ((200 : Int) < (k.length : Int)) = false := by rw [decide_eq_false_iff_not]; omega
  have hd2 : decide ((500 : Int) < (b.length : Int)) = false := by rw [decide_eq_false_iff_not]; omega
  have HR := kept (fun (w' : World) (a1 : Mem w' q1 A1 k) (a2 : Mem w' q2 A2 b) => rmac_any w' q1 q2 A1 A2 k.length b.length c1 c2 k b rfl a1 (by omega) rfl a2 (by omega))
  have hml := hmac_len k b
  have HCH := kept (fun (w' : World) (qc gL : Nat) (Ac : Option Addr) (nc cc : Nat) (code : List UInt8) (hk' : KAt w') (a1 : Mem w' q1 A1 k) (hnc : nc = code.length) (hcl : code.length ≤ 140737488355328) (a3 : Mem w' qc Ac code) (a2 : MemM w' gL (some ⟨gL, 0, none⟩) [b]) =>
    check_any w' q1 gL qc A1 (some ⟨gL, 0, none⟩) Ac k.length 1 nc c1 1 cc k code [b] hk' rfl a1 hc1 (by omega) hnc a3 hcl rfl a2 (by simp) (by simp; omega))
  rw [show [b].flatten = b by simp] at HCH
  obtain ⟨D, hD⟩ : ∃ D, hmac k b = D := ⟨_, rfl⟩
  rw [hD] at HR HCH hml
  have HDL := kept hml
  have HC2 := kept hc2
  obtain ⟨m, hmm⟩ : ∃ m, n % 34 = m := ⟨_, rfl⟩
  rw [hmm] at hway
  rw [hD, hmm] at hx
  have hnm : (n : Int) % 34 = (m : Int) := by omega
  have hn8 : (n : Int) < 256 := by omega
  have hat8 : (at8 : Int) < 256 := by omega
  have HM33 := kept (show m ≤ 33 by omega)
  clear hK hm1 hm2 hD hml hc1 hc2 hk hb hmm
  go_enter Tryd.func5, Tryd.ntmps5
  go_wp2_with fail
  refine (mawake_any _ HK.out).mono ?_
  rintro e w1 ⟨rfl, b1⟩
  have HB1 := kept b1
  clear b1
  go_wp2_with fail
  refine (HR.out w1 (HM1.out.below0 HB1.out) (HM2.out.below0 HB1.out)).mono ?_
  rintro e w2 ⟨rfl, b2⟩
  go_upto_region 4 with (refine wpList_store_row rfl 26 _ _ rfl w2.heap.size (D.map bv).toArray rfl rfl 26 (Array.replicate 32 (.int .u8 0)) (Blk.new w2 _ _) (by rw [b32_size]; simp [HDL.out]) (by simp [HDL.out]) (padded_one D) ?_)
  go_name_world w3 hW3
  have hb13 : Below w1.heap.size w1 w3 := by rw [← hW3]; exact below_setRow (b2.alloc b2.size _) b2.size _
  have HF3 := kept (show Blk w3 w2.heap.size 26 (D.map bv).toArray by rw [← hW3]; exact setRow_heap _ _ _ _ _ _ (Blk.new w2 _ _))
  have HB3 := kept (HB1.out.trans (hb13.mono HB1.out.size))
  clear hW3 b2 hb13 HB1
  obtain ⟨gF, hgF⟩ : ∃ g, w2.heap.size = g := ⟨_, rfl⟩
  rw [hgF] at HF3
  rw [hgF]
  clear hgF
  have HOE := kept (show Own (w3.alloc (.cells #[] 5)) w3.heap.size (.slice (some ⟨w3.heap.size, 0, none⟩) 0 0) [] from own_of_blk (l := []) (Blk.new w3 _ _) (Nat.le_refl _) (by simp))
  have HFA := kept (mem_blk (HF3.out.alloc (.cells #[] 5)))
  have HBA := kept ((Below.refl _ w3).alloc (Nat.le_refl _) (.cells #[] 5))
  have h33 : (D ++ [7]).length = 33 := by rw [List.length_append, HDL.out]; rfl
  obtain ⟨G, hG⟩ : ∃ G, D ++ [7] = G := ⟨_, rfl⟩
  rw [hG] at h33
  have HGE := kept hG
  have HGL := kept h33
  have hD32 : D.length = 32 := HDL.out
  clear hG h33
  go_upto_region 5 with (first | (at_builtin; refine wpList_append_bytes rfl (.tmp 32) (.tmp 33) 22 rfl w3.heap.size i0 Tryd.underlying22 hi0 hz0 hs0 hbb0 (.slice (some ⟨w3.heap.size, 0, none⟩) 0 0) [] rfl HOE.out gF (some ⟨gF, 0, none⟩) 32 32 D rfl HDL.out.symm HFA.out (by rw [HDL.out]; simp) HBA.out.size ?_; intro v4 w4 ho4 hg4; rw [List.nil_append] at ho4; have HB4 := kept (HBA.out.grown hg4 HBA.out.size (fun kk hk => by simp [Value.ownBlock] at hk; omega)); have HO4 := kept (ho4.alloc (.cells #[.int .u8 7] 5)); have HX4 := kept (show Mem (w4.alloc (.cells #[.int .u8 7] 5)) w4.heap.size (some ⟨w4.heap.size, 0, none⟩) [7] from mem_lit1 (w := w4) (b := 7) rfl); have HBX4 := kept (HB4.out.alloc HB4.out.size (.cells #[.int .u8 7] 5)); clear ho4 hg4) | (at_builtin; refine wpList_append_bytes rfl (.tmp 34) (.tmp 35) 22 rfl w3.heap.size i0 Tryd.underlying22 hi0 hz0 hs0 hbb0 v4 D rfl HO4.out w4.heap.size (some ⟨w4.heap.size, 0, none⟩) 1 1 [7] rfl rfl HX4.out (by rw [HDL.out]; simp) HBX4.out.size ?_; intro v5 w5 ho5 hg5; rw [HGE.out] at ho5; obtain ⟨A5, q5, c5, rfl, hc5, _, hm5, hf5, _⟩ := ho5.form; have HO5 := kept ho5; have HB5 := kept (HBX4.out.grown hg5 HBX4.out.size (fun kk hk => (World.ownsRow.lt HO4.out kk hk).1)); have HF5 := kept hf5; have HC5 := kept hc5; clear ho5 hg5 hm5 hf5 hc5))
  obtain ⟨_, rfl, _⟩ := HF5.out (by intro e; have := HGL.out; rw [e] at this; simp at this)
  have HCD := kept (own_take HO5.out m (by have := HGL.out; have := HM33.out; omega))
  have HBW := kept (HB3.out.trans (HB5.out.mono HB3.out.size))
  have HS5 := kept HB5.out.size
  have HS3 := kept (show w.heap.size ≤ w3.heap.size from HB3.out.size)
  have hmc : (m : Int) ≤ (c5 : Int) := by have := HC5.out; have := HGL.out; have := HM33.out; omega
  have hm0 : (0 : Int) ≤ (m : Int) := by omega
  clear HOE HFA HBA HB4 HO4 HX4 HBX4 HF5 HF3 HB3 HB5 HO5 hD32
  obtain ⟨CD, hCD⟩ : ∃ C, G.take m = C := ⟨_, rfl⟩
  have hcl : CD.length = m := by rw [← hCD, List.length_take, HGL.out]; have := HM33.out; omega
  rw [hCD] at HCD
  have HCL := kept hcl
  have hdt : CD = D.take m := by rw [← hCD, ← HGE.out]; exact take_7 D m HDL.out (by omega)
  have hck1 : chkB CD D = true := by rw [hdt]; exact chkB_full D m HDL.out (by omega) (by omega)
  have hsb : MemM (w5.alloc (.cells #[.slice A2 b.length c2] 22)) w5.heap.size (some ⟨w5.heap.size, 0, none⟩) [b] := memM_one (w := w5) (g := w5.heap.size) (c1 := c2) rfl (HM2.out.below0 HBW.out) HC2.out
  have hba : Below w5.heap.size w5 (w5.alloc (.cells #[.slice A2 b.length c2] 22)) := (Below.refl _ w5).alloc (Nat.le_refl _) _
  have hmem : Mem w5 q5 (some ⟨q5, 0, none⟩) CD := by
    obtain ⟨A', q', hx⟩ : ∃ A' q', A' = (some ⟨q5, 0, none⟩ : Option Addr) ∧ Mem w5 q' A' CD := by
      obtain ⟨A', q', c', hv, _, _, hm, _⟩ := HCD.out.form
      injection hv with e1 e2 e3
      exact ⟨A', q', e1.symm, hm⟩
    obtain ⟨rfl, hx⟩ := hx
    rcases hx with h | ⟨o, ho, hcc⟩
    · exact .inl h
    · injection ho with ho
      injection ho with h1 h2 _
      subst h1 h2
      exact .inr ⟨0, rfl, hcc⟩
  have HC1 := kept (HCH.out _ q5 _ (some ⟨q5, 0, none⟩) m c5 CD ((HK.out.below0 HBW.out).below0 hba) ((HM1.out.below0 HBW.out).below0 hba) HCL.out.symm (by rw [HCL.out]; omega) (hmem.below0 hba) hsb)
  rw [hck1] at HC1
  have HBA5 := kept hba
  clear hsb hba hmem hck1 hCD hcl
  have hg1 : decide ((16 : Int) ≤ (m : Int)) = true := by rw [decide_eq_true_eq]; omega
  have hg2 : decide ((m : Int) ≤ 32) = true := by rw [decide_eq_true_eq]; omega
  have hmp : (0 : Int) < (m : Int) := by omega
  have hmn : ¬ ((m : Int) = 0) := by omega
  obtain ⟨i, hi⟩ : ∃ i, at8 % m = i := ⟨_, rfl⟩
  have him : i < m := by rw [← hi]; exact Nat.mod_lt _ (by omega)
  have hai : (at8 : Int) % (m : Int) = (i : Int) := by rw [← hi]; rfl
  rw [hi] at hx
  have hicl : i < CD.length := by rw [HCL.out]; exact him
  have HAT := kept (own_at HCD.out i hicl)
  have HSET := kept (fun (w' : World) (ho : Own w' w3.heap.size (.slice (some ⟨q5, 0, none⟩) m c5) CD) => own_set ho i c hicl)
  have hxi : (CD[i]'hicl) = c := by
    have e : (D.take m).getD i 0 = CD[i]'hicl := by rw [← hdt]; simp [hicl]
    rw [← e]; exact hx
  have hck2 : chkB (CD.set i c) D = true := by
    have h' : i < (D.take m).length := by rw [← hdt]; exact hicl
    have e2 : (D.take m)[i]'h' = c := by simp only [← hdt]; exact hxi
    rw [hdt]
    exact chkB_same D m i c HDL.out (by omega) (by omega) h' e2
  have HCK2 := kept hck2
  generalize hxv : (CD[i]'hicl) = x at HAT hxi
  have HXV := kept (show ∃ h : i < CD.length, CD[i]'h = x from ⟨hicl, hxv⟩)
  have hxc : ((x.toNat : Int) == (c.toNat : Int)) = true := by rw [hxi]; simp
  have hi0 : (0 : Int) ≤ (i : Int) := by omega
  have hi1 : (i : Int) < (m : Int) := by omega
  clear hi hicl hck2 hxv hxi hdt hx
  clear hway
  go_wp2_with fail
  refine HC1.out.mono ?_
  rintro e w6 ⟨rfl, b6⟩
  have hb56 := HBA5.out.trans (b6.mono HBA5.out.size)
  have HB6 := kept (HBW.out.trans (hb56.mono HBW.out.size))
  have HO6 := kept (HCD.out.below hb56)
  have hat6 := own_at HO6.out i (by rw [HCL.out]; exact him)
  obtain ⟨hcell, hfz, hq5⟩ := hat6
  obtain ⟨_, hxv⟩ := HXV.out
  rw [hxv] at hcell
  clear hxv
  have HQ5 := kept hq5
  have hw7 : w6.setCell ⟨q5, i, none⟩ (.int .u8 (c.toNat : Int)) = w6.setCell ⟨q5, i, none⟩ (.int .u8 (c.toNat : Int)) := rfl
  have hb7 : Below w.heap.size w (w6.setCell ⟨q5, i, none⟩ (.int .u8 (c.toNat : Int))) := HB6.out.setCell (p := ⟨q5, i, none⟩) (by have := HQ5.out; have := HS3.out; show w.heap.size ≤ q5; omega) _
  have hO7 := HSET.out w6 HO6.out
  have hsb : MemM ((w6.setCell ⟨q5, i, none⟩ (.int .u8 (c.toNat : Int))).alloc (.cells #[.slice A2 b.length c2] 22)) w6.heap.size (some ⟨w6.heap.size, 0, none⟩) [b] := memM_one (g := w6.heap.size) (c1 := c2) (by simp) (HM2.out.below0 hb7) HC2.out
  have hba : Below w.heap.size w ((w6.setCell ⟨q5, i, none⟩ (.int .u8 (c.toNat : Int))).alloc (.cells #[.slice A2 b.length c2] 22)) := hb7.alloc hb7.size _
  have hmem7 : Mem ((w6.setCell ⟨q5, i, none⟩ (.int .u8 (c.toNat : Int))).alloc (.cells #[.slice A2 b.length c2] 22)) q5 (some ⟨q5, 0, none⟩) (CD.set i c) := by
    obtain ⟨A', q', c', hv, _, _, hm, _⟩ := hO7.form
    injection hv with e1 e2 e3
    subst e1
    rcases hm with h | ⟨o, ho, hcc⟩
    · exact .inl h
    · injection ho with ho
      injection ho with h1 h2 _
      subst h1 h2
      exact (show Mem _ q5 (some ⟨q5, 0, none⟩) (CD.set i c) from .inr ⟨0, rfl, hcc⟩).alloc _
  have HC2' := kept (HCH.out _ q5 _ (some ⟨q5, 0, none⟩) m c5 (CD.set i c) (HK.out.below0 hba) (HM1.out.below0 hba) (by rw [List.length_set, HCL.out]) (by rw [List.length_set, HCL.out]; omega) hmem7 hsb)
  rw [HCK2.out] at HC2'
  have HBA7 := kept hba
  clear b6 hb56 hq5 hw7 hb7 hO7 hsb hba hmem7 HSET
  go_wp2_with fail
  refine HC2'.out.mono ?_
  rintro e w8 ⟨rfl, b8⟩
  have HB8 := kept (HBA7.out.trans (b8.mono HBA7.out.size))
  clear b8
  go_wp2_with fail
  go_ret
  exact ⟨rfl, HB8.out⟩
set_option maxHeartbeats 16000000 in
set_option maxRecDepth 100000 in
theorem walk_no (w : World) (q1 q2 : Nat) (A1 A2 : Option Addr) (c1 c2 : Nat) (k b : List UInt8) (n at8 : Nat) (c : UInt8) (hK : KAt w) (hm1 : Mem w q1 A1 k) (hc1 : k.length ≤ c1) (hm2 : Mem w q2 A2 b) (hc2 : b.length ≤ c2) (hk : k.length ≤ 200) (hb : b.length ≤ 500) (hn : n < 256) (hat : at8 < 256) (hway : 16 ≤ n % 34 ∧ n % 34 ≤ 32) (hx : ((hmac k b).take (n % 34)).getD (at8 % (n % 34)) 0 ≠ c) :
    Calls Tryd.prog 5 #[.slice A1 k.length c1, .slice A2 b.length c2, .int .u8 (n : Int), .int .u8 (at8 : Int), .int .u8 (c.toNat : Int)] w fun e w' => e = .returned (.bool true) ∧ Below w.heap.size w w' := by
  obtain ⟨i0, hi0, hz0, hs0, hbb0⟩ := info_parts u8_info
  have HK := kept hK
  have HM1 := kept hm1
  have HM2 := kept hm2
  have hd1 : decide ((200 : Int) < (k.length : Int)) = false := by rw [decide_eq_false_iff_not]; omega
  have hd2 : decide ((500 : Int) < (b.length : Int)) = false := by rw [decide_eq_false_iff_not]; omega
  have HR := kept (fun (w' : World) (a1 : Mem w' q1 A1 k) (a2 : Mem w' q2 A2 b) => rmac_any w' q1 q2 A1 A2 k.length b.length c1 c2 k b rfl a1 (by omega) rfl a2 (by omega))
  have hml := hmac_len k b
  have HCH := kept (fun (w' : World) (qc gL : Nat) (Ac : Option Addr) (nc cc : Nat) (code : List UInt8) (hk' : KAt w') (a1 : Mem w' q1 A1 k) (hnc : nc = code.length) (hcl : code.length ≤ 140737488355328) (a3 : Mem w' qc Ac code) (a2 : MemM w' gL (some ⟨gL, 0, none⟩) [b]) =>
    check_any w' q1 gL qc A1 (some ⟨gL, 0, none⟩) Ac k.length 1 nc c1 1 cc k code [b] hk' rfl a1 hc1 (by omega) hnc a3 hcl rfl a2 (by simp) (by simp; omega))
  rw [show [b].flatten = b by simp] at HCH
  obtain ⟨D, hD⟩ : ∃ D, hmac k b = D := ⟨_, rfl⟩
  rw [hD] at HR HCH hml
  have HDL := kept hml
  have HC2 := kept hc2
  obtain ⟨m, hmm⟩ : ∃ m, n % 34 = m := ⟨_, rfl⟩
  rw [hmm] at hway
  rw [hD, hmm] at hx
  have hnm : (n : Int) % 34 = (m : Int) := by omega
  have hn8 : (n : Int) < 256 := by omega
  have hat8 : (at8 : Int) < 256 := by omega
  have HM33 := kept (show m ≤ 33 by omega)
  clear hK hm1 hm2 hD hml hc1 hc2 hk hb hmm
  go_enter Tryd.func5, Tryd.ntmps5
  go_wp2_with fail
  refine (mawake_any _ HK.out).mono ?_
  rintro e w1 ⟨rfl, b1⟩
  have HB1 := kept b1
  clear b1
  go_wp2_with fail
  refine (HR.out w1 (HM1.out.below0 HB1.out) (HM2.out.below0 HB1.out)).mono ?_
  rintro e w2 ⟨rfl, b2⟩
  go_upto_region 4 with (refine wpList_store_row rfl 26 _ _ rfl w2.heap.size (D.map bv).toArray rfl rfl 26 (Array.replicate 32 (.int .u8 0)) (Blk.new w2 _ _) (by rw [b32_size]; simp [HDL.out]) (by simp [HDL.out]) (padded_one D) ?_)
  go_name_world w3 hW3
  have hb13 : Below w1.heap.size w1 w3 := by rw [← hW3]; exact below_setRow (b2.alloc b2.size _) b2.size _
  have HF3 := kept (show Blk w3 w2.heap.size 26 (D.map bv).toArray by rw [← hW3]; exact setRow_heap _ _ _ _ _ _ (Blk.new w2 _ _))
  have HB3 := kept (HB1.out.trans (hb13.mono HB1.out.size))
  clear hW3 b2 hb13 HB1
  obtain ⟨gF, hgF⟩ : ∃ g, w2.heap.size = g := ⟨_, rfl⟩
  rw [hgF] at HF3
  rw [hgF]
  clear hgF
  have HOE := kept (show Own (w3.alloc (.cells #[] 5)) w3.heap.size (.slice (some ⟨w3.heap.size, 0, none⟩) 0 0) [] from own_of_blk (l := []) (Blk.new w3 _ _) (Nat.le_refl _) (by simp))
  have HFA := kept (mem_blk (HF3.out.alloc (.cells #[] 5)))
  have HBA := kept ((Below.refl _ w3).alloc (Nat.le_refl _) (.cells #[] 5))
  have h33 : (D ++ [7]).length = 33 := by rw [List.length_append, HDL.out]; rfl
  obtain ⟨G, hG⟩ : ∃ G, D ++ [7] = G := ⟨_, rfl⟩
  rw [hG] at h33
  have HGE := kept hG
  have HGL := kept h33
  have hD32 : D.length = 32 := HDL.out
  clear hG h33
  go_upto_region 5 with (first | (at_builtin; refine wpList_append_bytes rfl (.tmp 32) (.tmp 33) 22 rfl w3.heap.size i0 Tryd.underlying22 hi0 hz0 hs0 hbb0 (.slice (some ⟨w3.heap.size, 0, none⟩) 0 0) [] rfl HOE.out gF (some ⟨gF, 0, none⟩) 32 32 D rfl HDL.out.symm HFA.out (by rw [HDL.out]; simp) HBA.out.size ?_; intro v4 w4 ho4 hg4; rw [List.nil_append] at ho4; have HB4 := kept (HBA.out.grown hg4 HBA.out.size (fun kk hk => by simp [Value.ownBlock] at hk; omega)); have HO4 := kept (ho4.alloc (.cells #[.int .u8 7] 5)); have HX4 := kept (show Mem (w4.alloc (.cells #[.int .u8 7] 5)) w4.heap.size (some ⟨w4.heap.size, 0, none⟩) [7] from mem_lit1 (w := w4) (b := 7) rfl); have HBX4 := kept (HB4.out.alloc HB4.out.size (.cells #[.int .u8 7] 5)); clear ho4 hg4) | (at_builtin; refine wpList_append_bytes rfl (.tmp 34) (.tmp 35) 22 rfl w3.heap.size i0 Tryd.underlying22 hi0 hz0 hs0 hbb0 v4 D rfl HO4.out w4.heap.size (some ⟨w4.heap.size, 0, none⟩) 1 1 [7] rfl rfl HX4.out (by rw [HDL.out]; simp) HBX4.out.size ?_; intro v5 w5 ho5 hg5; rw [HGE.out] at ho5; obtain ⟨A5, q5, c5, rfl, hc5, _, hm5, hf5, _⟩ := ho5.form; have HO5 := kept ho5; have HB5 := kept (HBX4.out.grown hg5 HBX4.out.size (fun kk hk => (World.ownsRow.lt HO4.out kk hk).1)); have HF5 := kept hf5; have HC5 := kept hc5; clear ho5 hg5 hm5 hf5 hc5))
  obtain ⟨_, rfl, _⟩ := HF5.out (by intro e; have := HGL.out; rw [e] at this; simp at this)
  have HCD := kept (own_take HO5.out m (by have := HGL.out; have := HM33.out; omega))
  have HBW := kept (HB3.out.trans (HB5.out.mono HB3.out.size))
  have HS5 := kept HB5.out.size
  have HS3 := kept (show w.heap.size ≤ w3.heap.size from HB3.out.size)
  have hmc : (m : Int) ≤ (c5 : Int) := by have := HC5.out; have := HGL.out; have := HM33.out; omega
  have hm0 : (0 : Int) ≤ (m : Int) := by omega
  clear HOE HFA HBA HB4 HO4 HX4 HBX4 HF5 HF3 HB3 HB5 HO5 hD32
  obtain ⟨CD, hCD⟩ : ∃ C, G.take m = C := ⟨_, rfl⟩
  have hcl : CD.length = m := by rw [← hCD, List.length_take, HGL.out]; have := HM33.out; omega
  rw [hCD] at HCD
  have HCL := kept hcl
  have hdt : CD = D.take m := by rw [← hCD, ← HGE.out]; exact take_7 D m HDL.out (by omega)
  have hck1 : chkB CD D = true := by rw [hdt]; exact chkB_full D m HDL.out (by omega) (by omega)
  have hsb : MemM (w5.alloc (.cells #[.slice A2 b.length c2] 22)) w5.heap.size (some ⟨w5.heap.size, 0, none⟩) [b] := memM_one (w := w5) (g := w5.heap.size) (c1 := c2) rfl (HM2.out.below0 HBW.out) HC2.out
  have hba : Below w5.heap.size w5 (w5.alloc (.cells #[.slice A2 b.length c2] 22)) := (Below.refl _ w5).alloc (Nat.le_refl _) _
  have hmem : Mem w5 q5 (some ⟨q5, 0, none⟩) CD := by
    obtain ⟨A', q', hx⟩ : ∃ A' q', A' = (some ⟨q5, 0, none⟩ : Option Addr) ∧ Mem w5 q' A' CD := by
      obtain ⟨A', q', c', hv, _, _, hm, _⟩ := HCD.out.form
      injection hv with e1 e2 e3
      exact ⟨A', q', e1.symm, hm⟩
    obtain ⟨rfl, hx⟩ := hx
    rcases hx with h | ⟨o, ho, hcc⟩
    · exact .inl h
    · injection ho with ho
      injection ho with h1 h2 _
      subst h1 h2
      exact .inr ⟨0, rfl, hcc⟩
  have HC1 := kept (HCH.out _ q5 _ (some ⟨q5, 0, none⟩) m c5 CD ((HK.out.below0 HBW.out).below0 hba) ((HM1.out.below0 HBW.out).below0 hba) HCL.out.symm (by rw [HCL.out]; omega) (hmem.below0 hba) hsb)
  rw [hck1] at HC1
  have HBA5 := kept hba
  clear hsb hba hmem hck1 hCD hcl
  have hg1 : decide ((16 : Int) ≤ (m : Int)) = true := by rw [decide_eq_true_eq]; omega
  have hg2 : decide ((m : Int) ≤ 32) = true := by rw [decide_eq_true_eq]; omega
  have hmp : (0 : Int) < (m : Int) := by omega
  have hmn : ¬ ((m : Int) = 0) := by omega
  obtain ⟨i, hi⟩ : ∃ i, at8 % m = i := ⟨_, rfl⟩
  have him : i < m := by rw [← hi]; exact Nat.mod_lt _ (by omega)
  have hai : (at8 : Int) % (m : Int) = (i : Int) := by rw [← hi]; rfl
  rw [hi] at hx
  have hicl : i < CD.length := by rw [HCL.out]; exact him
  have HAT := kept (own_at HCD.out i hicl)
  have HSET := kept (fun (w' : World) (ho : Own w' w3.heap.size (.slice (some ⟨q5, 0, none⟩) m c5) CD) => own_set ho i c hicl)
  have hxi : (CD[i]'hicl) ≠ c := by
    have e : (D.take m).getD i 0 = CD[i]'hicl := by rw [← hdt]; simp [hicl]
    rw [← e]; exact hx
  have hck2 : chkB (CD.set i c) D = false := by
    have h' : i < (D.take m).length := by rw [← hdt]; exact hicl
    have e2 : (D.take m)[i]'h' ≠ c := by simp only [← hdt]; exact hxi
    rw [hdt]
    exact chkB_other D m i c HDL.out (by omega) (by omega) h' e2
  have HCK2 := kept hck2
  generalize hxv : (CD[i]'hicl) = x at HAT hxi
  have HXV := kept (show ∃ h : i < CD.length, CD[i]'h = x from ⟨hicl, hxv⟩)
  have hxc : ((x.toNat : Int) == (c.toNat : Int)) = false := by rw [beq_eq_false_iff_ne]; intro e; exact hxi (UInt8.toNat_inj.1 (by omega))
  have hi0 : (0 : Int) ≤ (i : Int) := by omega
  have hi1 : (i : Int) < (m : Int) := by omega
  clear hi hicl hck2 hxv hxi hdt hx
  clear hway
  go_wp2_with fail
  refine HC1.out.mono ?_
  rintro e w6 ⟨rfl, b6⟩
  have hb56 := HBA5.out.trans (b6.mono HBA5.out.size)
  have HB6 := kept (HBW.out.trans (hb56.mono HBW.out.size))
  have HO6 := kept (HCD.out.below hb56)
  have hat6 := own_at HO6.out i (by rw [HCL.out]; exact him)
  obtain ⟨hcell, hfz, hq5⟩ := hat6
  obtain ⟨_, hxv⟩ := HXV.out
  rw [hxv] at hcell
  clear hxv
  have HQ5 := kept hq5
  have hw7 : w6.setCell ⟨q5, i, none⟩ (.int .u8 (c.toNat : Int)) = w6.setCell ⟨q5, i, none⟩ (.int .u8 (c.toNat : Int)) := rfl
  have hb7 : Below w.heap.size w (w6.setCell ⟨q5, i, none⟩ (.int .u8 (c.toNat : Int))) := HB6.out.setCell (p := ⟨q5, i, none⟩) (by have := HQ5.out; have := HS3.out; show w.heap.size ≤ q5; omega) _
  have hO7 := HSET.out w6 HO6.out
  have hsb : MemM ((w6.setCell ⟨q5, i, none⟩ (.int .u8 (c.toNat : Int))).alloc (.cells #[.slice A2 b.length c2] 22)) w6.heap.size (some ⟨w6.heap.size, 0, none⟩) [b] := memM_one (g := w6.heap.size) (c1 := c2) (by simp) (HM2.out.below0 hb7) HC2.out
  have hba : Below w.heap.size w ((w6.setCell ⟨q5, i, none⟩ (.int .u8 (c.toNat : Int))).alloc (.cells #[.slice A2 b.length c2] 22)) := hb7.alloc hb7.size _
  have hmem7 : Mem ((w6.setCell ⟨q5, i, none⟩ (.int .u8 (c.toNat : Int))).alloc (.cells #[.slice A2 b.length c2] 22)) q5 (some ⟨q5, 0, none⟩) (CD.set i c) := by
    obtain ⟨A', q', c', hv, _, _, hm, _⟩ := hO7.form
    injection hv with e1 e2 e3
    subst e1
    rcases hm with h | ⟨o, ho, hcc⟩
    · exact .inl h
    · injection ho with ho
      injection ho with h1 h2 _
      subst h1 h2
      exact (show Mem _ q5 (some ⟨q5, 0, none⟩) (CD.set i c) from .inr ⟨0, rfl, hcc⟩).alloc _
  have HC2' := kept (HCH.out _ q5 _ (some ⟨q5, 0, none⟩) m c5 (CD.set i c) (HK.out.below0 hba) (HM1.out.below0 hba) (by rw [List.length_set, HCL.out]) (by rw [List.length_set, HCL.out]; omega) hmem7 hsb)
  rw [HCK2.out] at HC2'
  have HBA7 := kept hba
  clear b6 hb56 hq5 hw7 hb7 hO7 hsb hba hmem7 HSET
  go_wp2_with fail
  refine HC2'.out.mono ?_
  rintro e w8 ⟨rfl, b8⟩
  have HB8 := kept (HBA7.out.trans (b8.mono HBA7.out.size))
  clear b8
  go_wp2_with fail
  go_ret
  exact ⟨rfl, HB8.out⟩
end Go.Proofs.YtgplkdnffbappaaDoor.macChecks
