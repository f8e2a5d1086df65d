/-
  The fixed examples that every statement of layer 5 checks first are met.
-/
import Derived.Test.YtgplkdnffbappaaDoorMacSum
import Derived.Test.YtgplkdnffbappaaDoorMacDer
import Derived.Test.YtgplkdnffbappaaDoorFrz
namespace Go.Proofs.YtgplkdnffbappaaDoor
open Go.RowKit
set_option linter.unusedVariables false
set_option linter.unusedSimpArgs false

def jefeB : List UInt8 := [74, 101, 102, 101]
def want1 : List UInt8 := [119, 104, 97, 116, 32, 100, 111, 32, 121, 97, 32, 119, 97, 110, 116, 32]
def want2 : List UInt8 := [102, 111, 114, 32, 110, 111, 116, 104, 105, 110, 103, 63]
def wantB : List UInt8 := want1 ++ want2
theorem mac_nums : ((hmac jefeB wantB).getD 0 0, (hmac jefeB wantB).getD 1 0, (hmac jefeB wantB).getD 2 0, (hmac jefeB wantB).getD 31 0) = ((0x5b, 0xdc, 0xc1, 0x43) : UInt8 × UInt8 × UInt8 × UInt8) := by decide +kernel
theorem chkB_yes (D : List UInt8) (n : Nat) (hD : D.length = 32) (h1 : 16 ≤ n) (h2 : n ≤ 32) : chkB (D.take n) D = true := by
  unfold chkB
  have hl : (D.take n).length = n := by rw [List.length_take]; omega
  rw [hl, decide_eq_true ⟨h1, h2⟩, sameB_self]
  rfl
theorem chkB_no (c D : List UInt8) (h : c.length < 16) : chkB c D = false := by
  unfold chkB
  rw [decide_eq_false (by omega)]
  rfl
theorem equal_b (w : World) (q1 q2 : Nat) (A1 A2 : Option Addr) (n1 n2 c1 c2 : Nat) (l1 l2 : List UInt8) (hn1 : n1 = l1.length) (hn2 : n2 = l2.length) (hl : l1.length ≤ 140737488355328) (h1 : Mem w q1 A1 l1) (h2 : Mem w q2 A2 l2) (b : Bool) (hb : sameB l1 l2 = b) :
    Calls Tryd.prog 17 #[.slice A1 n1 c1, .slice A2 n2 c2] w fun e w' => e = .returned (.bool b) ∧ Below w.heap.size w w' :=
  (equal_any w q1 q2 A1 A2 n1 n2 c1 c2 l1 l2 hn1 hn2 hl h1 h2).mono fun e w' ⟨he, n, hw⟩ => ⟨by rw [← hb]; exact he, by rw [hw]; exact below_drewN (Below.refl _ _) n⟩
theorem derive_no_b (w : World) (v1 v2 : Value) (n : Int) (h : n < 0 ∨ 8160 < n) :
    Calls Tryd.prog 12 #[v1, v2, .int .i64 n] w fun e w' => e = .returned (.slice none 0 0) ∧ Below w.heap.size w w' :=
  (derive_no w v1 v2 n h).mono fun e w' ⟨he, hw⟩ => ⟨he, by rw [← hw]; exact Below.refl _ _⟩
theorem derive_awk (w : World) (hK : KAt w) :
    Calls Tryd.prog 12 #[.slice none 0 0, .string ⟨#[120]⟩, .int .i64 40] w fun e w' => ∃ A c, e = .returned (.slice A 40 c) ∧ Below w.heap.size w w' :=
  (derive_yes w 0 none 0 0 [] ⟨#[120]⟩ 40 hK rfl (.inl rfl) (by simp) (by simp) (by simp) (by omega)).mono fun e w' ⟨v, he, hown, hb⟩ => by
    obtain ⟨A, q, c, rfl, _⟩ := hown.form
    rw [derive_len] at he
    exact ⟨A, c, he, hb⟩
set_option maxHeartbeats 64000000 in
set_option maxRecDepth 100000 in
theorem mawake_any (w : World) (hK : KAt w) : Calls Tryd.prog 8 #[] w fun e w' => e = .returned (.bool true) ∧ Below w.heap.size w w' := by
  have HK := kept hK
  clear hK
  obtain ⟨D, hD⟩ : ∃ D, hmac jefeB wantB = D := ⟨_, rfl⟩
  have hn := mac_nums
  have hDl : D.length = 32 := by rw [← hD, hmac_len]
  rw [hD] at hn
  simp only [Prod.mk.injEq] at hn
  have HN := kept hn
  have HD := kept hD
  have HDL := kept hDl
  -- the world in which the first code is made
  obtain ⟨W3, hW3⟩ : ∃ W, (((w.alloc (.cells #[.int .u8 74, .int .u8 101, .int .u8 102, .int .u8 101] 5 (4, 5))).alloc (.cells #[.int .u8 119, .int .u8 104, .int .u8 97, .int .u8 116, .int .u8 32, .int .u8 100, .int .u8 111, .int .u8 32, .int .u8 121, .int .u8 97, .int .u8 32, .int .u8 119, .int .u8 97, .int .u8 110, .int .u8 116, .int .u8 32] 5 (16, 17))).alloc (.cells #[.int .u8 102, .int .u8 111, .int .u8 114, .int .u8 32, .int .u8 110, .int .u8 111, .int .u8 116, .int .u8 104, .int .u8 105, .int .u8 110, .int .u8 103, .int .u8 63] 5 (12, 13))) = W := ⟨_, rfl⟩
  have hs3 : W3.heap.size = w.heap.size + 3 := by rw [← hW3]; simp
  have m1 : Mem W3 w.heap.size (some ⟨w.heap.size, 0, none⟩) jefeB := by rw [← hW3]; exact ((mem_mark rfl rfl).alloc _).alloc _
  have m2 : Mem W3 (w.heap.size + 1) (some ⟨w.heap.size + 1, 0, none⟩) want1 := by rw [← hW3]; exact (mem_mark (by simp) rfl).alloc _
  have m3 : Mem W3 (w.heap.size + 2) (some ⟨w.heap.size + 2, 0, none⟩) want2 := by rw [← hW3]; exact mem_mark (by simp) rfl
  have hb3 : Below w.heap.size w W3 := by rw [← hW3]; exact (((Below.refl _ w).alloc (Nat.le_refl _) _).alloc (by simp) _).alloc (by simp; omega) _
  have hmm := memM_two (w := W3) (g := w.heap.size + 3) (c1 := 16) (c2 := 12) hs3.symm m2 m3 (by decide) (by decide)
  have hb4 : Below W3.heap.size W3 (W3.alloc (.cells #[.slice (some ⟨w.heap.size + 1, 0, none⟩) want1.length 16, .slice (some ⟨w.heap.size + 2, 0, none⟩) want2.length 12] 22)) := (Below.refl _ _).alloc (Nat.le_refl _) _
  have HSUM := kept (msum_any _ _ _ _ _ 4 2 4 2 jefeB [want1, want2] ((HK.out.below0 hb3).below0 hb4) rfl (m1.below0 hb4) (by decide) (by decide) rfl hmm (by decide) (by decide))
  rw [show [want1, want2].flatten = wantB by simp [wantB], HD.out] at HSUM
  have HB4 := kept (hb3.trans (hb4.mono hb3.size))
  rw [← hW3] at HSUM HB4
  clear hW3 hs3 m1 m2 m3 hb3 hmm hb4 hn hD hDl
  have kc := fun (w : World) (C : Array Value) (n c g : Nat) (hg : g = w.heap.size) => Go.Joins.run_convert_bytes_const_at (P := Tryd.prog) w 22 5 C n c g hg Tryd.underlying22 Tryd.underlying5
  go_enter Tryd.func8, Tryd.ntmps8
  go_wp2_with fail
  refine HSUM.out.mono ?_
  rintro e W5 ⟨rfl, hb5⟩
  go_upto_region 2 with (refine wpList_store_row rfl 26 _ _ rfl W5.heap.size (D.map bv).toArray rfl rfl 26 (Array.replicate 32 (.int .u8 0)) (Blk.new W5 _ _) (by rw [b32_size]; simp [HDL.out]) (by simp [HDL.out]) (padded_one D) ?_)
  go_name_world W6 hW6
  have hb56 : Below W5.heap.size W5 W6 := by rw [← hW6]; exact below_setRow ((Below.refl _ _).alloc (Nat.le_refl _) _) (Nat.le_refl _) _
  have hD6 : Blk W6 W5.heap.size 26 (D.map bv).toArray := by rw [← hW6]; exact setRow_heap _ _ _ _ _ _ (Blk.new W5 _ _)
  have hb05 := HB4.out.trans (hb5.mono HB4.out.size)
  have hb6 : Below w.heap.size w W6 := hb05.trans (hb56.mono hb05.size)
  have hgw : w.heap.size ≤ W5.heap.size := hb05.size
  clear hW6 hb5 hb56 hb05 HSUM HB4 kc W3
  obtain ⟨gD, hgD⟩ : ∃ g, W5.heap.size = g := ⟨_, rfl⟩
  rw [hgD] at hD6 hgw
  rw [hgD]
  clear hgD
  have HS := kept (show (fun w' : World => Below w.heap.size w w' ∧ Blk w' gD 26 (D.map bv).toArray) W6.drew from ⟨hb6.drew, hD6.drew⟩)
  have HKEEP := kept (fun (w' w'' : World) (h : Below w.heap.size w w' ∧ Blk w' gD 26 (D.map bv).toArray) (hb : Below w'.heap.size w' w'') => (show Below w.heap.size w w'' ∧ Blk w'' gD 26 (D.map bv).toArray from ⟨h.1.trans (hb.mono h.1.size), h.2.below hb h.2.lt⟩))
  have HKG := kept (fun (w' : World) (g n : Nat) (h : Below w.heap.size w w' ∧ Blk w' gD 26 (D.map bv).toArray) (hg : gD < g) => (show Below w.heap.size w (frz w' g n) ∧ Blk (frz w' g n) gD 26 (D.map bv).toArray from ⟨h.1.grown (frz_gb w' g n) h.1.size (fun k hk => by injection hk; omega), h.2.grown (frz_gb w' g n) (fun e => by injection e; omega)⟩))
  have HE1 := kept (fun (w' : World) (h : Below w.heap.size w w' ∧ Blk w' gD 26 (D.map bv).toArray) => equal_b w' gD gD (some ⟨gD, 0, none⟩) (some ⟨gD, 0, none⟩) 32 32 32 32 D D HDL.out.symm HDL.out.symm (by rw [HDL.out]; decide) (mem_blk h.2) (mem_blk h.2) true (sameB_self D))
  have HE2 := kept (fun (w' : World) (h : Below w.heap.size w w' ∧ Blk w' gD 26 (D.map bv).toArray) => equal_b w' gD gD (some ⟨gD, 0, none⟩) (some ⟨gD, 1, none⟩) 32 31 32 31 D (D.drop 1) HDL.out.symm (by rw [List.length_drop, HDL.out]) (by rw [HDL.out]; decide) (mem_blk h.2) ((mem_blk h.2).drop_at 1) false (sameB_false (fun e => by have := congrArg List.length e; rw [List.length_drop, HDL.out] at this; omega)))
  have HDV := kept (fun (w' : World) (h : Below w.heap.size w w' ∧ Blk w' gD 26 (D.map bv).toArray) => derive_awk w' (HK.out.below0 h.1))
  have HDN := kept (fun (w' : World) => derive_no_b w' (.slice none 0 0) (.string ⟨#[120]⟩) (-1) (.inl (by omega)))
  have HC1 := kept (fun (w' : World) (gJ gL : Nat) (h : Below w.heap.size w w' ∧ Blk w' gD 26 (D.map bv).toArray) (hJ : Mem w' gJ (some ⟨gJ, 0, none⟩) jefeB) (hL : MemM w' gL (some ⟨gL, 0, none⟩) [wantB]) =>
    check_any w' gJ gL gD (some ⟨gJ, 0, none⟩) (some ⟨gL, 0, none⟩) (some ⟨gD, 0, none⟩) 4 1 16 4 1 32 jefeB (D.take 16) [wantB] (HK.out.below0 h.1) rfl hJ (by decide) (by decide) (by rw [List.length_take, HDL.out]; rfl) ((mem_blk h.2).take 16) (by rw [List.length_take, HDL.out]; decide) rfl hL (by decide) (by decide))
  have HC2 := kept (fun (w' : World) (gJ gL : Nat) (h : Below w.heap.size w w' ∧ Blk w' gD 26 (D.map bv).toArray) (hJ : Mem w' gJ (some ⟨gJ, 0, none⟩) jefeB) (hL : MemM w' gL (some ⟨gL, 0, none⟩) [wantB]) =>
    check_any w' gJ gL gD (some ⟨gJ, 0, none⟩) (some ⟨gL, 0, none⟩) (some ⟨gD, 0, none⟩) 4 1 15 4 1 32 jefeB (D.take 15) [wantB] (HK.out.below0 h.1) rfl hJ (by decide) (by decide) (by rw [List.length_take, HDL.out]; rfl) ((mem_blk h.2).take 15) (by rw [List.length_take, HDL.out]; decide) rfl hL (by decide) (by decide))
  rw [show [wantB].flatten = wantB by simp, HD.out] at HC1 HC2
  rw [chkB_yes D 16 HDL.out (by omega) (by omega)] at HC1
  rw [chkB_no (D.take 15) D (by rw [List.length_take, HDL.out]; omega)] at HC2
  clear hb6 hD6 hgw
  refine wp_region_held_drew (S := fun w' : World => Below w.heap.size w w' ∧ Blk w' gD 26 (D.map bv).toArray) (by kernel_rfl) HS.out (fun _ => ?_)
  generalize W6.drew = W7 at HS ⊢
  refine wpAnyH_take (i := 0) (v := ?_) rfl (by kernel_rfl) (by kernel_rfl) (by kernel_rfl) (fun _ _ _ h => h) (Or.inl ⟨by rfl, ?_⟩) HS.out ?_
  rotate_left
  · intro w _; go_simp; with_reducible rfl
  try simp only [Act.put, List.getElem_toArray, List.getElem_cons_zero, List.getElem_cons_succ, List.setIfInBounds_toArray, List.set_cons_zero, List.set_cons_succ]
  refine wpAnyH_take (i := 1) (v := .int .u8 91) rfl (by kernel_rfl) (by kernel_rfl) (by kernel_rfl) (fun _ _ _ h => h) (Or.inl ⟨by rfl, ?_⟩) HS.out ?_
  · intro w hS
    have hc := list_cell hS.2 0 (by rw [HDL.out]; omega)
    rw [HN.out.1] at hc
    have hc2 : w.cell? ⟨gD, 0, none⟩ = some (.int .u8 91) := hc
    clear hc
    go_simp
  try simp only [Act.put, List.getElem_toArray, List.getElem_cons_zero, List.getElem_cons_succ, List.setIfInBounds_toArray, List.set_cons_zero, List.set_cons_succ]
  refine wpAnyH_take (i := 2) (v := ?_) rfl (by kernel_rfl) (by kernel_rfl) (by kernel_rfl) (fun _ _ _ h => h) (Or.inl ⟨by rfl, ?_⟩) HS.out ?_
  rotate_left
  · intro w _; go_simp; with_reducible rfl
  try simp only [Act.put, List.getElem_toArray, List.getElem_cons_zero, List.getElem_cons_succ, List.setIfInBounds_toArray, List.set_cons_zero, List.set_cons_succ]
  refine wpAnyH_take (i := 3) (v := ?_) rfl (by kernel_rfl) (by kernel_rfl) (by kernel_rfl) (fun _ _ _ h => h) (Or.inl ⟨by rfl, ?_⟩) HS.out ?_
  rotate_left
  · intro w _; go_simp; with_reducible rfl
  try simp only [Act.put, List.getElem_toArray, List.getElem_cons_zero, List.getElem_cons_succ, List.setIfInBounds_toArray, List.set_cons_zero, List.set_cons_succ]
  refine wpAnyH_take (i := 4) (v := ?_) rfl (by kernel_rfl) (by kernel_rfl) (by kernel_rfl) (fun _ _ _ h => h) (Or.inl ⟨by rfl, ?_⟩) HS.out ?_
  rotate_left
  · intro w _; go_simp; with_reducible rfl
  try simp only [Act.put, List.getElem_toArray, List.getElem_cons_zero, List.getElem_cons_succ, List.setIfInBounds_toArray, List.set_cons_zero, List.set_cons_succ]
  refine wpAnyH_take (i := 5) (v := .int .u8 220) rfl (by kernel_rfl) (by kernel_rfl) (by kernel_rfl) (fun _ _ _ h => h) (Or.inl ⟨by rfl, ?_⟩) HS.out ?_
  · intro w hS
    have hc := list_cell hS.2 1 (by rw [HDL.out]; omega)
    rw [HN.out.2.1] at hc
    have hc2 : w.cell? ⟨gD, 1, none⟩ = some (.int .u8 220) := hc
    clear hc
    go_simp
  try simp only [Act.put, List.getElem_toArray, List.getElem_cons_zero, List.getElem_cons_succ, List.setIfInBounds_toArray, List.set_cons_zero, List.set_cons_succ]
  refine wpAnyH_take (i := 6) (v := ?_) rfl (by kernel_rfl) (by kernel_rfl) (by kernel_rfl) (fun _ _ _ h => h) (Or.inl ⟨by rfl, ?_⟩) HS.out ?_
  rotate_left
  · intro w _; go_simp; with_reducible rfl
  try simp only [Act.put, List.getElem_toArray, List.getElem_cons_zero, List.getElem_cons_succ, List.setIfInBounds_toArray, List.set_cons_zero, List.set_cons_succ]
  refine wpAnyH_take (i := 7) (v := ?_) rfl (by kernel_rfl) (by kernel_rfl) (by kernel_rfl) (fun _ _ _ h => h) (Or.inl ⟨by rfl, ?_⟩) HS.out ?_
  rotate_left
  · intro w _; go_simp; with_reducible rfl
  try simp only [Act.put, List.getElem_toArray, List.getElem_cons_zero, List.getElem_cons_succ, List.setIfInBounds_toArray, List.set_cons_zero, List.set_cons_succ]
  refine wpAnyH_take (i := 8) (v := ?_) rfl (by kernel_rfl) (by kernel_rfl) (by kernel_rfl) (fun _ _ _ h => h) (Or.inl ⟨by rfl, ?_⟩) HS.out ?_
  rotate_left
  · intro w _; go_simp; with_reducible rfl
  try simp only [Act.put, List.getElem_toArray, List.getElem_cons_zero, List.getElem_cons_succ, List.setIfInBounds_toArray, List.set_cons_zero, List.set_cons_succ]
  refine wpAnyH_take (i := 9) (v := ?_) rfl (by kernel_rfl) (by kernel_rfl) (by kernel_rfl) (fun _ _ _ h => h) (Or.inl ⟨by rfl, ?_⟩) HS.out ?_
  rotate_left
  · intro w _; go_simp; with_reducible rfl
  try simp only [Act.put, List.getElem_toArray, List.getElem_cons_zero, List.getElem_cons_succ, List.setIfInBounds_toArray, List.set_cons_zero, List.set_cons_succ]
  refine wpAnyH_take (i := 10) (v := .int .u8 193) rfl (by kernel_rfl) (by kernel_rfl) (by kernel_rfl) (fun _ _ _ h => h) (Or.inl ⟨by rfl, ?_⟩) HS.out ?_
  · intro w hS
    have hc := list_cell hS.2 2 (by rw [HDL.out]; omega)
    rw [HN.out.2.2.1] at hc
    have hc2 : w.cell? ⟨gD, 2, none⟩ = some (.int .u8 193) := hc
    clear hc
    go_simp
  try simp only [Act.put, List.getElem_toArray, List.getElem_cons_zero, List.getElem_cons_succ, List.setIfInBounds_toArray, List.set_cons_zero, List.set_cons_succ]
  refine wpAnyH_take (i := 11) (v := ?_) rfl (by kernel_rfl) (by kernel_rfl) (by kernel_rfl) (fun _ _ _ h => h) (Or.inl ⟨by rfl, ?_⟩) HS.out ?_
  rotate_left
  · intro w _; go_simp; with_reducible rfl
  try simp only [Act.put, List.getElem_toArray, List.getElem_cons_zero, List.getElem_cons_succ, List.setIfInBounds_toArray, List.set_cons_zero, List.set_cons_succ]
  refine wpAnyH_take (i := 12) (v := ?_) rfl (by kernel_rfl) (by kernel_rfl) (by kernel_rfl) (fun _ _ _ h => h) (Or.inl ⟨by rfl, ?_⟩) HS.out ?_
  rotate_left
  · intro w _; go_simp; with_reducible rfl
  try simp only [Act.put, List.getElem_toArray, List.getElem_cons_zero, List.getElem_cons_succ, List.setIfInBounds_toArray, List.set_cons_zero, List.set_cons_succ]
  refine wpAnyH_take (i := 13) (v := ?_) rfl (by kernel_rfl) (by kernel_rfl) (by kernel_rfl) (fun _ _ _ h => h) (Or.inl ⟨by rfl, ?_⟩) HS.out ?_
  rotate_left
  · intro w _; go_simp; with_reducible rfl
  try simp only [Act.put, List.getElem_toArray, List.getElem_cons_zero, List.getElem_cons_succ, List.setIfInBounds_toArray, List.set_cons_zero, List.set_cons_succ]
  refine wpAnyH_take (i := 14) (v := ?_) rfl (by kernel_rfl) (by kernel_rfl) (by kernel_rfl) (fun _ _ _ h => h) (Or.inl ⟨by rfl, ?_⟩) HS.out ?_
  rotate_left
  · intro w _; go_simp; with_reducible rfl
  try simp only [Act.put, List.getElem_toArray, List.getElem_cons_zero, List.getElem_cons_succ, List.setIfInBounds_toArray, List.set_cons_zero, List.set_cons_succ]
  refine wpAnyH_take (i := 15) (v := .int .u8 67) rfl (by kernel_rfl) (by kernel_rfl) (by kernel_rfl) (fun _ _ _ h => h) (Or.inl ⟨by rfl, ?_⟩) HS.out ?_
  · intro w hS
    have hc := list_cell hS.2 31 (by rw [HDL.out]; omega)
    rw [HN.out.2.2.2] at hc
    have hc2 : w.cell? ⟨gD, 31, none⟩ = some (.int .u8 67) := hc
    clear hc
    go_simp
  try simp only [Act.put, List.getElem_toArray, List.getElem_cons_zero, List.getElem_cons_succ, List.setIfInBounds_toArray, List.set_cons_zero, List.set_cons_succ]
  refine wpAnyH_take (i := 16) (v := ?_) rfl (by kernel_rfl) (by kernel_rfl) (by kernel_rfl) (fun _ _ _ h => h) (Or.inl ⟨by rfl, ?_⟩) HS.out ?_
  rotate_left
  · intro w _; go_simp; with_reducible rfl
  try simp only [Act.put, List.getElem_toArray, List.getElem_cons_zero, List.getElem_cons_succ, List.setIfInBounds_toArray, List.set_cons_zero, List.set_cons_succ]
  refine wpAnyH_take (i := 17) (v := ?_) rfl (by kernel_rfl) (by kernel_rfl) (by kernel_rfl) (fun _ _ _ h => h) (Or.inl ⟨by rfl, ?_⟩) HS.out ?_
  rotate_left
  · intro w _; go_simp; with_reducible rfl
  try simp only [Act.put, List.getElem_toArray, List.getElem_cons_zero, List.getElem_cons_succ, List.setIfInBounds_toArray, List.set_cons_zero, List.set_cons_succ]
  refine wpAnyH_take (i := 18) (v := ?_) rfl (by kernel_rfl) (by kernel_rfl) (by kernel_rfl) (fun _ _ _ h => h) (Or.inl ⟨by rfl, ?_⟩) HS.out ?_
  rotate_left
  · intro w _; go_simp; with_reducible rfl
  try simp only [Act.put, List.getElem_toArray, List.getElem_cons_zero, List.getElem_cons_succ, List.setIfInBounds_toArray, List.set_cons_zero, List.set_cons_succ]
  refine wpAnyH_take (i := 19) (v := ?_) rfl (by kernel_rfl) (by kernel_rfl) (by kernel_rfl) (fun _ _ _ h => h) (Or.inl ⟨by rfl, ?_⟩) HS.out ?_
  rotate_left
  · intro w _; go_simp; with_reducible rfl
  try simp only [Act.put, List.getElem_toArray, List.getElem_cons_zero, List.getElem_cons_succ, List.setIfInBounds_toArray, List.set_cons_zero, List.set_cons_succ]
  refine wpAnyH_take (i := 20) (v := ?_) rfl (by kernel_rfl) (by kernel_rfl) (by kernel_rfl) (fun _ _ _ h => h) (Or.inl ⟨by rfl, ?_⟩) HS.out ?_
  rotate_left
  · intro w _; go_simp; with_reducible rfl
  try simp only [Act.put, List.getElem_toArray, List.getElem_cons_zero, List.getElem_cons_succ, List.setIfInBounds_toArray, List.set_cons_zero, List.set_cons_succ]
  refine wpAnyH_ready (rs := [21]) (by kernel_rfl) (by simp) ?_
  refine AllReadyH.cons rfl (fun K hK => ?_) (AllReadyH.nil)
  go_simp
  refine (HE1.out W7 HS.out).mono ?_
  rintro e Y1 ⟨rfl, hb1⟩
  have S_2 := kept (HKEEP.out _ _ HS.out hb1)
  clear HS
  refine hK.out _ _ S_2.out (fun _ => ?_)
  clear hK K
  try simp only [Act.put, List.getElem_toArray, List.getElem_cons_zero, List.getElem_cons_succ, List.setIfInBounds_toArray, List.set_cons_zero, List.set_cons_succ]
  refine wpAnyH_take (i := 22) (v := ?_) rfl (by kernel_rfl) (by kernel_rfl) (by kernel_rfl) (fun _ _ _ h => h) (Or.inl ⟨by rfl, ?_⟩) S_2.out ?_
  rotate_left
  · intro w _; go_simp; with_reducible rfl
  try simp only [Act.put, List.getElem_toArray, List.getElem_cons_zero, List.getElem_cons_succ, List.setIfInBounds_toArray, List.set_cons_zero, List.set_cons_succ]
  refine wpAnyH_take (i := 23) (v := ?_) rfl (by kernel_rfl) (by kernel_rfl) (by kernel_rfl) (fun _ _ _ h => h) (Or.inl ⟨by rfl, ?_⟩) S_2.out ?_
  rotate_left
  · intro w _; go_simp; with_reducible rfl
  try simp only [Act.put, List.getElem_toArray, List.getElem_cons_zero, List.getElem_cons_succ, List.setIfInBounds_toArray, List.set_cons_zero, List.set_cons_succ]
  refine wpAnyH_take (i := 24) (v := ?_) rfl (by kernel_rfl) (by kernel_rfl) (by kernel_rfl) (fun _ _ _ h => h) (Or.inl ⟨by rfl, ?_⟩) S_2.out ?_
  rotate_left
  · intro w _; go_simp; with_reducible rfl
  try simp only [Act.put, List.getElem_toArray, List.getElem_cons_zero, List.getElem_cons_succ, List.setIfInBounds_toArray, List.set_cons_zero, List.set_cons_succ]
  refine wpAnyH_take (i := 25) (v := ?_) rfl (by kernel_rfl) (by kernel_rfl) (by kernel_rfl) (fun _ _ _ h => h) (Or.inl ⟨by rfl, ?_⟩) S_2.out ?_
  rotate_left
  · intro w _; go_simp; with_reducible rfl
  try simp only [Act.put, List.getElem_toArray, List.getElem_cons_zero, List.getElem_cons_succ, List.setIfInBounds_toArray, List.set_cons_zero, List.set_cons_succ]
  refine wpAnyH_ready (rs := [26]) (by kernel_rfl) (by simp) ?_
  refine AllReadyH.cons rfl (fun K hK => ?_) (AllReadyH.nil)
  go_simp
  refine (HE2.out Y1 S_2.out).mono ?_
  rintro e Y3 ⟨rfl, hb3⟩
  have S_4 := kept (HKEEP.out _ _ S_2.out hb3)
  clear S_2
  refine hK.out _ _ S_4.out (fun _ => ?_)
  clear hK K
  try simp only [Act.put, List.getElem_toArray, List.getElem_cons_zero, List.getElem_cons_succ, List.setIfInBounds_toArray, List.set_cons_zero, List.set_cons_succ]
  refine wpAnyH_take (i := 27) (v := ?_) rfl (by kernel_rfl) (by kernel_rfl) (by kernel_rfl) (fun _ _ _ h => h) (Or.inl ⟨by rfl, ?_⟩) S_4.out ?_
  rotate_left
  · intro w _; go_simp; with_reducible rfl
  try simp only [Act.put, List.getElem_toArray, List.getElem_cons_zero, List.getElem_cons_succ, List.setIfInBounds_toArray, List.set_cons_zero, List.set_cons_succ]
  refine wpAnyH_take (i := 28) (v := ?_) rfl (by kernel_rfl) (by kernel_rfl) (by kernel_rfl) (fun _ _ _ h => h) (Or.inl ⟨by rfl, ?_⟩) S_4.out ?_
  rotate_left
  · intro w _; go_simp; with_reducible rfl
  try simp only [Act.put, List.getElem_toArray, List.getElem_cons_zero, List.getElem_cons_succ, List.setIfInBounds_toArray, List.set_cons_zero, List.set_cons_succ]
  refine wpAnyH_take (i := 29) (v := ?_) rfl (by kernel_rfl) (by kernel_rfl) (by kernel_rfl) (fun _ _ _ h => h) (Or.inl ⟨by rfl, ?_⟩) S_4.out ?_
  rotate_left
  · intro w _; go_simp; with_reducible rfl
  try simp only [Act.put, List.getElem_toArray, List.getElem_cons_zero, List.getElem_cons_succ, List.setIfInBounds_toArray, List.set_cons_zero, List.set_cons_succ]
  refine wpAnyH_ready (rs := [30]) (by kernel_rfl) (by simp) ?_
  refine AllReadyH.cons rfl (fun K hK => ?_) (AllReadyH.nil)
  go_simp
  refine (HDV.out Y3 S_4.out).mono ?_
  rintro e Y5 ⟨Av, cv, rfl, hb5⟩
  have S_6 := kept (HKEEP.out _ _ S_4.out hb5)
  clear S_4
  refine hK.out _ _ S_6.out (fun _ => ?_)
  clear hK K
  try simp only [Act.put, List.getElem_toArray, List.getElem_cons_zero, List.getElem_cons_succ, List.setIfInBounds_toArray, List.set_cons_zero, List.set_cons_succ]
  refine wpAnyH_take (i := 31) (v := ?_) rfl (by kernel_rfl) (by kernel_rfl) (by kernel_rfl) (fun _ _ _ h => h) (Or.inl ⟨by rfl, ?_⟩) S_6.out ?_
  rotate_left
  · intro w _; go_simp; with_reducible rfl
  try simp only [Act.put, List.getElem_toArray, List.getElem_cons_zero, List.getElem_cons_succ, List.setIfInBounds_toArray, List.set_cons_zero, List.set_cons_succ]
  refine wpAnyH_take (i := 32) (v := ?_) rfl (by kernel_rfl) (by kernel_rfl) (by kernel_rfl) (fun _ _ _ h => h) (Or.inl ⟨by rfl, ?_⟩) S_6.out ?_
  rotate_left
  · intro w _; go_simp; with_reducible rfl
  try simp only [Act.put, List.getElem_toArray, List.getElem_cons_zero, List.getElem_cons_succ, List.setIfInBounds_toArray, List.set_cons_zero, List.set_cons_succ]
  refine wpAnyH_take (i := 33) (v := ?_) rfl (by kernel_rfl) (by kernel_rfl) (by kernel_rfl) (fun _ _ _ h => h) (Or.inl ⟨by rfl, ?_⟩) S_6.out ?_
  rotate_left
  · intro w _; go_simp; with_reducible rfl
  try simp only [Act.put, List.getElem_toArray, List.getElem_cons_zero, List.getElem_cons_succ, List.setIfInBounds_toArray, List.set_cons_zero, List.set_cons_succ]
  refine wpAnyH_take (i := 34) (v := ?_) rfl (by kernel_rfl) (by kernel_rfl) (by kernel_rfl) (fun _ _ _ h => h) (Or.inl ⟨by rfl, ?_⟩) S_6.out ?_
  rotate_left
  · intro w _; go_simp; with_reducible rfl
  try simp only [Act.put, List.getElem_toArray, List.getElem_cons_zero, List.getElem_cons_succ, List.setIfInBounds_toArray, List.set_cons_zero, List.set_cons_succ]
  refine wpAnyH_ready (rs := [35]) (by kernel_rfl) (by simp) ?_
  refine AllReadyH.cons rfl (fun K hK => ?_) (AllReadyH.nil)
  go_simp
  refine (HDN.out Y5).mono ?_
  rintro e Y7 ⟨rfl, hb7⟩
  have S_8 := kept (HKEEP.out _ _ S_6.out hb7)
  clear S_6
  refine hK.out _ _ S_8.out (fun _ => ?_)
  clear hK K
  try simp only [Act.put, List.getElem_toArray, List.getElem_cons_zero, List.getElem_cons_succ, List.setIfInBounds_toArray, List.set_cons_zero, List.set_cons_succ]
  refine wpAnyH_take (i := 36) (v := ?_) rfl (by kernel_rfl) (by kernel_rfl) (by kernel_rfl) (fun _ _ _ h => h) (Or.inl ⟨by rfl, ?_⟩) S_8.out ?_
  rotate_left
  · intro w _; go_simp; with_reducible rfl
  try simp only [Act.put, List.getElem_toArray, List.getElem_cons_zero, List.getElem_cons_succ, List.setIfInBounds_toArray, List.set_cons_zero, List.set_cons_succ]
  refine wpAnyH_take (i := 37) (v := ?_) rfl (by kernel_rfl) (by kernel_rfl) (by kernel_rfl) (fun _ _ _ h => h) (Or.inl ⟨by rfl, ?_⟩) S_8.out ?_
  rotate_left
  · intro w _; go_simp; with_reducible rfl
  try simp only [Act.put, List.getElem_toArray, List.getElem_cons_zero, List.getElem_cons_succ, List.setIfInBounds_toArray, List.set_cons_zero, List.set_cons_succ]
  refine wpAnyH_take (i := 38) (v := ?_) rfl (by kernel_rfl) (by kernel_rfl) (by kernel_rfl) (fun _ _ _ h => h) (Or.inl ⟨by rfl, ?_⟩) S_8.out ?_
  rotate_left
  · intro w _; go_simp; with_reducible rfl
  try simp only [Act.put, List.getElem_toArray, List.getElem_cons_zero, List.getElem_cons_succ, List.setIfInBounds_toArray, List.set_cons_zero, List.set_cons_succ]
  refine wpAnyH_take (i := 39) (v := ?_) rfl (by kernel_rfl) (by kernel_rfl) (by kernel_rfl) (fun _ _ _ h => h) (Or.inl ⟨by rfl, ?_⟩) S_8.out ?_
  rotate_left
  · intro w _; go_simp; with_reducible rfl
  try simp only [Act.put, List.getElem_toArray, List.getElem_cons_zero, List.getElem_cons_succ, List.setIfInBounds_toArray, List.set_cons_zero, List.set_cons_succ]
  apply meet3 (F := fun _ _ _ Y => (fun w' : World => Below w.heap.size w w' ∧ Blk w' gD 26 (D.map bv).toArray) Y)
  case main =>
    intro REST
    refine wpAnyH_take (i := 42) (v := ?_) rfl (by kernel_rfl) (by kernel_rfl) (by kernel_rfl) (fun _ _ _ h => h) (Or.inl ⟨by rfl, ?_⟩) S_8.out ?_
    rotate_left
    · intro w _; go_simp; with_reducible rfl
    try simp only [Act.put, List.getElem_toArray, List.getElem_cons_zero, List.getElem_cons_succ, List.setIfInBounds_toArray, List.set_cons_zero, List.set_cons_succ]
    refine wpAnyH_ready (rs := [40, 43]) (by kernel_rfl) (by simp) ?_
    refine AllReadyH.cons rfl (fun K hK => ?_) (AllReadyH.cons rfl (fun K hK => ?_) (AllReadyH.nil))
    · go_simp
      have hba9 : Below Y7.heap.size Y7 (Y7.alloc (.cells #[.int .u8 74, .int .u8 101, .int .u8 102, .int .u8 101] 5)) := (Below.refl _ Y7).alloc (Nat.le_refl _) _
      have J0_9 := kept (show Blk (Y7.alloc (.cells #[.int .u8 74, .int .u8 101, .int .u8 102, .int .u8 101] 5)) Y7.heap.size 5 #[.int .u8 74, .int .u8 101, .int .u8 102, .int .u8 101] ∧ gD < Y7.heap.size from ⟨Blk.new Y7 _ _, S_8.out.2.lt⟩)
      have S_10 := kept (HKEEP.out _ _ S_8.out hba9)
      refine hK.out _ _ S_10.out (fun _ => ?_)
      clear hK K
      try simp only [Act.put, List.getElem_toArray, List.getElem_cons_zero, List.getElem_cons_succ, List.setIfInBounds_toArray, List.set_cons_zero, List.set_cons_succ]
      obtain ⟨X9, hX9⟩ : ∃ Y, Y7.alloc (.cells #[.int .u8 74, .int .u8 101, .int .u8 102, .int .u8 101] 5) = Y := ⟨_, rfl⟩
      obtain ⟨g9, hg9⟩ : ∃ g, Y7.heap.size = g := ⟨_, rfl⟩
      rw [hX9] at S_10
      rw [hX9] at J0_9
      rw [hg9] at J0_9
      rw [hX9, hg9]
      clear hX9 hg9 hba9
      refine wpAnyH_ready (rs := [41, 43]) (by kernel_rfl) (by simp) ?_
      refine AllReadyH.cons rfl (fun K hK => ?_) (AllReadyH.cons rfl (fun K hK => ?_) (AllReadyH.nil))
      · have kcv := run_conv_const (P := Tryd.prog) X9 g9 22 5 #[.int .u8 74, .int .u8 101, .int .u8 102, .int .u8 101] 4 4 J0_9.out.1 Tryd.underlying22 Tryd.underlying5
        change (convert _ _ _).run _ _ = .ok _ (frz X9 g9 4) at kcv
        have S_12 := kept (HKG.out X9 g9 4 S_10.out J0_9.out.2)
        have J_13 := kept ((show Mem (frz X9 g9 4) g9 (some ⟨g9, 0, none⟩) jefeB from (mem_blk (l := jefeB) J0_9.out.1).frz _ _))
        clear S_10 J0_9
        go_simp
        clear kcv
        refine hK.out _ _ S_12.out (fun _ => ?_)
        clear hK K
        try simp only [Act.put, List.getElem_toArray, List.getElem_cons_zero, List.getElem_cons_succ, List.setIfInBounds_toArray, List.set_cons_zero, List.set_cons_succ]
        obtain ⟨X11, hX11⟩ : ∃ Y, frz X9 g9 4 = Y := ⟨_, rfl⟩
        rw [hX11] at S_12
        rw [hX11] at J_13
        rw [hX11]
        clear hX11
        refine wpAnyH_ready (rs := [43]) (by kernel_rfl) (by simp) ?_
        refine AllReadyH.cons rfl (fun K hK => ?_) (AllReadyH.nil)
        go_simp
        have hba14 : Below X11.heap.size X11 (X11.alloc (.cells #[.int .u8 119, .int .u8 104, .int .u8 97, .int .u8 116, .int .u8 32, .int .u8 100, .int .u8 111, .int .u8 32, .int .u8 121, .int .u8 97, .int .u8 32, .int .u8 119, .int .u8 97, .int .u8 110, .int .u8 116, .int .u8 32, .int .u8 102, .int .u8 111, .int .u8 114, .int .u8 32, .int .u8 110, .int .u8 111, .int .u8 116, .int .u8 104, .int .u8 105, .int .u8 110, .int .u8 103, .int .u8 63] 5)) := (Below.refl _ X11).alloc (Nat.le_refl _) _
        have T0_14 := kept (show Blk (X11.alloc (.cells #[.int .u8 119, .int .u8 104, .int .u8 97, .int .u8 116, .int .u8 32, .int .u8 100, .int .u8 111, .int .u8 32, .int .u8 121, .int .u8 97, .int .u8 32, .int .u8 119, .int .u8 97, .int .u8 110, .int .u8 116, .int .u8 32, .int .u8 102, .int .u8 111, .int .u8 114, .int .u8 32, .int .u8 110, .int .u8 111, .int .u8 116, .int .u8 104, .int .u8 105, .int .u8 110, .int .u8 103, .int .u8 63] 5)) X11.heap.size 5 #[.int .u8 119, .int .u8 104, .int .u8 97, .int .u8 116, .int .u8 32, .int .u8 100, .int .u8 111, .int .u8 32, .int .u8 121, .int .u8 97, .int .u8 32, .int .u8 119, .int .u8 97, .int .u8 110, .int .u8 116, .int .u8 32, .int .u8 102, .int .u8 111, .int .u8 114, .int .u8 32, .int .u8 110, .int .u8 111, .int .u8 116, .int .u8 104, .int .u8 105, .int .u8 110, .int .u8 103, .int .u8 63] ∧ gD < X11.heap.size from ⟨Blk.new X11 _ _, S_12.out.2.lt⟩)
        have S_15 := kept (HKEEP.out _ _ S_12.out hba14)
        clear S_12
        have J_16 := kept (J_13.out.below0 hba14)
        clear J_13
        refine hK.out _ _ S_15.out (fun _ => ?_)
        clear hK K
        try simp only [Act.put, List.getElem_toArray, List.getElem_cons_zero, List.getElem_cons_succ, List.setIfInBounds_toArray, List.set_cons_zero, List.set_cons_succ]
        obtain ⟨X14, hX14⟩ : ∃ Y, X11.alloc (.cells #[.int .u8 119, .int .u8 104, .int .u8 97, .int .u8 116, .int .u8 32, .int .u8 100, .int .u8 111, .int .u8 32, .int .u8 121, .int .u8 97, .int .u8 32, .int .u8 119, .int .u8 97, .int .u8 110, .int .u8 116, .int .u8 32, .int .u8 102, .int .u8 111, .int .u8 114, .int .u8 32, .int .u8 110, .int .u8 111, .int .u8 116, .int .u8 104, .int .u8 105, .int .u8 110, .int .u8 103, .int .u8 63] 5) = Y := ⟨_, rfl⟩
        obtain ⟨g14, hg14⟩ : ∃ g, X11.heap.size = g := ⟨_, rfl⟩
        rw [hX14] at S_15
        rw [hX14] at J_16
        rw [hX14] at T0_14
        rw [hg14] at T0_14
        rw [hX14, hg14]
        clear hX14 hg14 hba14
        refine wpAnyH_ready (rs := [44]) (by kernel_rfl) (by simp) ?_
        refine AllReadyH.cons rfl (fun K hK => ?_) (AllReadyH.nil)
        have kcv := run_conv_const (P := Tryd.prog) X14 g14 22 5 #[.int .u8 119, .int .u8 104, .int .u8 97, .int .u8 116, .int .u8 32, .int .u8 100, .int .u8 111, .int .u8 32, .int .u8 121, .int .u8 97, .int .u8 32, .int .u8 119, .int .u8 97, .int .u8 110, .int .u8 116, .int .u8 32, .int .u8 102, .int .u8 111, .int .u8 114, .int .u8 32, .int .u8 110, .int .u8 111, .int .u8 116, .int .u8 104, .int .u8 105, .int .u8 110, .int .u8 103, .int .u8 63] 28 28 T0_14.out.1 Tryd.underlying22 Tryd.underlying5
        change (convert _ _ _).run _ _ = .ok _ (frz X14 g14 28) at kcv
        have S_18 := kept (HKG.out X14 g14 28 S_15.out T0_14.out.2)
        have T_19 := kept ((show Mem (frz X14 g14 28) g14 (some ⟨g14, 0, none⟩) wantB from (mem_blk (l := wantB) T0_14.out.1).frz _ _))
        have J_20 := kept (J_16.out.frz g14 28)
        clear S_15 J_16 T0_14
        go_simp
        clear kcv
        refine hK.out _ _ S_18.out (fun _ => ?_)
        clear hK K
        try simp only [Act.put, List.getElem_toArray, List.getElem_cons_zero, List.getElem_cons_succ, List.setIfInBounds_toArray, List.set_cons_zero, List.set_cons_succ]
        obtain ⟨X17, hX17⟩ : ∃ Y, frz X14 g14 28 = Y := ⟨_, rfl⟩
        rw [hX17] at S_18
        rw [hX17] at T_19
        rw [hX17] at J_20
        rw [hX17]
        clear hX17
        refine wpAnyH_ready (rs := [45]) (by kernel_rfl) (by simp) ?_
        refine AllReadyH.cons rfl (fun K hK => ?_) (AllReadyH.nil)
        go_simp
        have hba21 : Below X17.heap.size X17 (X17.alloc (.cells #[.slice (some ⟨g14, 0, none⟩) 28 28] 22)) := (Below.refl _ X17).alloc (Nat.le_refl _) _
        have L_21 := kept (show MemM (X17.alloc (.cells #[.slice (some ⟨g14, 0, none⟩) 28 28] 22)) X17.heap.size (some ⟨X17.heap.size, 0, none⟩) [wantB] from memM_one (w := X17) (g := X17.heap.size) (c1 := 28) rfl T_19.out (by decide))
        have S_22 := kept (HKEEP.out _ _ S_18.out hba21)
        clear S_18
        have T_23 := kept (T_19.out.below0 hba21)
        clear T_19
        have J_24 := kept (J_20.out.below0 hba21)
        clear J_20
        refine hK.out _ _ S_22.out (fun _ => ?_)
        clear hK K
        try simp only [Act.put, List.getElem_toArray, List.getElem_cons_zero, List.getElem_cons_succ, List.setIfInBounds_toArray, List.set_cons_zero, List.set_cons_succ]
        obtain ⟨X21, hX21⟩ : ∃ Y, X17.alloc (.cells #[.slice (some ⟨g14, 0, none⟩) 28 28] 22) = Y := ⟨_, rfl⟩
        obtain ⟨g21, hg21⟩ : ∃ g, X17.heap.size = g := ⟨_, rfl⟩
        rw [hX21] at S_22
        rw [hX21] at T_23
        rw [hX21] at J_24
        rw [hX21] at L_21
        rw [hg21] at L_21
        rw [hX21, hg21]
        clear hX21 hg21 hba21
        refine wpAnyH_ready (rs := [46]) (by kernel_rfl) (by simp) ?_
        refine AllReadyH.cons rfl (fun K hK => ?_) (AllReadyH.nil)
        go_simp
        refine (HC1.out X21 g9 g21 S_22.out J_24.out L_21.out).mono ?_
        rintro e Y25 ⟨rfl, hb25⟩
        have S_26 := kept (HKEEP.out _ _ S_22.out hb25)
        clear S_22
        refine hK.out _ _ S_26.out (fun _ => ?_)
        clear hK K
        try simp only [Act.put, List.getElem_toArray, List.getElem_cons_zero, List.getElem_cons_succ, List.setIfInBounds_toArray, List.set_cons_zero, List.set_cons_succ]
        refine listed_as #[true, true, true, true, true, true, true, true, true, true, true, true, true, true, true, true, true, true, true, true, true, true, true, true, true, true, true, true, true, true, true, true, true, true, true, true, true, true, true, true, true, true, true, true, true, true, true, false, false, false, false, false, false, false, false, false, false, false, false] (by kernel_rfl) ?_
        exact REST g9 g14 g21 Y25 S_26.out
      · have hlt := J0_9.out.1.lt
        go_simp
        have hba27 : Below X9.heap.size X9 (X9.alloc (.cells #[.int .u8 119, .int .u8 104, .int .u8 97, .int .u8 116, .int .u8 32, .int .u8 100, .int .u8 111, .int .u8 32, .int .u8 121, .int .u8 97, .int .u8 32, .int .u8 119, .int .u8 97, .int .u8 110, .int .u8 116, .int .u8 32, .int .u8 102, .int .u8 111, .int .u8 114, .int .u8 32, .int .u8 110, .int .u8 111, .int .u8 116, .int .u8 104, .int .u8 105, .int .u8 110, .int .u8 103, .int .u8 63] 5)) := (Below.refl _ X9).alloc (Nat.le_refl _) _
        have T0_27 := kept (show Blk (X9.alloc (.cells #[.int .u8 119, .int .u8 104, .int .u8 97, .int .u8 116, .int .u8 32, .int .u8 100, .int .u8 111, .int .u8 32, .int .u8 121, .int .u8 97, .int .u8 32, .int .u8 119, .int .u8 97, .int .u8 110, .int .u8 116, .int .u8 32, .int .u8 102, .int .u8 111, .int .u8 114, .int .u8 32, .int .u8 110, .int .u8 111, .int .u8 116, .int .u8 104, .int .u8 105, .int .u8 110, .int .u8 103, .int .u8 63] 5)) X9.heap.size 5 #[.int .u8 119, .int .u8 104, .int .u8 97, .int .u8 116, .int .u8 32, .int .u8 100, .int .u8 111, .int .u8 32, .int .u8 121, .int .u8 97, .int .u8 32, .int .u8 119, .int .u8 97, .int .u8 110, .int .u8 116, .int .u8 32, .int .u8 102, .int .u8 111, .int .u8 114, .int .u8 32, .int .u8 110, .int .u8 111, .int .u8 116, .int .u8 104, .int .u8 105, .int .u8 110, .int .u8 103, .int .u8 63] ∧ gD < X9.heap.size from ⟨Blk.new X9 _ _, S_10.out.2.lt⟩)
        have S_28 := kept (HKEEP.out _ _ S_10.out hba27)
        clear S_10
        have J0_29 := kept ((show _ ∧ _ from ⟨J0_9.out.1.below hba27 J0_9.out.1.lt, J0_9.out.2⟩))
        clear J0_9
        refine hK.out _ _ S_28.out (fun _ => ?_)
        clear hK K
        try simp only [Act.put, List.getElem_toArray, List.getElem_cons_zero, List.getElem_cons_succ, List.setIfInBounds_toArray, List.set_cons_zero, List.set_cons_succ]
        obtain ⟨X27, hX27⟩ : ∃ Y, X9.alloc (.cells #[.int .u8 119, .int .u8 104, .int .u8 97, .int .u8 116, .int .u8 32, .int .u8 100, .int .u8 111, .int .u8 32, .int .u8 121, .int .u8 97, .int .u8 32, .int .u8 119, .int .u8 97, .int .u8 110, .int .u8 116, .int .u8 32, .int .u8 102, .int .u8 111, .int .u8 114, .int .u8 32, .int .u8 110, .int .u8 111, .int .u8 116, .int .u8 104, .int .u8 105, .int .u8 110, .int .u8 103, .int .u8 63] 5) = Y := ⟨_, rfl⟩
        obtain ⟨g27, hg27⟩ : ∃ g, X9.heap.size = g := ⟨_, rfl⟩
        rw [hX27] at S_28
        rw [hX27] at J0_29
        rw [hX27] at T0_27
        rw [hg27] at hlt
        rw [hg27] at T0_27
        rw [hX27, hg27]
        clear hX27 hg27 hba27
        have HNE := kept (show g9 ≠ g27 by omega)
        clear hlt
        refine wpAnyH_ready (rs := [41, 44]) (by kernel_rfl) (by simp) ?_
        refine AllReadyH.cons rfl (fun K hK => ?_) (AllReadyH.cons rfl (fun K hK => ?_) (AllReadyH.nil))
        · have kcv := run_conv_const (P := Tryd.prog) X27 g9 22 5 #[.int .u8 74, .int .u8 101, .int .u8 102, .int .u8 101] 4 4 J0_29.out.1 Tryd.underlying22 Tryd.underlying5
          change (convert _ _ _).run _ _ = .ok _ (frz X27 g9 4) at kcv
          have HNEX : g27 ≠ g9 := by have := HNE.out; omega
          have S_31 := kept (HKG.out X27 g9 4 S_28.out J0_29.out.2)
          have J_32 := kept ((show Mem (frz X27 g9 4) g9 (some ⟨g9, 0, none⟩) jefeB from (mem_blk (l := jefeB) J0_29.out.1).frz _ _))
          have T0_33 := kept ((show _ ∧ _ from ⟨T0_27.out.1.grown (frz_gb X27 g9 4) (fun e => HNEX (by injection e)), T0_27.out.2⟩))
          clear S_28 J0_29 T0_27
          clear HNEX
          go_simp
          clear kcv
          refine hK.out _ _ S_31.out (fun _ => ?_)
          clear hK K
          try simp only [Act.put, List.getElem_toArray, List.getElem_cons_zero, List.getElem_cons_succ, List.setIfInBounds_toArray, List.set_cons_zero, List.set_cons_succ]
          obtain ⟨X30, hX30⟩ : ∃ Y, frz X27 g9 4 = Y := ⟨_, rfl⟩
          rw [hX30] at S_31
          rw [hX30] at J_32
          rw [hX30] at T0_33
          rw [hX30]
          clear hX30
          refine wpAnyH_ready (rs := [44]) (by kernel_rfl) (by simp) ?_
          refine AllReadyH.cons rfl (fun K hK => ?_) (AllReadyH.nil)
          have kcv := run_conv_const (P := Tryd.prog) X30 g27 22 5 #[.int .u8 119, .int .u8 104, .int .u8 97, .int .u8 116, .int .u8 32, .int .u8 100, .int .u8 111, .int .u8 32, .int .u8 121, .int .u8 97, .int .u8 32, .int .u8 119, .int .u8 97, .int .u8 110, .int .u8 116, .int .u8 32, .int .u8 102, .int .u8 111, .int .u8 114, .int .u8 32, .int .u8 110, .int .u8 111, .int .u8 116, .int .u8 104, .int .u8 105, .int .u8 110, .int .u8 103, .int .u8 63] 28 28 T0_33.out.1 Tryd.underlying22 Tryd.underlying5
          change (convert _ _ _).run _ _ = .ok _ (frz X30 g27 28) at kcv
          have S_35 := kept (HKG.out X30 g27 28 S_31.out T0_33.out.2)
          have T_36 := kept ((show Mem (frz X30 g27 28) g27 (some ⟨g27, 0, none⟩) wantB from (mem_blk (l := wantB) T0_33.out.1).frz _ _))
          have J_37 := kept (J_32.out.frz g27 28)
          clear S_31 J_32 T0_33
          go_simp
          clear kcv
          refine hK.out _ _ S_35.out (fun _ => ?_)
          clear hK K
          try simp only [Act.put, List.getElem_toArray, List.getElem_cons_zero, List.getElem_cons_succ, List.setIfInBounds_toArray, List.set_cons_zero, List.set_cons_succ]
          obtain ⟨X34, hX34⟩ : ∃ Y, frz X30 g27 28 = Y := ⟨_, rfl⟩
          rw [hX34] at S_35
          rw [hX34] at T_36
          rw [hX34] at J_37
          rw [hX34]
          clear hX34
          refine wpAnyH_ready (rs := [45]) (by kernel_rfl) (by simp) ?_
          refine AllReadyH.cons rfl (fun K hK => ?_) (AllReadyH.nil)
          go_simp
          have hba38 : Below X34.heap.size X34 (X34.alloc (.cells #[.slice (some ⟨g27, 0, none⟩) 28 28] 22)) := (Below.refl _ X34).alloc (Nat.le_refl _) _
          have L_38 := kept (show MemM (X34.alloc (.cells #[.slice (some ⟨g27, 0, none⟩) 28 28] 22)) X34.heap.size (some ⟨X34.heap.size, 0, none⟩) [wantB] from memM_one (w := X34) (g := X34.heap.size) (c1 := 28) rfl T_36.out (by decide))
          have S_39 := kept (HKEEP.out _ _ S_35.out hba38)
          clear S_35
          have T_40 := kept (T_36.out.below0 hba38)
          clear T_36
          have J_41 := kept (J_37.out.below0 hba38)
          clear J_37
          refine hK.out _ _ S_39.out (fun _ => ?_)
          clear hK K
          try simp only [Act.put, List.getElem_toArray, List.getElem_cons_zero, List.getElem_cons_succ, List.setIfInBounds_toArray, List.set_cons_zero, List.set_cons_succ]
          obtain ⟨X38, hX38⟩ : ∃ Y, X34.alloc (.cells #[.slice (some ⟨g27, 0, none⟩) 28 28] 22) = Y := ⟨_, rfl⟩
          obtain ⟨g38, hg38⟩ : ∃ g, X34.heap.size = g := ⟨_, rfl⟩
          rw [hX38] at S_39
          rw [hX38] at T_40
          rw [hX38] at J_41
          rw [hX38] at L_38
          rw [hg38] at L_38
          rw [hX38, hg38]
          clear hX38 hg38 hba38
          refine wpAnyH_ready (rs := [46]) (by kernel_rfl) (by simp) ?_
          refine AllReadyH.cons rfl (fun K hK => ?_) (AllReadyH.nil)
          go_simp
          refine (HC1.out X38 g9 g38 S_39.out J_41.out L_38.out).mono ?_
          rintro e Y42 ⟨rfl, hb42⟩
          have S_43 := kept (HKEEP.out _ _ S_39.out hb42)
          clear S_39
          refine hK.out _ _ S_43.out (fun _ => ?_)
          clear hK K
          try simp only [Act.put, List.getElem_toArray, List.getElem_cons_zero, List.getElem_cons_succ, List.setIfInBounds_toArray, List.set_cons_zero, List.set_cons_succ]
          refine listed_as #[true, true, true, true, true, true, true, true, true, true, true, true, true, true, true, true, true, true, true, true, true, true, true, true, true, true, true, true, true, true, true, true, true, true, true, true, true, true, true, true, true, true, true, true, true, true, true, false, false, false, false, false, false, false, false, false, false, false, false] (by kernel_rfl) ?_
          exact REST g9 g27 g38 Y42 S_43.out
        · have kcv := run_conv_const (P := Tryd.prog) X27 g27 22 5 #[.int .u8 119, .int .u8 104, .int .u8 97, .int .u8 116, .int .u8 32, .int .u8 100, .int .u8 111, .int .u8 32, .int .u8 121, .int .u8 97, .int .u8 32, .int .u8 119, .int .u8 97, .int .u8 110, .int .u8 116, .int .u8 32, .int .u8 102, .int .u8 111, .int .u8 114, .int .u8 32, .int .u8 110, .int .u8 111, .int .u8 116, .int .u8 104, .int .u8 105, .int .u8 110, .int .u8 103, .int .u8 63] 28 28 T0_27.out.1 Tryd.underlying22 Tryd.underlying5
          change (convert _ _ _).run _ _ = .ok _ (frz X27 g27 28) at kcv
          have HNEX : g9 ≠ g27 := by have := HNE.out; omega
          have S_45 := kept (HKG.out X27 g27 28 S_28.out T0_27.out.2)
          have T_46 := kept ((show Mem (frz X27 g27 28) g27 (some ⟨g27, 0, none⟩) wantB from (mem_blk (l := wantB) T0_27.out.1).frz _ _))
          have J0_47 := kept ((show _ ∧ _ from ⟨J0_29.out.1.grown (frz_gb X27 g27 28) (fun e => HNEX (by injection e)), J0_29.out.2⟩))
          clear S_28 J0_29 T0_27
          clear HNEX
          go_simp
          clear kcv
          refine hK.out _ _ S_45.out (fun _ => ?_)
          clear hK K
          try simp only [Act.put, List.getElem_toArray, List.getElem_cons_zero, List.getElem_cons_succ, List.setIfInBounds_toArray, List.set_cons_zero, List.set_cons_succ]
          obtain ⟨X44, hX44⟩ : ∃ Y, frz X27 g27 28 = Y := ⟨_, rfl⟩
          rw [hX44] at S_45
          rw [hX44] at T_46
          rw [hX44] at J0_47
          rw [hX44]
          clear hX44
          refine wpAnyH_ready (rs := [41, 45]) (by kernel_rfl) (by simp) ?_
          refine AllReadyH.cons rfl (fun K hK => ?_) (AllReadyH.cons rfl (fun K hK => ?_) (AllReadyH.nil))
          · have kcv := run_conv_const (P := Tryd.prog) X44 g9 22 5 #[.int .u8 74, .int .u8 101, .int .u8 102, .int .u8 101] 4 4 J0_47.out.1 Tryd.underlying22 Tryd.underlying5
            change (convert _ _ _).run _ _ = .ok _ (frz X44 g9 4) at kcv
            have S_49 := kept (HKG.out X44 g9 4 S_45.out J0_47.out.2)
            have J_50 := kept ((show Mem (frz X44 g9 4) g9 (some ⟨g9, 0, none⟩) jefeB from (mem_blk (l := jefeB) J0_47.out.1).frz _ _))
            have T_51 := kept (T_46.out.frz g9 4)
            clear S_45 T_46 J0_47
            go_simp
            clear kcv
            refine hK.out _ _ S_49.out (fun _ => ?_)
            clear hK K
            try simp only [Act.put, List.getElem_toArray, List.getElem_cons_zero, List.getElem_cons_succ, List.setIfInBounds_toArray, List.set_cons_zero, List.set_cons_succ]
            obtain ⟨X48, hX48⟩ : ∃ Y, frz X44 g9 4 = Y := ⟨_, rfl⟩
            rw [hX48] at S_49
            rw [hX48] at J_50
            rw [hX48] at T_51
            rw [hX48]
            clear hX48
            refine wpAnyH_ready (rs := [45]) (by kernel_rfl) (by simp) ?_
            refine AllReadyH.cons rfl (fun K hK => ?_) (AllReadyH.nil)
            go_simp
            have hba52 : Below X48.heap.size X48 (X48.alloc (.cells #[.slice (some ⟨g27, 0, none⟩) 28 28] 22)) := (Below.refl _ X48).alloc (Nat.le_refl _) _
            have L_52 := kept (show MemM (X48.alloc (.cells #[.slice (some ⟨g27, 0, none⟩) 28 28] 22)) X48.heap.size (some ⟨X48.heap.size, 0, none⟩) [wantB] from memM_one (w := X48) (g := X48.heap.size) (c1 := 28) rfl T_51.out (by decide))
            have S_53 := kept (HKEEP.out _ _ S_49.out hba52)
            clear S_49
            have J_54 := kept (J_50.out.below0 hba52)
            clear J_50
            have T_55 := kept (T_51.out.below0 hba52)
            clear T_51
            refine hK.out _ _ S_53.out (fun _ => ?_)
            clear hK K
            try simp only [Act.put, List.getElem_toArray, List.getElem_cons_zero, List.getElem_cons_succ, List.setIfInBounds_toArray, List.set_cons_zero, List.set_cons_succ]
            obtain ⟨X52, hX52⟩ : ∃ Y, X48.alloc (.cells #[.slice (some ⟨g27, 0, none⟩) 28 28] 22) = Y := ⟨_, rfl⟩
            obtain ⟨g52, hg52⟩ : ∃ g, X48.heap.size = g := ⟨_, rfl⟩
            rw [hX52] at S_53
            rw [hX52] at J_54
            rw [hX52] at T_55
            rw [hX52] at L_52
            rw [hg52] at L_52
            rw [hX52, hg52]
            clear hX52 hg52 hba52
            refine wpAnyH_ready (rs := [46]) (by kernel_rfl) (by simp) ?_
            refine AllReadyH.cons rfl (fun K hK => ?_) (AllReadyH.nil)
            go_simp
            refine (HC1.out X52 g9 g52 S_53.out J_54.out L_52.out).mono ?_
            rintro e Y56 ⟨rfl, hb56⟩
            have S_57 := kept (HKEEP.out _ _ S_53.out hb56)
            clear S_53
            refine hK.out _ _ S_57.out (fun _ => ?_)
            clear hK K
            try simp only [Act.put, List.getElem_toArray, List.getElem_cons_zero, List.getElem_cons_succ, List.setIfInBounds_toArray, List.set_cons_zero, List.set_cons_succ]
            refine listed_as #[true, true, true, true, true, true, true, true, true, true, true, true, true, true, true, true, true, true, true, true, true, true, true, true, true, true, true, true, true, true, true, true, true, true, true, true, true, true, true, true, true, true, true, true, true, true, true, false, false, false, false, false, false, false, false, false, false, false, false] (by kernel_rfl) ?_
            exact REST g9 g27 g52 Y56 S_57.out
          · go_simp
            have hba58 : Below X44.heap.size X44 (X44.alloc (.cells #[.slice (some ⟨g27, 0, none⟩) 28 28] 22)) := (Below.refl _ X44).alloc (Nat.le_refl _) _
            have L_58 := kept (show MemM (X44.alloc (.cells #[.slice (some ⟨g27, 0, none⟩) 28 28] 22)) X44.heap.size (some ⟨X44.heap.size, 0, none⟩) [wantB] from memM_one (w := X44) (g := X44.heap.size) (c1 := 28) rfl T_46.out (by decide))
            have S_59 := kept (HKEEP.out _ _ S_45.out hba58)
            clear S_45
            have T_60 := kept (T_46.out.below0 hba58)
            clear T_46
            have J0_61 := kept ((show _ ∧ _ from ⟨J0_47.out.1.below hba58 J0_47.out.1.lt, J0_47.out.2⟩))
            clear J0_47
            refine hK.out _ _ S_59.out (fun _ => ?_)
            clear hK K
            try simp only [Act.put, List.getElem_toArray, List.getElem_cons_zero, List.getElem_cons_succ, List.setIfInBounds_toArray, List.set_cons_zero, List.set_cons_succ]
            obtain ⟨X58, hX58⟩ : ∃ Y, X44.alloc (.cells #[.slice (some ⟨g27, 0, none⟩) 28 28] 22) = Y := ⟨_, rfl⟩
            obtain ⟨g58, hg58⟩ : ∃ g, X44.heap.size = g := ⟨_, rfl⟩
            rw [hX58] at S_59
            rw [hX58] at T_60
            rw [hX58] at J0_61
            rw [hX58] at L_58
            rw [hg58] at L_58
            rw [hX58, hg58]
            clear hX58 hg58 hba58
            refine wpAnyH_ready (rs := [41]) (by kernel_rfl) (by simp) ?_
            refine AllReadyH.cons rfl (fun K hK => ?_) (AllReadyH.nil)
            have kcv := run_conv_const (P := Tryd.prog) X58 g9 22 5 #[.int .u8 74, .int .u8 101, .int .u8 102, .int .u8 101] 4 4 J0_61.out.1 Tryd.underlying22 Tryd.underlying5
            change (convert _ _ _).run _ _ = .ok _ (frz X58 g9 4) at kcv
            have S_63 := kept (HKG.out X58 g9 4 S_59.out J0_61.out.2)
            have J_64 := kept ((show Mem (frz X58 g9 4) g9 (some ⟨g9, 0, none⟩) jefeB from (mem_blk (l := jefeB) J0_61.out.1).frz _ _))
            have T_65 := kept (T_60.out.frz g9 4)
            have L_66 := kept (L_58.out.frz g9 4)
            clear S_59 T_60 J0_61 L_58
            go_simp
            clear kcv
            refine hK.out _ _ S_63.out (fun _ => ?_)
            clear hK K
            try simp only [Act.put, List.getElem_toArray, List.getElem_cons_zero, List.getElem_cons_succ, List.setIfInBounds_toArray, List.set_cons_zero, List.set_cons_succ]
            obtain ⟨X62, hX62⟩ : ∃ Y, frz X58 g9 4 = Y := ⟨_, rfl⟩
            rw [hX62] at S_63
            rw [hX62] at J_64
            rw [hX62] at T_65
            rw [hX62] at L_66
            rw [hX62]
            clear hX62
            refine wpAnyH_ready (rs := [46]) (by kernel_rfl) (by simp) ?_
            refine AllReadyH.cons rfl (fun K hK => ?_) (AllReadyH.nil)
            go_simp
            refine (HC1.out X62 g9 g58 S_63.out J_64.out L_66.out).mono ?_
            rintro e Y67 ⟨rfl, hb67⟩
            have S_68 := kept (HKEEP.out _ _ S_63.out hb67)
            clear S_63
            refine hK.out _ _ S_68.out (fun _ => ?_)
            clear hK K
            try simp only [Act.put, List.getElem_toArray, List.getElem_cons_zero, List.getElem_cons_succ, List.setIfInBounds_toArray, List.set_cons_zero, List.set_cons_succ]
            refine listed_as #[true, true, true, true, true, true, true, true, true, true, true, true, true, true, true, true, true, true, true, true, true, true, true, true, true, true, true, true, true, true, true, true, true, true, true, true, true, true, true, true, true, true, true, true, true, true, true, false, false, false, false, false, false, false, false, false, false, false, false] (by kernel_rfl) ?_
            exact REST g9 g27 g58 Y67 S_68.out
    · go_simp
      have hba69 : Below Y7.heap.size Y7 (Y7.alloc (.cells #[.int .u8 119, .int .u8 104, .int .u8 97, .int .u8 116, .int .u8 32, .int .u8 100, .int .u8 111, .int .u8 32, .int .u8 121, .int .u8 97, .int .u8 32, .int .u8 119, .int .u8 97, .int .u8 110, .int .u8 116, .int .u8 32, .int .u8 102, .int .u8 111, .int .u8 114, .int .u8 32, .int .u8 110, .int .u8 111, .int .u8 116, .int .u8 104, .int .u8 105, .int .u8 110, .int .u8 103, .int .u8 63] 5)) := (Below.refl _ Y7).alloc (Nat.le_refl _) _
      have T0_69 := kept (show Blk (Y7.alloc (.cells #[.int .u8 119, .int .u8 104, .int .u8 97, .int .u8 116, .int .u8 32, .int .u8 100, .int .u8 111, .int .u8 32, .int .u8 121, .int .u8 97, .int .u8 32, .int .u8 119, .int .u8 97, .int .u8 110, .int .u8 116, .int .u8 32, .int .u8 102, .int .u8 111, .int .u8 114, .int .u8 32, .int .u8 110, .int .u8 111, .int .u8 116, .int .u8 104, .int .u8 105, .int .u8 110, .int .u8 103, .int .u8 63] 5)) Y7.heap.size 5 #[.int .u8 119, .int .u8 104, .int .u8 97, .int .u8 116, .int .u8 32, .int .u8 100, .int .u8 111, .int .u8 32, .int .u8 121, .int .u8 97, .int .u8 32, .int .u8 119, .int .u8 97, .int .u8 110, .int .u8 116, .int .u8 32, .int .u8 102, .int .u8 111, .int .u8 114, .int .u8 32, .int .u8 110, .int .u8 111, .int .u8 116, .int .u8 104, .int .u8 105, .int .u8 110, .int .u8 103, .int .u8 63] ∧ gD < Y7.heap.size from ⟨Blk.new Y7 _ _, S_8.out.2.lt⟩)
      have S_70 := kept (HKEEP.out _ _ S_8.out hba69)
      refine hK.out _ _ S_70.out (fun _ => ?_)
      clear hK K
      try simp only [Act.put, List.getElem_toArray, List.getElem_cons_zero, List.getElem_cons_succ, List.setIfInBounds_toArray, List.set_cons_zero, List.set_cons_succ]
      obtain ⟨X69, hX69⟩ : ∃ Y, Y7.alloc (.cells #[.int .u8 119, .int .u8 104, .int .u8 97, .int .u8 116, .int .u8 32, .int .u8 100, .int .u8 111, .int .u8 32, .int .u8 121, .int .u8 97, .int .u8 32, .int .u8 119, .int .u8 97, .int .u8 110, .int .u8 116, .int .u8 32, .int .u8 102, .int .u8 111, .int .u8 114, .int .u8 32, .int .u8 110, .int .u8 111, .int .u8 116, .int .u8 104, .int .u8 105, .int .u8 110, .int .u8 103, .int .u8 63] 5) = Y := ⟨_, rfl⟩
      obtain ⟨g69, hg69⟩ : ∃ g, Y7.heap.size = g := ⟨_, rfl⟩
      rw [hX69] at S_70
      rw [hX69] at T0_69
      rw [hg69] at T0_69
      rw [hX69, hg69]
      clear hX69 hg69 hba69
      refine wpAnyH_ready (rs := [40, 44]) (by kernel_rfl) (by simp) ?_
      refine AllReadyH.cons rfl (fun K hK => ?_) (AllReadyH.cons rfl (fun K hK => ?_) (AllReadyH.nil))
      · have hlt := T0_69.out.1.lt
        go_simp
        have hba71 : Below X69.heap.size X69 (X69.alloc (.cells #[.int .u8 74, .int .u8 101, .int .u8 102, .int .u8 101] 5)) := (Below.refl _ X69).alloc (Nat.le_refl _) _
        have J0_71 := kept (show Blk (X69.alloc (.cells #[.int .u8 74, .int .u8 101, .int .u8 102, .int .u8 101] 5)) X69.heap.size 5 #[.int .u8 74, .int .u8 101, .int .u8 102, .int .u8 101] ∧ gD < X69.heap.size from ⟨Blk.new X69 _ _, S_70.out.2.lt⟩)
        have S_72 := kept (HKEEP.out _ _ S_70.out hba71)
        clear S_70
        have T0_73 := kept ((show _ ∧ _ from ⟨T0_69.out.1.below hba71 T0_69.out.1.lt, T0_69.out.2⟩))
        clear T0_69
        refine hK.out _ _ S_72.out (fun _ => ?_)
        clear hK K
        try simp only [Act.put, List.getElem_toArray, List.getElem_cons_zero, List.getElem_cons_succ, List.setIfInBounds_toArray, List.set_cons_zero, List.set_cons_succ]
        obtain ⟨X71, hX71⟩ : ∃ Y, X69.alloc (.cells #[.int .u8 74, .int .u8 101, .int .u8 102, .int .u8 101] 5) = Y := ⟨_, rfl⟩
        obtain ⟨g71, hg71⟩ : ∃ g, X69.heap.size = g := ⟨_, rfl⟩
        rw [hX71] at S_72
        rw [hX71] at T0_73
        rw [hX71] at J0_71
        rw [hg71] at hlt
        rw [hg71] at J0_71
        rw [hX71, hg71]
        clear hX71 hg71 hba71
        have HNE := kept (show g69 ≠ g71 by omega)
        clear hlt
        refine wpAnyH_ready (rs := [41, 44]) (by kernel_rfl) (by simp) ?_
        refine AllReadyH.cons rfl (fun K hK => ?_) (AllReadyH.cons rfl (fun K hK => ?_) (AllReadyH.nil))
        · have kcv := run_conv_const (P := Tryd.prog) X71 g71 22 5 #[.int .u8 74, .int .u8 101, .int .u8 102, .int .u8 101] 4 4 J0_71.out.1 Tryd.underlying22 Tryd.underlying5
          change (convert _ _ _).run _ _ = .ok _ (frz X71 g71 4) at kcv
          have HNEX : g69 ≠ g71 := by have := HNE.out; omega
          have S_75 := kept (HKG.out X71 g71 4 S_72.out J0_71.out.2)
          have J_76 := kept ((show Mem (frz X71 g71 4) g71 (some ⟨g71, 0, none⟩) jefeB from (mem_blk (l := jefeB) J0_71.out.1).frz _ _))
          have T0_77 := kept ((show _ ∧ _ from ⟨T0_73.out.1.grown (frz_gb X71 g71 4) (fun e => HNEX (by injection e)), T0_73.out.2⟩))
          clear S_72 T0_73 J0_71
          clear HNEX
          go_simp
          clear kcv
          refine hK.out _ _ S_75.out (fun _ => ?_)
          clear hK K
          try simp only [Act.put, List.getElem_toArray, List.getElem_cons_zero, List.getElem_cons_succ, List.setIfInBounds_toArray, List.set_cons_zero, List.set_cons_succ]
          obtain ⟨X74, hX74⟩ : ∃ Y, frz X71 g71 4 = Y := ⟨_, rfl⟩
          rw [hX74] at S_75
          rw [hX74] at J_76
          rw [hX74] at T0_77
          rw [hX74]
          clear hX74
          refine wpAnyH_ready (rs := [44]) (by kernel_rfl) (by simp) ?_
          refine AllReadyH.cons rfl (fun K hK => ?_) (AllReadyH.nil)
          have kcv := run_conv_const (P := Tryd.prog) X74 g69 22 5 #[.int .u8 119, .int .u8 104, .int .u8 97, .int .u8 116, .int .u8 32, .int .u8 100, .int .u8 111, .int .u8 32, .int .u8 121, .int .u8 97, .int .u8 32, .int .u8 119, .int .u8 97, .int .u8 110, .int .u8 116, .int .u8 32, .int .u8 102, .int .u8 111, .int .u8 114, .int .u8 32, .int .u8 110, .int .u8 111, .int .u8 116, .int .u8 104, .int .u8 105, .int .u8 110, .int .u8 103, .int .u8 63] 28 28 T0_77.out.1 Tryd.underlying22 Tryd.underlying5
          change (convert _ _ _).run _ _ = .ok _ (frz X74 g69 28) at kcv
          have S_79 := kept (HKG.out X74 g69 28 S_75.out T0_77.out.2)
          have T_80 := kept ((show Mem (frz X74 g69 28) g69 (some ⟨g69, 0, none⟩) wantB from (mem_blk (l := wantB) T0_77.out.1).frz _ _))
          have J_81 := kept (J_76.out.frz g69 28)
          clear S_75 J_76 T0_77
          go_simp
          clear kcv
          refine hK.out _ _ S_79.out (fun _ => ?_)
          clear hK K
          try simp only [Act.put, List.getElem_toArray, List.getElem_cons_zero, List.getElem_cons_succ, List.setIfInBounds_toArray, List.set_cons_zero, List.set_cons_succ]
          obtain ⟨X78, hX78⟩ : ∃ Y, frz X74 g69 28 = Y := ⟨_, rfl⟩
          rw [hX78] at S_79
          rw [hX78] at T_80
          rw [hX78] at J_81
          rw [hX78]
          clear hX78
          refine wpAnyH_ready (rs := [45]) (by kernel_rfl) (by simp) ?_
          refine AllReadyH.cons rfl (fun K hK => ?_) (AllReadyH.nil)
          go_simp
          have hba82 : Below X78.heap.size X78 (X78.alloc (.cells #[.slice (some ⟨g69, 0, none⟩) 28 28] 22)) := (Below.refl _ X78).alloc (Nat.le_refl _) _
          have L_82 := kept (show MemM (X78.alloc (.cells #[.slice (some ⟨g69, 0, none⟩) 28 28] 22)) X78.heap.size (some ⟨X78.heap.size, 0, none⟩) [wantB] from memM_one (w := X78) (g := X78.heap.size) (c1 := 28) rfl T_80.out (by decide))
          have S_83 := kept (HKEEP.out _ _ S_79.out hba82)
          clear S_79
          have T_84 := kept (T_80.out.below0 hba82)
          clear T_80
          have J_85 := kept (J_81.out.below0 hba82)
          clear J_81
          refine hK.out _ _ S_83.out (fun _ => ?_)
          clear hK K
          try simp only [Act.put, List.getElem_toArray, List.getElem_cons_zero, List.getElem_cons_succ, List.setIfInBounds_toArray, List.set_cons_zero, List.set_cons_succ]
          obtain ⟨X82, hX82⟩ : ∃ Y, X78.alloc (.cells #[.slice (some ⟨g69, 0, none⟩) 28 28] 22) = Y := ⟨_, rfl⟩
          obtain ⟨g82, hg82⟩ : ∃ g, X78.heap.size = g := ⟨_, rfl⟩
          rw [hX82] at S_83
          rw [hX82] at T_84
          rw [hX82] at J_85
          rw [hX82] at L_82
          rw [hg82] at L_82
          rw [hX82, hg82]
          clear hX82 hg82 hba82
          refine wpAnyH_ready (rs := [46]) (by kernel_rfl) (by simp) ?_
          refine AllReadyH.cons rfl (fun K hK => ?_) (AllReadyH.nil)
          go_simp
          refine (HC1.out X82 g71 g82 S_83.out J_85.out L_82.out).mono ?_
          rintro e Y86 ⟨rfl, hb86⟩
          have S_87 := kept (HKEEP.out _ _ S_83.out hb86)
          clear S_83
          refine hK.out _ _ S_87.out (fun _ => ?_)
          clear hK K
          try simp only [Act.put, List.getElem_toArray, List.getElem_cons_zero, List.getElem_cons_succ, List.setIfInBounds_toArray, List.set_cons_zero, List.set_cons_succ]
          refine listed_as #[true, true, true, true, true, true, true, true, true, true, true, true, true, true, true, true, true, true, true, true, true, true, true, true, true, true, true, true, true, true, true, true, true, true, true, true, true, true, true, true, true, true, true, true, true, true, true, false, false, false, false, false, false, false, false, false, false, false, false] (by kernel_rfl) ?_
          exact REST g71 g69 g82 Y86 S_87.out
        · have kcv := run_conv_const (P := Tryd.prog) X71 g69 22 5 #[.int .u8 119, .int .u8 104, .int .u8 97, .int .u8 116, .int .u8 32, .int .u8 100, .int .u8 111, .int .u8 32, .int .u8 121, .int .u8 97, .int .u8 32, .int .u8 119, .int .u8 97, .int .u8 110, .int .u8 116, .int .u8 32, .int .u8 102, .int .u8 111, .int .u8 114, .int .u8 32, .int .u8 110, .int .u8 111, .int .u8 116, .int .u8 104, .int .u8 105, .int .u8 110, .int .u8 103, .int .u8 63] 28 28 T0_73.out.1 Tryd.underlying22 Tryd.underlying5
          change (convert _ _ _).run _ _ = .ok _ (frz X71 g69 28) at kcv
          have HNEX : g71 ≠ g69 := by have := HNE.out; omega
          have S_89 := kept (HKG.out X71 g69 28 S_72.out T0_73.out.2)
          have T_90 := kept ((show Mem (frz X71 g69 28) g69 (some ⟨g69, 0, none⟩) wantB from (mem_blk (l := wantB) T0_73.out.1).frz _ _))
          have J0_91 := kept ((show _ ∧ _ from ⟨J0_71.out.1.grown (frz_gb X71 g69 28) (fun e => HNEX (by injection e)), J0_71.out.2⟩))
          clear S_72 T0_73 J0_71
          clear HNEX
          go_simp
          clear kcv
          refine hK.out _ _ S_89.out (fun _ => ?_)
          clear hK K
          try simp only [Act.put, List.getElem_toArray, List.getElem_cons_zero, List.getElem_cons_succ, List.setIfInBounds_toArray, List.set_cons_zero, List.set_cons_succ]
          obtain ⟨X88, hX88⟩ : ∃ Y, frz X71 g69 28 = Y := ⟨_, rfl⟩
          rw [hX88] at S_89
          rw [hX88] at T_90
          rw [hX88] at J0_91
          rw [hX88]
          clear hX88
          refine wpAnyH_ready (rs := [41, 45]) (by kernel_rfl) (by simp) ?_
          refine AllReadyH.cons rfl (fun K hK => ?_) (AllReadyH.cons rfl (fun K hK => ?_) (AllReadyH.nil))
          · have kcv := run_conv_const (P := Tryd.prog) X88 g71 22 5 #[.int .u8 74, .int .u8 101, .int .u8 102, .int .u8 101] 4 4 J0_91.out.1 Tryd.underlying22 Tryd.underlying5
            change (convert _ _ _).run _ _ = .ok _ (frz X88 g71 4) at kcv
            have S_93 := kept (HKG.out X88 g71 4 S_89.out J0_91.out.2)
            have J_94 := kept ((show Mem (frz X88 g71 4) g71 (some ⟨g71, 0, none⟩) jefeB from (mem_blk (l := jefeB) J0_91.out.1).frz _ _))
            have T_95 := kept (T_90.out.frz g71 4)
            clear S_89 T_90 J0_91
            go_simp
            clear kcv
            refine hK.out _ _ S_93.out (fun _ => ?_)
            clear hK K
            try simp only [Act.put, List.getElem_toArray, List.getElem_cons_zero, List.getElem_cons_succ, List.setIfInBounds_toArray, List.set_cons_zero, List.set_cons_succ]
            obtain ⟨X92, hX92⟩ : ∃ Y, frz X88 g71 4 = Y := ⟨_, rfl⟩
            rw [hX92] at S_93
            rw [hX92] at J_94
            rw [hX92] at T_95
            rw [hX92]
            clear hX92
            refine wpAnyH_ready (rs := [45]) (by kernel_rfl) (by simp) ?_
            refine AllReadyH.cons rfl (fun K hK => ?_) (AllReadyH.nil)
            go_simp
            have hba96 : Below X92.heap.size X92 (X92.alloc (.cells #[.slice (some ⟨g69, 0, none⟩) 28 28] 22)) := (Below.refl _ X92).alloc (Nat.le_refl _) _
            have L_96 := kept (show MemM (X92.alloc (.cells #[.slice (some ⟨g69, 0, none⟩) 28 28] 22)) X92.heap.size (some ⟨X92.heap.size, 0, none⟩) [wantB] from memM_one (w := X92) (g := X92.heap.size) (c1 := 28) rfl T_95.out (by decide))
            have S_97 := kept (HKEEP.out _ _ S_93.out hba96)
            clear S_93
            have J_98 := kept (J_94.out.below0 hba96)
            clear J_94
            have T_99 := kept (T_95.out.below0 hba96)
            clear T_95
            refine hK.out _ _ S_97.out (fun _ => ?_)
            clear hK K
            try simp only [Act.put, List.getElem_toArray, List.getElem_cons_zero, List.getElem_cons_succ, List.setIfInBounds_toArray, List.set_cons_zero, List.set_cons_succ]
            obtain ⟨X96, hX96⟩ : ∃ Y, X92.alloc (.cells #[.slice (some ⟨g69, 0, none⟩) 28 28] 22) = Y := ⟨_, rfl⟩
            obtain ⟨g96, hg96⟩ : ∃ g, X92.heap.size = g := ⟨_, rfl⟩
            rw [hX96] at S_97
            rw [hX96] at J_98
            rw [hX96] at T_99
            rw [hX96] at L_96
            rw [hg96] at L_96
            rw [hX96, hg96]
            clear hX96 hg96 hba96
            refine wpAnyH_ready (rs := [46]) (by kernel_rfl) (by simp) ?_
            refine AllReadyH.cons rfl (fun K hK => ?_) (AllReadyH.nil)
            go_simp
            refine (HC1.out X96 g71 g96 S_97.out J_98.out L_96.out).mono ?_
            rintro e Y100 ⟨rfl, hb100⟩
            have S_101 := kept (HKEEP.out _ _ S_97.out hb100)
            clear S_97
            refine hK.out _ _ S_101.out (fun _ => ?_)
            clear hK K
            try simp only [Act.put, List.getElem_toArray, List.getElem_cons_zero, List.getElem_cons_succ, List.setIfInBounds_toArray, List.set_cons_zero, List.set_cons_succ]
            refine listed_as #[true, true, true, true, true, true, true, true, true, true, true, true, true, true, true, true, true, true, true, true, true, true, true, true, true, true, true, true, true, true, true, true, true, true, true, true, true, true, true, true, true, true, true, true, true, true, true, false, false, false, false, false, false, false, false, false, false, false, false] (by kernel_rfl) ?_
            exact REST g71 g69 g96 Y100 S_101.out
          · go_simp
            have hba102 : Below X88.heap.size X88 (X88.alloc (.cells #[.slice (some ⟨g69, 0, none⟩) 28 28] 22)) := (Below.refl _ X88).alloc (Nat.le_refl _) _
            have L_102 := kept (show MemM (X88.alloc (.cells #[.slice (some ⟨g69, 0, none⟩) 28 28] 22)) X88.heap.size (some ⟨X88.heap.size, 0, none⟩) [wantB] from memM_one (w := X88) (g := X88.heap.size) (c1 := 28) rfl T_90.out (by decide))
            have S_103 := kept (HKEEP.out _ _ S_89.out hba102)
            clear S_89
            have T_104 := kept (T_90.out.below0 hba102)
            clear T_90
            have J0_105 := kept ((show _ ∧ _ from ⟨J0_91.out.1.below hba102 J0_91.out.1.lt, J0_91.out.2⟩))
            clear J0_91
            refine hK.out _ _ S_103.out (fun _ => ?_)
            clear hK K
            try simp only [Act.put, List.getElem_toArray, List.getElem_cons_zero, List.getElem_cons_succ, List.setIfInBounds_toArray, List.set_cons_zero, List.set_cons_succ]
            obtain ⟨X102, hX102⟩ : ∃ Y, X88.alloc (.cells #[.slice (some ⟨g69, 0, none⟩) 28 28] 22) = Y := ⟨_, rfl⟩
            obtain ⟨g102, hg102⟩ : ∃ g, X88.heap.size = g := ⟨_, rfl⟩
            rw [hX102] at S_103
            rw [hX102] at T_104
            rw [hX102] at J0_105
            rw [hX102] at L_102
            rw [hg102] at L_102
            rw [hX102, hg102]
            clear hX102 hg102 hba102
            refine wpAnyH_ready (rs := [41]) (by kernel_rfl) (by simp) ?_
            refine AllReadyH.cons rfl (fun K hK => ?_) (AllReadyH.nil)
            have kcv := run_conv_const (P := Tryd.prog) X102 g71 22 5 #[.int .u8 74, .int .u8 101, .int .u8 102, .int .u8 101] 4 4 J0_105.out.1 Tryd.underlying22 Tryd.underlying5
            change (convert _ _ _).run _ _ = .ok _ (frz X102 g71 4) at kcv
            have S_107 := kept (HKG.out X102 g71 4 S_103.out J0_105.out.2)
            have J_108 := kept ((show Mem (frz X102 g71 4) g71 (some ⟨g71, 0, none⟩) jefeB from (mem_blk (l := jefeB) J0_105.out.1).frz _ _))
            have T_109 := kept (T_104.out.frz g71 4)
            have L_110 := kept (L_102.out.frz g71 4)
            clear S_103 T_104 J0_105 L_102
            go_simp
            clear kcv
            refine hK.out _ _ S_107.out (fun _ => ?_)
            clear hK K
            try simp only [Act.put, List.getElem_toArray, List.getElem_cons_zero, List.getElem_cons_succ, List.setIfInBounds_toArray, List.set_cons_zero, List.set_cons_succ]
            obtain ⟨X106, hX106⟩ : ∃ Y, frz X102 g71 4 = Y := ⟨_, rfl⟩
            rw [hX106] at S_107
            rw [hX106] at J_108
            rw [hX106] at T_109
            rw [hX106] at L_110
            rw [hX106]
            clear hX106
            refine wpAnyH_ready (rs := [46]) (by kernel_rfl) (by simp) ?_
            refine AllReadyH.cons rfl (fun K hK => ?_) (AllReadyH.nil)
            go_simp
            refine (HC1.out X106 g71 g102 S_107.out J_108.out L_110.out).mono ?_
            rintro e Y111 ⟨rfl, hb111⟩
            have S_112 := kept (HKEEP.out _ _ S_107.out hb111)
            clear S_107
            refine hK.out _ _ S_112.out (fun _ => ?_)
            clear hK K
            try simp only [Act.put, List.getElem_toArray, List.getElem_cons_zero, List.getElem_cons_succ, List.setIfInBounds_toArray, List.set_cons_zero, List.set_cons_succ]
            refine listed_as #[true, true, true, true, true, true, true, true, true, true, true, true, true, true, true, true, true, true, true, true, true, true, true, true, true, true, true, true, true, true, true, true, true, true, true, true, true, true, true, true, true, true, true, true, true, true, true, false, false, false, false, false, false, false, false, false, false, false, false] (by kernel_rfl) ?_
            exact REST g71 g69 g102 Y111 S_112.out
      · have kcv := run_conv_const (P := Tryd.prog) X69 g69 22 5 #[.int .u8 119, .int .u8 104, .int .u8 97, .int .u8 116, .int .u8 32, .int .u8 100, .int .u8 111, .int .u8 32, .int .u8 121, .int .u8 97, .int .u8 32, .int .u8 119, .int .u8 97, .int .u8 110, .int .u8 116, .int .u8 32, .int .u8 102, .int .u8 111, .int .u8 114, .int .u8 32, .int .u8 110, .int .u8 111, .int .u8 116, .int .u8 104, .int .u8 105, .int .u8 110, .int .u8 103, .int .u8 63] 28 28 T0_69.out.1 Tryd.underlying22 Tryd.underlying5
        change (convert _ _ _).run _ _ = .ok _ (frz X69 g69 28) at kcv
        have S_114 := kept (HKG.out X69 g69 28 S_70.out T0_69.out.2)
        have T_115 := kept ((show Mem (frz X69 g69 28) g69 (some ⟨g69, 0, none⟩) wantB from (mem_blk (l := wantB) T0_69.out.1).frz _ _))
        clear S_70 T0_69
        go_simp
        clear kcv
        refine hK.out _ _ S_114.out (fun _ => ?_)
        clear hK K
        try simp only [Act.put, List.getElem_toArray, List.getElem_cons_zero, List.getElem_cons_succ, List.setIfInBounds_toArray, List.set_cons_zero, List.set_cons_succ]
        obtain ⟨X113, hX113⟩ : ∃ Y, frz X69 g69 28 = Y := ⟨_, rfl⟩
        rw [hX113] at S_114
        rw [hX113] at T_115
        rw [hX113]
        clear hX113
        refine wpAnyH_ready (rs := [40, 45]) (by kernel_rfl) (by simp) ?_
        refine AllReadyH.cons rfl (fun K hK => ?_) (AllReadyH.cons rfl (fun K hK => ?_) (AllReadyH.nil))
        · go_simp
          have hba116 : Below X113.heap.size X113 (X113.alloc (.cells #[.int .u8 74, .int .u8 101, .int .u8 102, .int .u8 101] 5)) := (Below.refl _ X113).alloc (Nat.le_refl _) _
          have J0_116 := kept (show Blk (X113.alloc (.cells #[.int .u8 74, .int .u8 101, .int .u8 102, .int .u8 101] 5)) X113.heap.size 5 #[.int .u8 74, .int .u8 101, .int .u8 102, .int .u8 101] ∧ gD < X113.heap.size from ⟨Blk.new X113 _ _, S_114.out.2.lt⟩)
          have S_117 := kept (HKEEP.out _ _ S_114.out hba116)
          clear S_114
          have T_118 := kept (T_115.out.below0 hba116)
          clear T_115
          refine hK.out _ _ S_117.out (fun _ => ?_)
          clear hK K
          try simp only [Act.put, List.getElem_toArray, List.getElem_cons_zero, List.getElem_cons_succ, List.setIfInBounds_toArray, List.set_cons_zero, List.set_cons_succ]
          obtain ⟨X116, hX116⟩ : ∃ Y, X113.alloc (.cells #[.int .u8 74, .int .u8 101, .int .u8 102, .int .u8 101] 5) = Y := ⟨_, rfl⟩
          obtain ⟨g116, hg116⟩ : ∃ g, X113.heap.size = g := ⟨_, rfl⟩
          rw [hX116] at S_117
          rw [hX116] at T_118
          rw [hX116] at J0_116
          rw [hg116] at J0_116
          rw [hX116, hg116]
          clear hX116 hg116 hba116
          refine wpAnyH_ready (rs := [41, 45]) (by kernel_rfl) (by simp) ?_
          refine AllReadyH.cons rfl (fun K hK => ?_) (AllReadyH.cons rfl (fun K hK => ?_) (AllReadyH.nil))
          · have kcv := run_conv_const (P := Tryd.prog) X116 g116 22 5 #[.int .u8 74, .int .u8 101, .int .u8 102, .int .u8 101] 4 4 J0_116.out.1 Tryd.underlying22 Tryd.underlying5
            change (convert _ _ _).run _ _ = .ok _ (frz X116 g116 4) at kcv
            have S_120 := kept (HKG.out X116 g116 4 S_117.out J0_116.out.2)
            have J_121 := kept ((show Mem (frz X116 g116 4) g116 (some ⟨g116, 0, none⟩) jefeB from (mem_blk (l := jefeB) J0_116.out.1).frz _ _))
            have T_122 := kept (T_118.out.frz g116 4)
            clear S_117 T_118 J0_116
            go_simp
            clear kcv
            refine hK.out _ _ S_120.out (fun _ => ?_)
            clear hK K
            try simp only [Act.put, List.getElem_toArray, List.getElem_cons_zero, List.getElem_cons_succ, List.setIfInBounds_toArray, List.set_cons_zero, List.set_cons_succ]
            obtain ⟨X119, hX119⟩ : ∃ Y, frz X116 g116 4 = Y := ⟨_, rfl⟩
            rw [hX119] at S_120
            rw [hX119] at J_121
            rw [hX119] at T_122
            rw [hX119]
            clear hX119
            refine wpAnyH_ready (rs := [45]) (by kernel_rfl) (by simp) ?_
            refine AllReadyH.cons rfl (fun K hK => ?_) (AllReadyH.nil)
            go_simp
            have hba123 : Below X119.heap.size X119 (X119.alloc (.cells #[.slice (some ⟨g69, 0, none⟩) 28 28] 22)) := (Below.refl _ X119).alloc (Nat.le_refl _) _
            have L_123 := kept (show MemM (X119.alloc (.cells #[.slice (some ⟨g69, 0, none⟩) 28 28] 22)) X119.heap.size (some ⟨X119.heap.size, 0, none⟩) [wantB] from memM_one (w := X119) (g := X119.heap.size) (c1 := 28) rfl T_122.out (by decide))
            have S_124 := kept (HKEEP.out _ _ S_120.out hba123)
            clear S_120
            have J_125 := kept (J_121.out.below0 hba123)
            clear J_121
            have T_126 := kept (T_122.out.below0 hba123)
            clear T_122
            refine hK.out _ _ S_124.out (fun _ => ?_)
            clear hK K
            try simp only [Act.put, List.getElem_toArray, List.getElem_cons_zero, List.getElem_cons_succ, List.setIfInBounds_toArray, List.set_cons_zero, List.set_cons_succ]
            obtain ⟨X123, hX123⟩ : ∃ Y, X119.alloc (.cells #[.slice (some ⟨g69, 0, none⟩) 28 28] 22) = Y := ⟨_, rfl⟩
            obtain ⟨g123, hg123⟩ : ∃ g, X119.heap.size = g := ⟨_, rfl⟩
            rw [hX123] at S_124
            rw [hX123] at J_125
            rw [hX123] at T_126
            rw [hX123] at L_123
            rw [hg123] at L_123
            rw [hX123, hg123]
            clear hX123 hg123 hba123
            refine wpAnyH_ready (rs := [46]) (by kernel_rfl) (by simp) ?_
            refine AllReadyH.cons rfl (fun K hK => ?_) (AllReadyH.nil)
            go_simp
            refine (HC1.out X123 g116 g123 S_124.out J_125.out L_123.out).mono ?_
            rintro e Y127 ⟨rfl, hb127⟩
            have S_128 := kept (HKEEP.out _ _ S_124.out hb127)
            clear S_124
            refine hK.out _ _ S_128.out (fun _ => ?_)
            clear hK K
            try simp only [Act.put, List.getElem_toArray, List.getElem_cons_zero, List.getElem_cons_succ, List.setIfInBounds_toArray, List.set_cons_zero, List.set_cons_succ]
            refine listed_as #[true, true, true, true, true, true, true, true, true, true, true, true, true, true, true, true, true, true, true, true, true, true, true, true, true, true, true, true, true, true, true, true, true, true, true, true, true, true, true, true, true, true, true, true, true, true, true, false, false, false, false, false, false, false, false, false, false, false, false] (by kernel_rfl) ?_
            exact REST g116 g69 g123 Y127 S_128.out
          · go_simp
            have hba129 : Below X116.heap.size X116 (X116.alloc (.cells #[.slice (some ⟨g69, 0, none⟩) 28 28] 22)) := (Below.refl _ X116).alloc (Nat.le_refl _) _
            have L_129 := kept (show MemM (X116.alloc (.cells #[.slice (some ⟨g69, 0, none⟩) 28 28] 22)) X116.heap.size (some ⟨X116.heap.size, 0, none⟩) [wantB] from memM_one (w := X116) (g := X116.heap.size) (c1 := 28) rfl T_118.out (by decide))
            have S_130 := kept (HKEEP.out _ _ S_117.out hba129)
            clear S_117
            have T_131 := kept (T_118.out.below0 hba129)
            clear T_118
            have J0_132 := kept ((show _ ∧ _ from ⟨J0_116.out.1.below hba129 J0_116.out.1.lt, J0_116.out.2⟩))
            clear J0_116
            refine hK.out _ _ S_130.out (fun _ => ?_)
            clear hK K
            try simp only [Act.put, List.getElem_toArray, List.getElem_cons_zero, List.getElem_cons_succ, List.setIfInBounds_toArray, List.set_cons_zero, List.set_cons_succ]
            obtain ⟨X129, hX129⟩ : ∃ Y, X116.alloc (.cells #[.slice (some ⟨g69, 0, none⟩) 28 28] 22) = Y := ⟨_, rfl⟩
            obtain ⟨g129, hg129⟩ : ∃ g, X116.heap.size = g := ⟨_, rfl⟩
            rw [hX129] at S_130
            rw [hX129] at T_131
            rw [hX129] at J0_132
            rw [hX129] at L_129
            rw [hg129] at L_129
            rw [hX129, hg129]
            clear hX129 hg129 hba129
            refine wpAnyH_ready (rs := [41]) (by kernel_rfl) (by simp) ?_
            refine AllReadyH.cons rfl (fun K hK => ?_) (AllReadyH.nil)
            have kcv := run_conv_const (P := Tryd.prog) X129 g116 22 5 #[.int .u8 74, .int .u8 101, .int .u8 102, .int .u8 101] 4 4 J0_132.out.1 Tryd.underlying22 Tryd.underlying5
            change (convert _ _ _).run _ _ = .ok _ (frz X129 g116 4) at kcv
            have S_134 := kept (HKG.out X129 g116 4 S_130.out J0_132.out.2)
            have J_135 := kept ((show Mem (frz X129 g116 4) g116 (some ⟨g116, 0, none⟩) jefeB from (mem_blk (l := jefeB) J0_132.out.1).frz _ _))
            have T_136 := kept (T_131.out.frz g116 4)
            have L_137 := kept (L_129.out.frz g116 4)
            clear S_130 T_131 J0_132 L_129
            go_simp
            clear kcv
            refine hK.out _ _ S_134.out (fun _ => ?_)
            clear hK K
            try simp only [Act.put, List.getElem_toArray, List.getElem_cons_zero, List.getElem_cons_succ, List.setIfInBounds_toArray, List.set_cons_zero, List.set_cons_succ]
            obtain ⟨X133, hX133⟩ : ∃ Y, frz X129 g116 4 = Y := ⟨_, rfl⟩
            rw [hX133] at S_134
            rw [hX133] at J_135
            rw [hX133] at T_136
            rw [hX133] at L_137
            rw [hX133]
            clear hX133
            refine wpAnyH_ready (rs := [46]) (by kernel_rfl) (by simp) ?_
            refine AllReadyH.cons rfl (fun K hK => ?_) (AllReadyH.nil)
            go_simp
            refine (HC1.out X133 g116 g129 S_134.out J_135.out L_137.out).mono ?_
            rintro e Y138 ⟨rfl, hb138⟩
            have S_139 := kept (HKEEP.out _ _ S_134.out hb138)
            clear S_134
            refine hK.out _ _ S_139.out (fun _ => ?_)
            clear hK K
            try simp only [Act.put, List.getElem_toArray, List.getElem_cons_zero, List.getElem_cons_succ, List.setIfInBounds_toArray, List.set_cons_zero, List.set_cons_succ]
            refine listed_as #[true, true, true, true, true, true, true, true, true, true, true, true, true, true, true, true, true, true, true, true, true, true, true, true, true, true, true, true, true, true, true, true, true, true, true, true, true, true, true, true, true, true, true, true, true, true, true, false, false, false, false, false, false, false, false, false, false, false, false] (by kernel_rfl) ?_
            exact REST g116 g69 g129 Y138 S_139.out
        · go_simp
          have hba140 : Below X113.heap.size X113 (X113.alloc (.cells #[.slice (some ⟨g69, 0, none⟩) 28 28] 22)) := (Below.refl _ X113).alloc (Nat.le_refl _) _
          have L_140 := kept (show MemM (X113.alloc (.cells #[.slice (some ⟨g69, 0, none⟩) 28 28] 22)) X113.heap.size (some ⟨X113.heap.size, 0, none⟩) [wantB] from memM_one (w := X113) (g := X113.heap.size) (c1 := 28) rfl T_115.out (by decide))
          have S_141 := kept (HKEEP.out _ _ S_114.out hba140)
          clear S_114
          have T_142 := kept (T_115.out.below0 hba140)
          clear T_115
          refine hK.out _ _ S_141.out (fun _ => ?_)
          clear hK K
          try simp only [Act.put, List.getElem_toArray, List.getElem_cons_zero, List.getElem_cons_succ, List.setIfInBounds_toArray, List.set_cons_zero, List.set_cons_succ]
          obtain ⟨X140, hX140⟩ : ∃ Y, X113.alloc (.cells #[.slice (some ⟨g69, 0, none⟩) 28 28] 22) = Y := ⟨_, rfl⟩
          obtain ⟨g140, hg140⟩ : ∃ g, X113.heap.size = g := ⟨_, rfl⟩
          rw [hX140] at S_141
          rw [hX140] at T_142
          rw [hX140] at L_140
          rw [hg140] at L_140
          rw [hX140, hg140]
          clear hX140 hg140 hba140
          refine wpAnyH_ready (rs := [40]) (by kernel_rfl) (by simp) ?_
          refine AllReadyH.cons rfl (fun K hK => ?_) (AllReadyH.nil)
          go_simp
          have hba143 : Below X140.heap.size X140 (X140.alloc (.cells #[.int .u8 74, .int .u8 101, .int .u8 102, .int .u8 101] 5)) := (Below.refl _ X140).alloc (Nat.le_refl _) _
          have J0_143 := kept (show Blk (X140.alloc (.cells #[.int .u8 74, .int .u8 101, .int .u8 102, .int .u8 101] 5)) X140.heap.size 5 #[.int .u8 74, .int .u8 101, .int .u8 102, .int .u8 101] ∧ gD < X140.heap.size from ⟨Blk.new X140 _ _, S_141.out.2.lt⟩)
          have S_144 := kept (HKEEP.out _ _ S_141.out hba143)
          clear S_141
          have T_145 := kept (T_142.out.below0 hba143)
          clear T_142
          have L_146 := kept (L_140.out.below0 hba143)
          clear L_140
          refine hK.out _ _ S_144.out (fun _ => ?_)
          clear hK K
          try simp only [Act.put, List.getElem_toArray, List.getElem_cons_zero, List.getElem_cons_succ, List.setIfInBounds_toArray, List.set_cons_zero, List.set_cons_succ]
          obtain ⟨X143, hX143⟩ : ∃ Y, X140.alloc (.cells #[.int .u8 74, .int .u8 101, .int .u8 102, .int .u8 101] 5) = Y := ⟨_, rfl⟩
          obtain ⟨g143, hg143⟩ : ∃ g, X140.heap.size = g := ⟨_, rfl⟩
          rw [hX143] at S_144
          rw [hX143] at T_145
          rw [hX143] at L_146
          rw [hX143] at J0_143
          rw [hg143] at J0_143
          rw [hX143, hg143]
          clear hX143 hg143 hba143
          refine wpAnyH_ready (rs := [41]) (by kernel_rfl) (by simp) ?_
          refine AllReadyH.cons rfl (fun K hK => ?_) (AllReadyH.nil)
          have kcv := run_conv_const (P := Tryd.prog) X143 g143 22 5 #[.int .u8 74, .int .u8 101, .int .u8 102, .int .u8 101] 4 4 J0_143.out.1 Tryd.underlying22 Tryd.underlying5
          change (convert _ _ _).run _ _ = .ok _ (frz X143 g143 4) at kcv
          have S_148 := kept (HKG.out X143 g143 4 S_144.out J0_143.out.2)
          have J_149 := kept ((show Mem (frz X143 g143 4) g143 (some ⟨g143, 0, none⟩) jefeB from (mem_blk (l := jefeB) J0_143.out.1).frz _ _))
          have T_150 := kept (T_145.out.frz g143 4)
          have L_151 := kept (L_146.out.frz g143 4)
          clear S_144 T_145 L_146 J0_143
          go_simp
          clear kcv
          refine hK.out _ _ S_148.out (fun _ => ?_)
          clear hK K
          try simp only [Act.put, List.getElem_toArray, List.getElem_cons_zero, List.getElem_cons_succ, List.setIfInBounds_toArray, List.set_cons_zero, List.set_cons_succ]
          obtain ⟨X147, hX147⟩ : ∃ Y, frz X143 g143 4 = Y := ⟨_, rfl⟩
          rw [hX147] at S_148
          rw [hX147] at J_149
          rw [hX147] at T_150
          rw [hX147] at L_151
          rw [hX147]
          clear hX147
          refine wpAnyH_ready (rs := [46]) (by kernel_rfl) (by simp) ?_
          refine AllReadyH.cons rfl (fun K hK => ?_) (AllReadyH.nil)
          go_simp
          refine (HC1.out X147 g143 g140 S_148.out J_149.out L_151.out).mono ?_
          rintro e Y152 ⟨rfl, hb152⟩
          have S_153 := kept (HKEEP.out _ _ S_148.out hb152)
          clear S_148
          refine hK.out _ _ S_153.out (fun _ => ?_)
          clear hK K
          try simp only [Act.put, List.getElem_toArray, List.getElem_cons_zero, List.getElem_cons_succ, List.setIfInBounds_toArray, List.set_cons_zero, List.set_cons_succ]
          refine listed_as #[true, true, true, true, true, true, true, true, true, true, true, true, true, true, true, true, true, true, true, true, true, true, true, true, true, true, true, true, true, true, true, true, true, true, true, true, true, true, true, true, true, true, true, true, true, true, true, false, false, false, false, false, false, false, false, false, false, false, false] (by kernel_rfl) ?_
          exact REST g143 g69 g140 Y152 S_153.out
  case rest =>
    intro gJ40 gT40 gL40 Y40m hSm40
    show wpAnyH _ _ _ _ _ _ _ _ _
    have SM40 := kept hSm40
    clear hSm40
    clear S_8
    refine wpAnyH_take (i := 47) (v := ?_) rfl (by kernel_rfl) (by kernel_rfl) (by kernel_rfl) (fun _ _ _ h => h) (Or.inl ⟨by rfl, ?_⟩) SM40.out ?_
    rotate_left
    · intro w _; go_simp; with_reducible rfl
    try simp only [Act.put, List.getElem_toArray, List.getElem_cons_zero, List.getElem_cons_succ, List.setIfInBounds_toArray, List.set_cons_zero, List.set_cons_succ]
    refine wpAnyH_take (i := 48) (v := ?_) rfl (by kernel_rfl) (by kernel_rfl) (by kernel_rfl) (fun _ _ _ h => h) (Or.inl ⟨by rfl, ?_⟩) SM40.out ?_
    rotate_left
    · intro w _; go_simp; with_reducible rfl
    try simp only [Act.put, List.getElem_toArray, List.getElem_cons_zero, List.getElem_cons_succ, List.setIfInBounds_toArray, List.set_cons_zero, List.set_cons_succ]
    apply meet3 (F := fun _ _ _ Y => (fun w' : World => Below w.heap.size w w' ∧ Blk w' gD 26 (D.map bv).toArray) Y)
    case main =>
      intro REST
      refine wpAnyH_take (i := 51) (v := ?_) rfl (by kernel_rfl) (by kernel_rfl) (by kernel_rfl) (fun _ _ _ h => h) (Or.inl ⟨by rfl, ?_⟩) SM40.out ?_
      rotate_left
      · intro w _; go_simp; with_reducible rfl
      try simp only [Act.put, List.getElem_toArray, List.getElem_cons_zero, List.getElem_cons_succ, List.setIfInBounds_toArray, List.set_cons_zero, List.set_cons_succ]
      refine wpAnyH_ready (rs := [49, 52]) (by kernel_rfl) (by simp) ?_
      refine AllReadyH.cons rfl (fun K hK => ?_) (AllReadyH.cons rfl (fun K hK => ?_) (AllReadyH.nil))
      · go_simp
        have hba154 : Below Y40m.heap.size Y40m (Y40m.alloc (.cells #[.int .u8 74, .int .u8 101, .int .u8 102, .int .u8 101] 5)) := (Below.refl _ Y40m).alloc (Nat.le_refl _) _
        have J0_154 := kept (show Blk (Y40m.alloc (.cells #[.int .u8 74, .int .u8 101, .int .u8 102, .int .u8 101] 5)) Y40m.heap.size 5 #[.int .u8 74, .int .u8 101, .int .u8 102, .int .u8 101] ∧ gD < Y40m.heap.size from ⟨Blk.new Y40m _ _, SM40.out.2.lt⟩)
        have S_155 := kept (HKEEP.out _ _ SM40.out hba154)
        refine hK.out _ _ S_155.out (fun _ => ?_)
        clear hK K
        try simp only [Act.put, List.getElem_toArray, List.getElem_cons_zero, List.getElem_cons_succ, List.setIfInBounds_toArray, List.set_cons_zero, List.set_cons_succ]
        obtain ⟨X154, hX154⟩ : ∃ Y, Y40m.alloc (.cells #[.int .u8 74, .int .u8 101, .int .u8 102, .int .u8 101] 5) = Y := ⟨_, rfl⟩
        obtain ⟨g154, hg154⟩ : ∃ g, Y40m.heap.size = g := ⟨_, rfl⟩
        rw [hX154] at S_155
        rw [hX154] at J0_154
        rw [hg154] at J0_154
        rw [hX154, hg154]
        clear hX154 hg154 hba154
        refine wpAnyH_ready (rs := [50, 52]) (by kernel_rfl) (by simp) ?_
        refine AllReadyH.cons rfl (fun K hK => ?_) (AllReadyH.cons rfl (fun K hK => ?_) (AllReadyH.nil))
        · have kcv := run_conv_const (P := Tryd.prog) X154 g154 22 5 #[.int .u8 74, .int .u8 101, .int .u8 102, .int .u8 101] 4 4 J0_154.out.1 Tryd.underlying22 Tryd.underlying5
          change (convert _ _ _).run _ _ = .ok _ (frz X154 g154 4) at kcv
          have S_157 := kept (HKG.out X154 g154 4 S_155.out J0_154.out.2)
          have J_158 := kept ((show Mem (frz X154 g154 4) g154 (some ⟨g154, 0, none⟩) jefeB from (mem_blk (l := jefeB) J0_154.out.1).frz _ _))
          clear S_155 J0_154
          go_simp
          clear kcv
          refine hK.out _ _ S_157.out (fun _ => ?_)
          clear hK K
          try simp only [Act.put, List.getElem_toArray, List.getElem_cons_zero, List.getElem_cons_succ, List.setIfInBounds_toArray, List.set_cons_zero, List.set_cons_succ]
          obtain ⟨X156, hX156⟩ : ∃ Y, frz X154 g154 4 = Y := ⟨_, rfl⟩
          rw [hX156] at S_157
          rw [hX156] at J_158
          rw [hX156]
          clear hX156
          refine wpAnyH_ready (rs := [52]) (by kernel_rfl) (by simp) ?_
          refine AllReadyH.cons rfl (fun K hK => ?_) (AllReadyH.nil)
          go_simp
          have hba159 : Below X156.heap.size X156 (X156.alloc (.cells #[.int .u8 119, .int .u8 104, .int .u8 97, .int .u8 116, .int .u8 32, .int .u8 100, .int .u8 111, .int .u8 32, .int .u8 121, .int .u8 97, .int .u8 32, .int .u8 119, .int .u8 97, .int .u8 110, .int .u8 116, .int .u8 32, .int .u8 102, .int .u8 111, .int .u8 114, .int .u8 32, .int .u8 110, .int .u8 111, .int .u8 116, .int .u8 104, .int .u8 105, .int .u8 110, .int .u8 103, .int .u8 63] 5)) := (Below.refl _ X156).alloc (Nat.le_refl _) _
          have T0_159 := kept (show Blk (X156.alloc (.cells #[.int .u8 119, .int .u8 104, .int .u8 97, .int .u8 116, .int .u8 32, .int .u8 100, .int .u8 111, .int .u8 32, .int .u8 121, .int .u8 97, .int .u8 32, .int .u8 119, .int .u8 97, .int .u8 110, .int .u8 116, .int .u8 32, .int .u8 102, .int .u8 111, .int .u8 114, .int .u8 32, .int .u8 110, .int .u8 111, .int .u8 116, .int .u8 104, .int .u8 105, .int .u8 110, .int .u8 103, .int .u8 63] 5)) X156.heap.size 5 #[.int .u8 119, .int .u8 104, .int .u8 97, .int .u8 116, .int .u8 32, .int .u8 100, .int .u8 111, .int .u8 32, .int .u8 121, .int .u8 97, .int .u8 32, .int .u8 119, .int .u8 97, .int .u8 110, .int .u8 116, .int .u8 32, .int .u8 102, .int .u8 111, .int .u8 114, .int .u8 32, .int .u8 110, .int .u8 111, .int .u8 116, .int .u8 104, .int .u8 105, .int .u8 110, .int .u8 103, .int .u8 63] ∧ gD < X156.heap.size from ⟨Blk.new X156 _ _, S_157.out.2.lt⟩)
          have S_160 := kept (HKEEP.out _ _ S_157.out hba159)
          clear S_157
          have J_161 := kept (J_158.out.below0 hba159)
          clear J_158
          refine hK.out _ _ S_160.out (fun _ => ?_)
          clear hK K
          try simp only [Act.put, List.getElem_toArray, List.getElem_cons_zero, List.getElem_cons_succ, List.setIfInBounds_toArray, List.set_cons_zero, List.set_cons_succ]
          obtain ⟨X159, hX159⟩ : ∃ Y, X156.alloc (.cells #[.int .u8 119, .int .u8 104, .int .u8 97, .int .u8 116, .int .u8 32, .int .u8 100, .int .u8 111, .int .u8 32, .int .u8 121, .int .u8 97, .int .u8 32, .int .u8 119, .int .u8 97, .int .u8 110, .int .u8 116, .int .u8 32, .int .u8 102, .int .u8 111, .int .u8 114, .int .u8 32, .int .u8 110, .int .u8 111, .int .u8 116, .int .u8 104, .int .u8 105, .int .u8 110, .int .u8 103, .int .u8 63] 5) = Y := ⟨_, rfl⟩
          obtain ⟨g159, hg159⟩ : ∃ g, X156.heap.size = g := ⟨_, rfl⟩
          rw [hX159] at S_160
          rw [hX159] at J_161
          rw [hX159] at T0_159
          rw [hg159] at T0_159
          rw [hX159, hg159]
          clear hX159 hg159 hba159
          refine wpAnyH_ready (rs := [53]) (by kernel_rfl) (by simp) ?_
          refine AllReadyH.cons rfl (fun K hK => ?_) (AllReadyH.nil)
          have kcv := run_conv_const (P := Tryd.prog) X159 g159 22 5 #[.int .u8 119, .int .u8 104, .int .u8 97, .int .u8 116, .int .u8 32, .int .u8 100, .int .u8 111, .int .u8 32, .int .u8 121, .int .u8 97, .int .u8 32, .int .u8 119, .int .u8 97, .int .u8 110, .int .u8 116, .int .u8 32, .int .u8 102, .int .u8 111, .int .u8 114, .int .u8 32, .int .u8 110, .int .u8 111, .int .u8 116, .int .u8 104, .int .u8 105, .int .u8 110, .int .u8 103, .int .u8 63] 28 28 T0_159.out.1 Tryd.underlying22 Tryd.underlying5
          change (convert _ _ _).run _ _ = .ok _ (frz X159 g159 28) at kcv
          have S_163 := kept (HKG.out X159 g159 28 S_160.out T0_159.out.2)
          have T_164 := kept ((show Mem (frz X159 g159 28) g159 (some ⟨g159, 0, none⟩) wantB from (mem_blk (l := wantB) T0_159.out.1).frz _ _))
          have J_165 := kept (J_161.out.frz g159 28)
          clear S_160 J_161 T0_159
          go_simp
          clear kcv
          refine hK.out _ _ S_163.out (fun _ => ?_)
          clear hK K
          try simp only [Act.put, List.getElem_toArray, List.getElem_cons_zero, List.getElem_cons_succ, List.setIfInBounds_toArray, List.set_cons_zero, List.set_cons_succ]
          obtain ⟨X162, hX162⟩ : ∃ Y, frz X159 g159 28 = Y := ⟨_, rfl⟩
          rw [hX162] at S_163
          rw [hX162] at T_164
          rw [hX162] at J_165
          rw [hX162]
          clear hX162
          refine wpAnyH_ready (rs := [54]) (by kernel_rfl) (by simp) ?_
          refine AllReadyH.cons rfl (fun K hK => ?_) (AllReadyH.nil)
          go_simp
          have hba166 : Below X162.heap.size X162 (X162.alloc (.cells #[.slice (some ⟨g159, 0, none⟩) 28 28] 22)) := (Below.refl _ X162).alloc (Nat.le_refl _) _
          have L_166 := kept (show MemM (X162.alloc (.cells #[.slice (some ⟨g159, 0, none⟩) 28 28] 22)) X162.heap.size (some ⟨X162.heap.size, 0, none⟩) [wantB] from memM_one (w := X162) (g := X162.heap.size) (c1 := 28) rfl T_164.out (by decide))
          have S_167 := kept (HKEEP.out _ _ S_163.out hba166)
          clear S_163
          have T_168 := kept (T_164.out.below0 hba166)
          clear T_164
          have J_169 := kept (J_165.out.below0 hba166)
          clear J_165
          refine hK.out _ _ S_167.out (fun _ => ?_)
          clear hK K
          try simp only [Act.put, List.getElem_toArray, List.getElem_cons_zero, List.getElem_cons_succ, List.setIfInBounds_toArray, List.set_cons_zero, List.set_cons_succ]
          obtain ⟨X166, hX166⟩ : ∃ Y, X162.alloc (.cells #[.slice (some ⟨g159, 0, none⟩) 28 28] 22) = Y := ⟨_, rfl⟩
          obtain ⟨g166, hg166⟩ : ∃ g, X162.heap.size = g := ⟨_, rfl⟩
          rw [hX166] at S_167
          rw [hX166] at T_168
          rw [hX166] at J_169
          rw [hX166] at L_166
          rw [hg166] at L_166
          rw [hX166, hg166]
          clear hX166 hg166 hba166
          refine wpAnyH_ready (rs := [55]) (by kernel_rfl) (by simp) ?_
          refine AllReadyH.cons rfl (fun K hK => ?_) (AllReadyH.nil)
          go_simp
          refine (HC2.out X166 g154 g166 S_167.out J_169.out L_166.out).mono ?_
          rintro e Y170 ⟨rfl, hb170⟩
          have S_171 := kept (HKEEP.out _ _ S_167.out hb170)
          clear S_167
          refine hK.out _ _ S_171.out (fun _ => ?_)
          clear hK K
          try simp only [Act.put, List.getElem_toArray, List.getElem_cons_zero, List.getElem_cons_succ, List.setIfInBounds_toArray, List.set_cons_zero, List.set_cons_succ]
          refine listed_as #[true, true, true, true, true, true, true, true, true, true, true, true, true, true, true, true, true, true, true, true, true, true, true, true, true, true, true, true, true, true, true, true, true, true, true, true, true, true, true, true, true, true, true, true, true, true, true, true, true, true, true, true, true, true, true, true, false, false, false] (by kernel_rfl) ?_
          exact REST g154 g159 g166 Y170 S_171.out
        · have hlt := J0_154.out.1.lt
          go_simp
          have hba172 : Below X154.heap.size X154 (X154.alloc (.cells #[.int .u8 119, .int .u8 104, .int .u8 97, .int .u8 116, .int .u8 32, .int .u8 100, .int .u8 111, .int .u8 32, .int .u8 121, .int .u8 97, .int .u8 32, .int .u8 119, .int .u8 97, .int .u8 110, .int .u8 116, .int .u8 32, .int .u8 102, .int .u8 111, .int .u8 114, .int .u8 32, .int .u8 110, .int .u8 111, .int .u8 116, .int .u8 104, .int .u8 105, .int .u8 110, .int .u8 103, .int .u8 63] 5)) := (Below.refl _ X154).alloc (Nat.le_refl _) _
          have T0_172 := kept (show Blk (X154.alloc (.cells #[.int .u8 119, .int .u8 104, .int .u8 97, .int .u8 116, .int .u8 32, .int .u8 100, .int .u8 111, .int .u8 32, .int .u8 121, .int .u8 97, .int .u8 32, .int .u8 119, .int .u8 97, .int .u8 110, .int .u8 116, .int .u8 32, .int .u8 102, .int .u8 111, .int .u8 114, .int .u8 32, .int .u8 110, .int .u8 111, .int .u8 116, .int .u8 104, .int .u8 105, .int .u8 110, .int .u8 103, .int .u8 63] 5)) X154.heap.size 5 #[.int .u8 119, .int .u8 104, .int .u8 97, .int .u8 116, .int .u8 32, .int .u8 100, .int .u8 111, .int .u8 32, .int .u8 121, .int .u8 97, .int .u8 32, .int .u8 119, .int .u8 97, .int .u8 110, .int .u8 116, .int .u8 32, .int .u8 102, .int .u8 111, .int .u8 114, .int .u8 32, .int .u8 110, .int .u8 111, .int .u8 116, .int .u8 104, .int .u8 105, .int .u8 110, .int .u8 103, .int .u8 63] ∧ gD < X154.heap.size from ⟨Blk.new X154 _ _, S_155.out.2.lt⟩)
          have S_173 := kept (HKEEP.out _ _ S_155.out hba172)
          clear S_155
          have J0_174 := kept ((show _ ∧ _ from ⟨J0_154.out.1.below hba172 J0_154.out.1.lt, J0_154.out.2⟩))
          clear J0_154
          refine hK.out _ _ S_173.out (fun _ => ?_)
          clear hK K
          try simp only [Act.put, List.getElem_toArray, List.getElem_cons_zero, List.getElem_cons_succ, List.setIfInBounds_toArray, List.set_cons_zero, List.set_cons_succ]
          obtain ⟨X172, hX172⟩ : ∃ Y, X154.alloc (.cells #[.int .u8 119, .int .u8 104, .int .u8 97, .int .u8 116, .int .u8 32, .int .u8 100, .int .u8 111, .int .u8 32, .int .u8 121, .int .u8 97, .int .u8 32, .int .u8 119, .int .u8 97, .int .u8 110, .int .u8 116, .int .u8 32, .int .u8 102, .int .u8 111, .int .u8 114, .int .u8 32, .int .u8 110, .int .u8 111, .int .u8 116, .int .u8 104, .int .u8 105, .int .u8 110, .int .u8 103, .int .u8 63] 5) = Y := ⟨_, rfl⟩
          obtain ⟨g172, hg172⟩ : ∃ g, X154.heap.size = g := ⟨_, rfl⟩
          rw [hX172] at S_173
          rw [hX172] at J0_174
          rw [hX172] at T0_172
          rw [hg172] at hlt
          rw [hg172] at T0_172
          rw [hX172, hg172]
          clear hX172 hg172 hba172
          have HNE := kept (show g154 ≠ g172 by omega)
          clear hlt
          refine wpAnyH_ready (rs := [50, 53]) (by kernel_rfl) (by simp) ?_
          refine AllReadyH.cons rfl (fun K hK => ?_) (AllReadyH.cons rfl (fun K hK => ?_) (AllReadyH.nil))
          · have kcv := run_conv_const (P := Tryd.prog) X172 g154 22 5 #[.int .u8 74, .int .u8 101, .int .u8 102, .int .u8 101] 4 4 J0_174.out.1 Tryd.underlying22 Tryd.underlying5
            change (convert _ _ _).run _ _ = .ok _ (frz X172 g154 4) at kcv
            have HNEX : g172 ≠ g154 := by have := HNE.out; omega
            have S_176 := kept (HKG.out X172 g154 4 S_173.out J0_174.out.2)
            have J_177 := kept ((show Mem (frz X172 g154 4) g154 (some ⟨g154, 0, none⟩) jefeB from (mem_blk (l := jefeB) J0_174.out.1).frz _ _))
            have T0_178 := kept ((show _ ∧ _ from ⟨T0_172.out.1.grown (frz_gb X172 g154 4) (fun e => HNEX (by injection e)), T0_172.out.2⟩))
            clear S_173 J0_174 T0_172
            clear HNEX
            go_simp
            clear kcv
            refine hK.out _ _ S_176.out (fun _ => ?_)
            clear hK K
            try simp only [Act.put, List.getElem_toArray, List.getElem_cons_zero, List.getElem_cons_succ, List.setIfInBounds_toArray, List.set_cons_zero, List.set_cons_succ]
            obtain ⟨X175, hX175⟩ : ∃ Y, frz X172 g154 4 = Y := ⟨_, rfl⟩
            rw [hX175] at S_176
            rw [hX175] at J_177
            rw [hX175] at T0_178
            rw [hX175]
            clear hX175
            refine wpAnyH_ready (rs := [53]) (by kernel_rfl) (by simp) ?_
            refine AllReadyH.cons rfl (fun K hK => ?_) (AllReadyH.nil)
            have kcv := run_conv_const (P := Tryd.prog) X175 g172 22 5 #[.int .u8 119, .int .u8 104, .int .u8 97, .int .u8 116, .int .u8 32, .int .u8 100, .int .u8 111, .int .u8 32, .int .u8 121, .int .u8 97, .int .u8 32, .int .u8 119, .int .u8 97, .int .u8 110, .int .u8 116, .int .u8 32, .int .u8 102, .int .u8 111, .int .u8 114, .int .u8 32, .int .u8 110, .int .u8 111, .int .u8 116, .int .u8 104, .int .u8 105, .int .u8 110, .int .u8 103, .int .u8 63] 28 28 T0_178.out.1 Tryd.underlying22 Tryd.underlying5
            change (convert _ _ _).run _ _ = .ok _ (frz X175 g172 28) at kcv
            have S_180 := kept (HKG.out X175 g172 28 S_176.out T0_178.out.2)
            have T_181 := kept ((show Mem (frz X175 g172 28) g172 (some ⟨g172, 0, none⟩) wantB from (mem_blk (l := wantB) T0_178.out.1).frz _ _))
            have J_182 := kept (J_177.out.frz g172 28)
            clear S_176 J_177 T0_178
            go_simp
            clear kcv
            refine hK.out _ _ S_180.out (fun _ => ?_)
            clear hK K
            try simp only [Act.put, List.getElem_toArray, List.getElem_cons_zero, List.getElem_cons_succ, List.setIfInBounds_toArray, List.set_cons_zero, List.set_cons_succ]
            obtain ⟨X179, hX179⟩ : ∃ Y, frz X175 g172 28 = Y := ⟨_, rfl⟩
            rw [hX179] at S_180
            rw [hX179] at T_181
            rw [hX179] at J_182
            rw [hX179]
            clear hX179
            refine wpAnyH_ready (rs := [54]) (by kernel_rfl) (by simp) ?_
            refine AllReadyH.cons rfl (fun K hK => ?_) (AllReadyH.nil)
            go_simp
            have hba183 : Below X179.heap.size X179 (X179.alloc (.cells #[.slice (some ⟨g172, 0, none⟩) 28 28] 22)) := (Below.refl _ X179).alloc (Nat.le_refl _) _
            have L_183 := kept (show MemM (X179.alloc (.cells #[.slice (some ⟨g172, 0, none⟩) 28 28] 22)) X179.heap.size (some ⟨X179.heap.size, 0, none⟩) [wantB] from memM_one (w := X179) (g := X179.heap.size) (c1 := 28) rfl T_181.out (by decide))
            have S_184 := kept (HKEEP.out _ _ S_180.out hba183)
            clear S_180
            have T_185 := kept (T_181.out.below0 hba183)
            clear T_181
            have J_186 := kept (J_182.out.below0 hba183)
            clear J_182
            refine hK.out _ _ S_184.out (fun _ => ?_)
            clear hK K
            try simp only [Act.put, List.getElem_toArray, List.getElem_cons_zero, List.getElem_cons_succ, List.setIfInBounds_toArray, List.set_cons_zero, List.set_cons_succ]
            obtain ⟨X183, hX183⟩ : ∃ Y, X179.alloc (.cells #[.slice (some ⟨g172, 0, none⟩) 28 28] 22) = Y := ⟨_, rfl⟩
            obtain ⟨g183, hg183⟩ : ∃ g, X179.heap.size = g := ⟨_, rfl⟩
            rw [hX183] at S_184
            rw [hX183] at T_185
            rw [hX183] at J_186
            rw [hX183] at L_183
            rw [hg183] at L_183
            rw [hX183, hg183]
            clear hX183 hg183 hba183
            refine wpAnyH_ready (rs := [55]) (by kernel_rfl) (by simp) ?_
            refine AllReadyH.cons rfl (fun K hK => ?_) (AllReadyH.nil)
            go_simp
            refine (HC2.out X183 g154 g183 S_184.out J_186.out L_183.out).mono ?_
            rintro e Y187 ⟨rfl, hb187⟩
            have S_188 := kept (HKEEP.out _ _ S_184.out hb187)
            clear S_184
            refine hK.out _ _ S_188.out (fun _ => ?_)
            clear hK K
            try simp only [Act.put, List.getElem_toArray, List.getElem_cons_zero, List.getElem_cons_succ, List.setIfInBounds_toArray, List.set_cons_zero, List.set_cons_succ]
            refine listed_as #[true, true, true, true, true, true, true, true, true, true, true, true, true, true, true, true, true, true, true, true, true, true, true, true, true, true, true, true, true, true, true, true, true, true, true, true, true, true, true, true, true, true, true, true, true, true, true, true, true, true, true, true, true, true, true, true, false, false, false] (by kernel_rfl) ?_
            exact REST g154 g172 g183 Y187 S_188.out
          · have kcv := run_conv_const (P := Tryd.prog) X172 g172 22 5 #[.int .u8 119, .int .u8 104, .int .u8 97, .int .u8 116, .int .u8 32, .int .u8 100, .int .u8 111, .int .u8 32, .int .u8 121, .int .u8 97, .int .u8 32, .int .u8 119, .int .u8 97, .int .u8 110, .int .u8 116, .int .u8 32, .int .u8 102, .int .u8 111, .int .u8 114, .int .u8 32, .int .u8 110, .int .u8 111, .int .u8 116, .int .u8 104, .int .u8 105, .int .u8 110, .int .u8 103, .int .u8 63] 28 28 T0_172.out.1 Tryd.underlying22 Tryd.underlying5
            change (convert _ _ _).run _ _ = .ok _ (frz X172 g172 28) at kcv
            have HNEX : g154 ≠ g172 := by have := HNE.out; omega
            have S_190 := kept (HKG.out X172 g172 28 S_173.out T0_172.out.2)
            have T_191 := kept ((show Mem (frz X172 g172 28) g172 (some ⟨g172, 0, none⟩) wantB from (mem_blk (l := wantB) T0_172.out.1).frz _ _))
            have J0_192 := kept ((show _ ∧ _ from ⟨J0_174.out.1.grown (frz_gb X172 g172 28) (fun e => HNEX (by injection e)), J0_174.out.2⟩))
            clear S_173 J0_174 T0_172
            clear HNEX
            go_simp
            clear kcv
            refine hK.out _ _ S_190.out (fun _ => ?_)
            clear hK K
            try simp only [Act.put, List.getElem_toArray, List.getElem_cons_zero, List.getElem_cons_succ, List.setIfInBounds_toArray, List.set_cons_zero, List.set_cons_succ]
            obtain ⟨X189, hX189⟩ : ∃ Y, frz X172 g172 28 = Y := ⟨_, rfl⟩
            rw [hX189] at S_190
            rw [hX189] at T_191
            rw [hX189] at J0_192
            rw [hX189]
            clear hX189
            refine wpAnyH_ready (rs := [50, 54]) (by kernel_rfl) (by simp) ?_
            refine AllReadyH.cons rfl (fun K hK => ?_) (AllReadyH.cons rfl (fun K hK => ?_) (AllReadyH.nil))
            · have kcv := run_conv_const (P := Tryd.prog) X189 g154 22 5 #[.int .u8 74, .int .u8 101, .int .u8 102, .int .u8 101] 4 4 J0_192.out.1 Tryd.underlying22 Tryd.underlying5
              change (convert _ _ _).run _ _ = .ok _ (frz X189 g154 4) at kcv
              have S_194 := kept (HKG.out X189 g154 4 S_190.out J0_192.out.2)
              have J_195 := kept ((show Mem (frz X189 g154 4) g154 (some ⟨g154, 0, none⟩) jefeB from (mem_blk (l := jefeB) J0_192.out.1).frz _ _))
              have T_196 := kept (T_191.out.frz g154 4)
              clear S_190 T_191 J0_192
              go_simp
              clear kcv
              refine hK.out _ _ S_194.out (fun _ => ?_)
              clear hK K
              try simp only [Act.put, List.getElem_toArray, List.getElem_cons_zero, List.getElem_cons_succ, List.setIfInBounds_toArray, List.set_cons_zero, List.set_cons_succ]
              obtain ⟨X193, hX193⟩ : ∃ Y, frz X189 g154 4 = Y := ⟨_, rfl⟩
              rw [hX193] at S_194
              rw [hX193] at J_195
              rw [hX193] at T_196
              rw [hX193]
              clear hX193
              refine wpAnyH_ready (rs := [54]) (by kernel_rfl) (by simp) ?_
              refine AllReadyH.cons rfl (fun K hK => ?_) (AllReadyH.nil)
              go_simp
              have hba197 : Below X193.heap.size X193 (X193.alloc (.cells #[.slice (some ⟨g172, 0, none⟩) 28 28] 22)) := (Below.refl _ X193).alloc (Nat.le_refl _) _
              have L_197 := kept (show MemM (X193.alloc (.cells #[.slice (some ⟨g172, 0, none⟩) 28 28] 22)) X193.heap.size (some ⟨X193.heap.size, 0, none⟩) [wantB] from memM_one (w := X193) (g := X193.heap.size) (c1 := 28) rfl T_196.out (by decide))
              have S_198 := kept (HKEEP.out _ _ S_194.out hba197)
              clear S_194
              have J_199 := kept (J_195.out.below0 hba197)
              clear J_195
              have T_200 := kept (T_196.out.below0 hba197)
              clear T_196
              refine hK.out _ _ S_198.out (fun _ => ?_)
              clear hK K
              try simp only [Act.put, List.getElem_toArray, List.getElem_cons_zero, List.getElem_cons_succ, List.setIfInBounds_toArray, List.set_cons_zero, List.set_cons_succ]
              obtain ⟨X197, hX197⟩ : ∃ Y, X193.alloc (.cells #[.slice (some ⟨g172, 0, none⟩) 28 28] 22) = Y := ⟨_, rfl⟩
              obtain ⟨g197, hg197⟩ : ∃ g, X193.heap.size = g := ⟨_, rfl⟩
              rw [hX197] at S_198
              rw [hX197] at J_199
              rw [hX197] at T_200
              rw [hX197] at L_197
              rw [hg197] at L_197
              rw [hX197, hg197]
              clear hX197 hg197 hba197
              refine wpAnyH_ready (rs := [55]) (by kernel_rfl) (by simp) ?_
              refine AllReadyH.cons rfl (fun K hK => ?_) (AllReadyH.nil)
              go_simp
              refine (HC2.out X197 g154 g197 S_198.out J_199.out L_197.out).mono ?_
              rintro e Y201 ⟨rfl, hb201⟩
              have S_202 := kept (HKEEP.out _ _ S_198.out hb201)
              clear S_198
              refine hK.out _ _ S_202.out (fun _ => ?_)
              clear hK K
              try simp only [Act.put, List.getElem_toArray, List.getElem_cons_zero, List.getElem_cons_succ, List.setIfInBounds_toArray, List.set_cons_zero, List.set_cons_succ]
              refine listed_as #[true, true, true, true, true, true, true, true, true, true, true, true, true, true, true, true, true, true, true, true, true, true, true, true, true, true, true, true, true, true, true, true, true, true, true, true, true, true, true, true, true, true, true, true, true, true, true, true, true, true, true, true, true, true, true, true, false, false, false] (by kernel_rfl) ?_
              exact REST g154 g172 g197 Y201 S_202.out
            · go_simp
              have hba203 : Below X189.heap.size X189 (X189.alloc (.cells #[.slice (some ⟨g172, 0, none⟩) 28 28] 22)) := (Below.refl _ X189).alloc (Nat.le_refl _) _
              have L_203 := kept (show MemM (X189.alloc (.cells #[.slice (some ⟨g172, 0, none⟩) 28 28] 22)) X189.heap.size (some ⟨X189.heap.size, 0, none⟩) [wantB] from memM_one (w := X189) (g := X189.heap.size) (c1 := 28) rfl T_191.out (by decide))
              have S_204 := kept (HKEEP.out _ _ S_190.out hba203)
              clear S_190
              have T_205 := kept (T_191.out.below0 hba203)
              clear T_191
              have J0_206 := kept ((show _ ∧ _ from ⟨J0_192.out.1.below hba203 J0_192.out.1.lt, J0_192.out.2⟩))
              clear J0_192
              refine hK.out _ _ S_204.out (fun _ => ?_)
              clear hK K
              try simp only [Act.put, List.getElem_toArray, List.getElem_cons_zero, List.getElem_cons_succ, List.setIfInBounds_toArray, List.set_cons_zero, List.set_cons_succ]
              obtain ⟨X203, hX203⟩ : ∃ Y, X189.alloc (.cells #[.slice (some ⟨g172, 0, none⟩) 28 28] 22) = Y := ⟨_, rfl⟩
              obtain ⟨g203, hg203⟩ : ∃ g, X189.heap.size = g := ⟨_, rfl⟩
              rw [hX203] at S_204
              rw [hX203] at T_205
              rw [hX203] at J0_206
              rw [hX203] at L_203
              rw [hg203] at L_203
              rw [hX203, hg203]
              clear hX203 hg203 hba203
              refine wpAnyH_ready (rs := [50]) (by kernel_rfl) (by simp) ?_
              refine AllReadyH.cons rfl (fun K hK => ?_) (AllReadyH.nil)
              have kcv := run_conv_const (P := Tryd.prog) X203 g154 22 5 #[.int .u8 74, .int .u8 101, .int .u8 102, .int .u8 101] 4 4 J0_206.out.1 Tryd.underlying22 Tryd.underlying5
              change (convert _ _ _).run _ _ = .ok _ (frz X203 g154 4) at kcv
              have S_208 := kept (HKG.out X203 g154 4 S_204.out J0_206.out.2)
              have J_209 := kept ((show Mem (frz X203 g154 4) g154 (some ⟨g154, 0, none⟩) jefeB from (mem_blk (l := jefeB) J0_206.out.1).frz _ _))
              have T_210 := kept (T_205.out.frz g154 4)
              have L_211 := kept (L_203.out.frz g154 4)
              clear S_204 T_205 J0_206 L_203
              go_simp
              clear kcv
              refine hK.out _ _ S_208.out (fun _ => ?_)
              clear hK K
              try simp only [Act.put, List.getElem_toArray, List.getElem_cons_zero, List.getElem_cons_succ, List.setIfInBounds_toArray, List.set_cons_zero, List.set_cons_succ]
              obtain ⟨X207, hX207⟩ : ∃ Y, frz X203 g154 4 = Y := ⟨_, rfl⟩
              rw [hX207] at S_208
              rw [hX207] at J_209
              rw [hX207] at T_210
              rw [hX207] at L_211
              rw [hX207]
              clear hX207
              refine wpAnyH_ready (rs := [55]) (by kernel_rfl) (by simp) ?_
              refine AllReadyH.cons rfl (fun K hK => ?_) (AllReadyH.nil)
              go_simp
              refine (HC2.out X207 g154 g203 S_208.out J_209.out L_211.out).mono ?_
              rintro e Y212 ⟨rfl, hb212⟩
              have S_213 := kept (HKEEP.out _ _ S_208.out hb212)
              clear S_208
              refine hK.out _ _ S_213.out (fun _ => ?_)
              clear hK K
              try simp only [Act.put, List.getElem_toArray, List.getElem_cons_zero, List.getElem_cons_succ, List.setIfInBounds_toArray, List.set_cons_zero, List.set_cons_succ]
              refine listed_as #[true, true, true, true, true, true, true, true, true, true, true, true, true, true, true, true, true, true, true, true, true, true, true, true, true, true, true, true, true, true, true, true, true, true, true, true, true, true, true, true, true, true, true, true, true, true, true, true, true, true, true, true, true, true, true, true, false, false, false] (by kernel_rfl) ?_
              exact REST g154 g172 g203 Y212 S_213.out
      · go_simp
        have hba214 : Below Y40m.heap.size Y40m (Y40m.alloc (.cells #[.int .u8 119, .int .u8 104, .int .u8 97, .int .u8 116, .int .u8 32, .int .u8 100, .int .u8 111, .int .u8 32, .int .u8 121, .int .u8 97, .int .u8 32, .int .u8 119, .int .u8 97, .int .u8 110, .int .u8 116, .int .u8 32, .int .u8 102, .int .u8 111, .int .u8 114, .int .u8 32, .int .u8 110, .int .u8 111, .int .u8 116, .int .u8 104, .int .u8 105, .int .u8 110, .int .u8 103, .int .u8 63] 5)) := (Below.refl _ Y40m).alloc (Nat.le_refl _) _
        have T0_214 := kept (show Blk (Y40m.alloc (.cells #[.int .u8 119, .int .u8 104, .int .u8 97, .int .u8 116, .int .u8 32, .int .u8 100, .int .u8 111, .int .u8 32, .int .u8 121, .int .u8 97, .int .u8 32, .int .u8 119, .int .u8 97, .int .u8 110, .int .u8 116, .int .u8 32, .int .u8 102, .int .u8 111, .int .u8 114, .int .u8 32, .int .u8 110, .int .u8 111, .int .u8 116, .int .u8 104, .int .u8 105, .int .u8 110, .int .u8 103, .int .u8 63] 5)) Y40m.heap.size 5 #[.int .u8 119, .int .u8 104, .int .u8 97, .int .u8 116, .int .u8 32, .int .u8 100, .int .u8 111, .int .u8 32, .int .u8 121, .int .u8 97, .int .u8 32, .int .u8 119, .int .u8 97, .int .u8 110, .int .u8 116, .int .u8 32, .int .u8 102, .int .u8 111, .int .u8 114, .int .u8 32, .int .u8 110, .int .u8 111, .int .u8 116, .int .u8 104, .int .u8 105, .int .u8 110, .int .u8 103, .int .u8 63] ∧ gD < Y40m.heap.size from ⟨Blk.new Y40m _ _, SM40.out.2.lt⟩)
        have S_215 := kept (HKEEP.out _ _ SM40.out hba214)
        refine hK.out _ _ S_215.out (fun _ => ?_)
        clear hK K
        try simp only [Act.put, List.getElem_toArray, List.getElem_cons_zero, List.getElem_cons_succ, List.setIfInBounds_toArray, List.set_cons_zero, List.set_cons_succ]
        obtain ⟨X214, hX214⟩ : ∃ Y, Y40m.alloc (.cells #[.int .u8 119, .int .u8 104, .int .u8 97, .int .u8 116, .int .u8 32, .int .u8 100, .int .u8 111, .int .u8 32, .int .u8 121, .int .u8 97, .int .u8 32, .int .u8 119, .int .u8 97, .int .u8 110, .int .u8 116, .int .u8 32, .int .u8 102, .int .u8 111, .int .u8 114, .int .u8 32, .int .u8 110, .int .u8 111, .int .u8 116, .int .u8 104, .int .u8 105, .int .u8 110, .int .u8 103, .int .u8 63] 5) = Y := ⟨_, rfl⟩
        obtain ⟨g214, hg214⟩ : ∃ g, Y40m.heap.size = g := ⟨_, rfl⟩
        rw [hX214] at S_215
        rw [hX214] at T0_214
        rw [hg214] at T0_214
        rw [hX214, hg214]
        clear hX214 hg214 hba214
        refine wpAnyH_ready (rs := [49, 53]) (by kernel_rfl) (by simp) ?_
        refine AllReadyH.cons rfl (fun K hK => ?_) (AllReadyH.cons rfl (fun K hK => ?_) (AllReadyH.nil))
        · have hlt := T0_214.out.1.lt
          go_simp
          have hba216 : Below X214.heap.size X214 (X214.alloc (.cells #[.int .u8 74, .int .u8 101, .int .u8 102, .int .u8 101] 5)) := (Below.refl _ X214).alloc (Nat.le_refl _) _
          have J0_216 := kept (show Blk (X214.alloc (.cells #[.int .u8 74, .int .u8 101, .int .u8 102, .int .u8 101] 5)) X214.heap.size 5 #[.int .u8 74, .int .u8 101, .int .u8 102, .int .u8 101] ∧ gD < X214.heap.size from ⟨Blk.new X214 _ _, S_215.out.2.lt⟩)
          have S_217 := kept (HKEEP.out _ _ S_215.out hba216)
          clear S_215
          have T0_218 := kept ((show _ ∧ _ from ⟨T0_214.out.1.below hba216 T0_214.out.1.lt, T0_214.out.2⟩))
          clear T0_214
          refine hK.out _ _ S_217.out (fun _ => ?_)
          clear hK K
          try simp only [Act.put, List.getElem_toArray, List.getElem_cons_zero, List.getElem_cons_succ, List.setIfInBounds_toArray, List.set_cons_zero, List.set_cons_succ]
          obtain ⟨X216, hX216⟩ : ∃ Y, X214.alloc (.cells #[.int .u8 74, .int .u8 101, .int .u8 102, .int .u8 101] 5) = Y := ⟨_, rfl⟩
          obtain ⟨g216, hg216⟩ : ∃ g, X214.heap.size = g := ⟨_, rfl⟩
          rw [hX216] at S_217
          rw [hX216] at T0_218
          rw [hX216] at J0_216
          rw [hg216] at hlt
          rw [hg216] at J0_216
          rw [hX216, hg216]
          clear hX216 hg216 hba216
          have HNE := kept (show g214 ≠ g216 by omega)
          clear hlt
          refine wpAnyH_ready (rs := [50, 53]) (by kernel_rfl) (by simp) ?_
          refine AllReadyH.cons rfl (fun K hK => ?_) (AllReadyH.cons rfl (fun K hK => ?_) (AllReadyH.nil))
          · have kcv := run_conv_const (P := Tryd.prog) X216 g216 22 5 #[.int .u8 74, .int .u8 101, .int .u8 102, .int .u8 101] 4 4 J0_216.out.1 Tryd.underlying22 Tryd.underlying5
            change (convert _ _ _).run _ _ = .ok _ (frz X216 g216 4) at kcv
            have HNEX : g214 ≠ g216 := by have := HNE.out; omega
            have S_220 := kept (HKG.out X216 g216 4 S_217.out J0_216.out.2)
            have J_221 := kept ((show Mem (frz X216 g216 4) g216 (some ⟨g216, 0, none⟩) jefeB from (mem_blk (l := jefeB) J0_216.out.1).frz _ _))
            have T0_222 := kept ((show _ ∧ _ from ⟨T0_218.out.1.grown (frz_gb X216 g216 4) (fun e => HNEX (by injection e)), T0_218.out.2⟩))
            clear S_217 T0_218 J0_216
            clear HNEX
            go_simp
            clear kcv
            refine hK.out _ _ S_220.out (fun _ => ?_)
            clear hK K
            try simp only [Act.put, List.getElem_toArray, List.getElem_cons_zero, List.getElem_cons_succ, List.setIfInBounds_toArray, List.set_cons_zero, List.set_cons_succ]
            obtain ⟨X219, hX219⟩ : ∃ Y, frz X216 g216 4 = Y := ⟨_, rfl⟩
            rw [hX219] at S_220
            rw [hX219] at J_221
            rw [hX219] at T0_222
            rw [hX219]
            clear hX219
            refine wpAnyH_ready (rs := [53]) (by kernel_rfl) (by simp) ?_
            refine AllReadyH.cons rfl (fun K hK => ?_) (AllReadyH.nil)
            have kcv := run_conv_const (P := Tryd.prog) X219 g214 22 5 #[.int .u8 119, .int .u8 104, .int .u8 97, .int .u8 116, .int .u8 32, .int .u8 100, .int .u8 111, .int .u8 32, .int .u8 121, .int .u8 97, .int .u8 32, .int .u8 119, .int .u8 97, .int .u8 110, .int .u8 116, .int .u8 32, .int .u8 102, .int .u8 111, .int .u8 114, .int .u8 32, .int .u8 110, .int .u8 111, .int .u8 116, .int .u8 104, .int .u8 105, .int .u8 110, .int .u8 103, .int .u8 63] 28 28 T0_222.out.1 Tryd.underlying22 Tryd.underlying5
            change (convert _ _ _).run _ _ = .ok _ (frz X219 g214 28) at kcv
            have S_224 := kept (HKG.out X219 g214 28 S_220.out T0_222.out.2)
            have T_225 := kept ((show Mem (frz X219 g214 28) g214 (some ⟨g214, 0, none⟩) wantB from (mem_blk (l := wantB) T0_222.out.1).frz _ _))
            have J_226 := kept (J_221.out.frz g214 28)
            clear S_220 J_221 T0_222
            go_simp
            clear kcv
            refine hK.out _ _ S_224.out (fun _ => ?_)
            clear hK K
            try simp only [Act.put, List.getElem_toArray, List.getElem_cons_zero, List.getElem_cons_succ, List.setIfInBounds_toArray, List.set_cons_zero, List.set_cons_succ]
            obtain ⟨X223, hX223⟩ : ∃ Y, frz X219 g214 28 = Y := ⟨_, rfl⟩
            rw [hX223] at S_224
            rw [hX223] at T_225
            rw [hX223] at J_226
            rw [hX223]
            clear hX223
            refine wpAnyH_ready (rs := [54]) (by kernel_rfl) (by simp) ?_
            refine AllReadyH.cons rfl (fun K hK => ?_) (AllReadyH.nil)
            go_simp
            have hba227 : Below X223.heap.size X223 (X223.alloc (.cells #[.slice (some ⟨g214, 0, none⟩) 28 28] 22)) := (Below.refl _ X223).alloc (Nat.le_refl _) _
            have L_227 := kept (show MemM (X223.alloc (.cells #[.slice (some ⟨g214, 0, none⟩) 28 28] 22)) X223.heap.size (some ⟨X223.heap.size, 0, none⟩) [wantB] from memM_one (w := X223) (g := X223.heap.size) (c1 := 28) rfl T_225.out (by decide))
            have S_228 := kept (HKEEP.out _ _ S_224.out hba227)
            clear S_224
            have T_229 := kept (T_225.out.below0 hba227)
            clear T_225
            have J_230 := kept (J_226.out.below0 hba227)
            clear J_226
            refine hK.out _ _ S_228.out (fun _ => ?_)
            clear hK K
            try simp only [Act.put, List.getElem_toArray, List.getElem_cons_zero, List.getElem_cons_succ, List.setIfInBounds_toArray, List.set_cons_zero, List.set_cons_succ]
            obtain ⟨X227, hX227⟩ : ∃ Y, X223.alloc (.cells #[.slice (some ⟨g214, 0, none⟩) 28 28] 22) = Y := ⟨_, rfl⟩
            obtain ⟨g227, hg227⟩ : ∃ g, X223.heap.size = g := ⟨_, rfl⟩
            rw [hX227] at S_228
            rw [hX227] at T_229
            rw [hX227] at J_230
            rw [hX227] at L_227
            rw [hg227] at L_227
            rw [hX227, hg227]
            clear hX227 hg227 hba227
            refine wpAnyH_ready (rs := [55]) (by kernel_rfl) (by simp) ?_
            refine AllReadyH.cons rfl (fun K hK => ?_) (AllReadyH.nil)
            go_simp
            refine (HC2.out X227 g216 g227 S_228.out J_230.out L_227.out).mono ?_
            rintro e Y231 ⟨rfl, hb231⟩
            have S_232 := kept (HKEEP.out _ _ S_228.out hb231)
            clear S_228
            refine hK.out _ _ S_232.out (fun _ => ?_)
            clear hK K
            try simp only [Act.put, List.getElem_toArray, List.getElem_cons_zero, List.getElem_cons_succ, List.setIfInBounds_toArray, List.set_cons_zero, List.set_cons_succ]
            refine listed_as #[true, true, true, true, true, true, true, true, true, true, true, true, true, true, true, true, true, true, true, true, true, true, true, true, true, true, true, true, true, true, true, true, true, true, true, true, true, true, true, true, true, true, true, true, true, true, true, true, true, true, true, true, true, true, true, true, false, false, false] (by kernel_rfl) ?_
            exact REST g216 g214 g227 Y231 S_232.out
          · have kcv := run_conv_const (P := Tryd.prog) X216 g214 22 5 #[.int .u8 119, .int .u8 104, .int .u8 97, .int .u8 116, .int .u8 32, .int .u8 100, .int .u8 111, .int .u8 32, .int .u8 121, .int .u8 97, .int .u8 32, .int .u8 119, .int .u8 97, .int .u8 110, .int .u8 116, .int .u8 32, .int .u8 102, .int .u8 111, .int .u8 114, .int .u8 32, .int .u8 110, .int .u8 111, .int .u8 116, .int .u8 104, .int .u8 105, .int .u8 110, .int .u8 103, .int .u8 63] 28 28 T0_218.out.1 Tryd.underlying22 Tryd.underlying5
            change (convert _ _ _).run _ _ = .ok _ (frz X216 g214 28) at kcv
            have HNEX : g216 ≠ g214 := by have := HNE.out; omega
            have S_234 := kept (HKG.out X216 g214 28 S_217.out T0_218.out.2)
            have T_235 := kept ((show Mem (frz X216 g214 28) g214 (some ⟨g214, 0, none⟩) wantB from (mem_blk (l := wantB) T0_218.out.1).frz _ _))
            have J0_236 := kept ((show _ ∧ _ from ⟨J0_216.out.1.grown (frz_gb X216 g214 28) (fun e => HNEX (by injection e)), J0_216.out.2⟩))
            clear S_217 T0_218 J0_216
            clear HNEX
            go_simp
            clear kcv
            refine hK.out _ _ S_234.out (fun _ => ?_)
            clear hK K
            try simp only [Act.put, List.getElem_toArray, List.getElem_cons_zero, List.getElem_cons_succ, List.setIfInBounds_toArray, List.set_cons_zero, List.set_cons_succ]
            obtain ⟨X233, hX233⟩ : ∃ Y, frz X216 g214 28 = Y := ⟨_, rfl⟩
            rw [hX233] at S_234
            rw [hX233] at T_235
            rw [hX233] at J0_236
            rw [hX233]
            clear hX233
            refine wpAnyH_ready (rs := [50, 54]) (by kernel_rfl) (by simp) ?_
            refine AllReadyH.cons rfl (fun K hK => ?_) (AllReadyH.cons rfl (fun K hK => ?_) (AllReadyH.nil))
            · have kcv := run_conv_const (P := Tryd.prog) X233 g216 22 5 #[.int .u8 74, .int .u8 101, .int .u8 102, .int .u8 101] 4 4 J0_236.out.1 Tryd.underlying22 Tryd.underlying5
              change (convert _ _ _).run _ _ = .ok _ (frz X233 g216 4) at kcv
              have S_238 := kept (HKG.out X233 g216 4 S_234.out J0_236.out.2)
              have J_239 := kept ((show Mem (frz X233 g216 4) g216 (some ⟨g216, 0, none⟩) jefeB from (mem_blk (l := jefeB) J0_236.out.1).frz _ _))
              have T_240 := kept (T_235.out.frz g216 4)
              clear S_234 T_235 J0_236
              go_simp
              clear kcv
              refine hK.out _ _ S_238.out (fun _ => ?_)
              clear hK K
              try simp only [Act.put, List.getElem_toArray, List.getElem_cons_zero, List.getElem_cons_succ, List.setIfInBounds_toArray, List.set_cons_zero, List.set_cons_succ]
              obtain ⟨X237, hX237⟩ : ∃ Y, frz X233 g216 4 = Y := ⟨_, rfl⟩
              rw [hX237] at S_238
              rw [hX237] at J_239
              rw [hX237] at T_240
              rw [hX237]
              clear hX237
              refine wpAnyH_ready (rs := [54]) (by kernel_rfl) (by simp) ?_
              refine AllReadyH.cons rfl (fun K hK => ?_) (AllReadyH.nil)
              go_simp
              have hba241 : Below X237.heap.size X237 (X237.alloc (.cells #[.slice (some ⟨g214, 0, none⟩) 28 28] 22)) := (Below.refl _ X237).alloc (Nat.le_refl _) _
              have L_241 := kept (show MemM (X237.alloc (.cells #[.slice (some ⟨g214, 0, none⟩) 28 28] 22)) X237.heap.size (some ⟨X237.heap.size, 0, none⟩) [wantB] from memM_one (w := X237) (g := X237.heap.size) (c1 := 28) rfl T_240.out (by decide))
              have S_242 := kept (HKEEP.out _ _ S_238.out hba241)
              clear S_238
              have J_243 := kept (J_239.out.below0 hba241)
              clear J_239
              have T_244 := kept (T_240.out.below0 hba241)
              clear T_240
              refine hK.out _ _ S_242.out (fun _ => ?_)
              clear hK K
              try simp only [Act.put, List.getElem_toArray, List.getElem_cons_zero, List.getElem_cons_succ, List.setIfInBounds_toArray, List.set_cons_zero, List.set_cons_succ]
              obtain ⟨X241, hX241⟩ : ∃ Y, X237.alloc (.cells #[.slice (some ⟨g214, 0, none⟩) 28 28] 22) = Y := ⟨_, rfl⟩
              obtain ⟨g241, hg241⟩ : ∃ g, X237.heap.size = g := ⟨_, rfl⟩
              rw [hX241] at S_242
              rw [hX241] at J_243
              rw [hX241] at T_244
              rw [hX241] at L_241
              rw [hg241] at L_241
              rw [hX241, hg241]
              clear hX241 hg241 hba241
              refine wpAnyH_ready (rs := [55]) (by kernel_rfl) (by simp) ?_
              refine AllReadyH.cons rfl (fun K hK => ?_) (AllReadyH.nil)
              go_simp
              refine (HC2.out X241 g216 g241 S_242.out J_243.out L_241.out).mono ?_
              rintro e Y245 ⟨rfl, hb245⟩
              have S_246 := kept (HKEEP.out _ _ S_242.out hb245)
              clear S_242
              refine hK.out _ _ S_246.out (fun _ => ?_)
              clear hK K
              try simp only [Act.put, List.getElem_toArray, List.getElem_cons_zero, List.getElem_cons_succ, List.setIfInBounds_toArray, List.set_cons_zero, List.set_cons_succ]
              refine listed_as #[true, true, true, true, true, true, true, true, true, true, true, true, true, true, true, true, true, true, true, true, true, true, true, true, true, true, true, true, true, true, true, true, true, true, true, true, true, true, true, true, true, true, true, true, true, true, true, true, true, true, true, true, true, true, true, true, false, false, false] (by kernel_rfl) ?_
              exact REST g216 g214 g241 Y245 S_246.out
            · go_simp
              have hba247 : Below X233.heap.size X233 (X233.alloc (.cells #[.slice (some ⟨g214, 0, none⟩) 28 28] 22)) := (Below.refl _ X233).alloc (Nat.le_refl _) _
              have L_247 := kept (show MemM (X233.alloc (.cells #[.slice (some ⟨g214, 0, none⟩) 28 28] 22)) X233.heap.size (some ⟨X233.heap.size, 0, none⟩) [wantB] from memM_one (w := X233) (g := X233.heap.size) (c1 := 28) rfl T_235.out (by decide))
              have S_248 := kept (HKEEP.out _ _ S_234.out hba247)
              clear S_234
              have T_249 := kept (T_235.out.below0 hba247)
              clear T_235
              have J0_250 := kept ((show _ ∧ _ from ⟨J0_236.out.1.below hba247 J0_236.out.1.lt, J0_236.out.2⟩))
              clear J0_236
              refine hK.out _ _ S_248.out (fun _ => ?_)
              clear hK K
              try simp only [Act.put, List.getElem_toArray, List.getElem_cons_zero, List.getElem_cons_succ, List.setIfInBounds_toArray, List.set_cons_zero, List.set_cons_succ]
              obtain ⟨X247, hX247⟩ : ∃ Y, X233.alloc (.cells #[.slice (some ⟨g214, 0, none⟩) 28 28] 22) = Y := ⟨_, rfl⟩
              obtain ⟨g247, hg247⟩ : ∃ g, X233.heap.size = g := ⟨_, rfl⟩
              rw [hX247] at S_248
              rw [hX247] at T_249
              rw [hX247] at J0_250
              rw [hX247] at L_247
              rw [hg247] at L_247
              rw [hX247, hg247]
              clear hX247 hg247 hba247
              refine wpAnyH_ready (rs := [50]) (by kernel_rfl) (by simp) ?_
              refine AllReadyH.cons rfl (fun K hK => ?_) (AllReadyH.nil)
              have kcv := run_conv_const (P := Tryd.prog) X247 g216 22 5 #[.int .u8 74, .int .u8 101, .int .u8 102, .int .u8 101] 4 4 J0_250.out.1 Tryd.underlying22 Tryd.underlying5
              change (convert _ _ _).run _ _ = .ok _ (frz X247 g216 4) at kcv
              have S_252 := kept (HKG.out X247 g216 4 S_248.out J0_250.out.2)
              have J_253 := kept ((show Mem (frz X247 g216 4) g216 (some ⟨g216, 0, none⟩) jefeB from (mem_blk (l := jefeB) J0_250.out.1).frz _ _))
              have T_254 := kept (T_249.out.frz g216 4)
              have L_255 := kept (L_247.out.frz g216 4)
              clear S_248 T_249 J0_250 L_247
              go_simp
              clear kcv
              refine hK.out _ _ S_252.out (fun _ => ?_)
              clear hK K
              try simp only [Act.put, List.getElem_toArray, List.getElem_cons_zero, List.getElem_cons_succ, List.setIfInBounds_toArray, List.set_cons_zero, List.set_cons_succ]
              obtain ⟨X251, hX251⟩ : ∃ Y, frz X247 g216 4 = Y := ⟨_, rfl⟩
              rw [hX251] at S_252
              rw [hX251] at J_253
              rw [hX251] at T_254
              rw [hX251] at L_255
              rw [hX251]
              clear hX251
              refine wpAnyH_ready (rs := [55]) (by kernel_rfl) (by simp) ?_
              refine AllReadyH.cons rfl (fun K hK => ?_) (AllReadyH.nil)
              go_simp
              refine (HC2.out X251 g216 g247 S_252.out J_253.out L_255.out).mono ?_
              rintro e Y256 ⟨rfl, hb256⟩
              have S_257 := kept (HKEEP.out _ _ S_252.out hb256)
              clear S_252
              refine hK.out _ _ S_257.out (fun _ => ?_)
              clear hK K
              try simp only [Act.put, List.getElem_toArray, List.getElem_cons_zero, List.getElem_cons_succ, List.setIfInBounds_toArray, List.set_cons_zero, List.set_cons_succ]
              refine listed_as #[true, true, true, true, true, true, true, true, true, true, true, true, true, true, true, true, true, true, true, true, true, true, true, true, true, true, true, true, true, true, true, true, true, true, true, true, true, true, true, true, true, true, true, true, true, true, true, true, true, true, true, true, true, true, true, true, false, false, false] (by kernel_rfl) ?_
              exact REST g216 g214 g247 Y256 S_257.out
        · have kcv := run_conv_const (P := Tryd.prog) X214 g214 22 5 #[.int .u8 119, .int .u8 104, .int .u8 97, .int .u8 116, .int .u8 32, .int .u8 100, .int .u8 111, .int .u8 32, .int .u8 121, .int .u8 97, .int .u8 32, .int .u8 119, .int .u8 97, .int .u8 110, .int .u8 116, .int .u8 32, .int .u8 102, .int .u8 111, .int .u8 114, .int .u8 32, .int .u8 110, .int .u8 111, .int .u8 116, .int .u8 104, .int .u8 105, .int .u8 110, .int .u8 103, .int .u8 63] 28 28 T0_214.out.1 Tryd.underlying22 Tryd.underlying5
          change (convert _ _ _).run _ _ = .ok _ (frz X214 g214 28) at kcv
          have S_259 := kept (HKG.out X214 g214 28 S_215.out T0_214.out.2)
          have T_260 := kept ((show Mem (frz X214 g214 28) g214 (some ⟨g214, 0, none⟩) wantB from (mem_blk (l := wantB) T0_214.out.1).frz _ _))
          clear S_215 T0_214
          go_simp
          clear kcv
          refine hK.out _ _ S_259.out (fun _ => ?_)
          clear hK K
          try simp only [Act.put, List.getElem_toArray, List.getElem_cons_zero, List.getElem_cons_succ, List.setIfInBounds_toArray, List.set_cons_zero, List.set_cons_succ]
          obtain ⟨X258, hX258⟩ : ∃ Y, frz X214 g214 28 = Y := ⟨_, rfl⟩
          rw [hX258] at S_259
          rw [hX258] at T_260
          rw [hX258]
          clear hX258
          refine wpAnyH_ready (rs := [49, 54]) (by kernel_rfl) (by simp) ?_
          refine AllReadyH.cons rfl (fun K hK => ?_) (AllReadyH.cons rfl (fun K hK => ?_) (AllReadyH.nil))
          · go_simp
            have hba261 : Below X258.heap.size X258 (X258.alloc (.cells #[.int .u8 74, .int .u8 101, .int .u8 102, .int .u8 101] 5)) := (Below.refl _ X258).alloc (Nat.le_refl _) _
            have J0_261 := kept (show Blk (X258.alloc (.cells #[.int .u8 74, .int .u8 101, .int .u8 102, .int .u8 101] 5)) X258.heap.size 5 #[.int .u8 74, .int .u8 101, .int .u8 102, .int .u8 101] ∧ gD < X258.heap.size from ⟨Blk.new X258 _ _, S_259.out.2.lt⟩)
            have S_262 := kept (HKEEP.out _ _ S_259.out hba261)
            clear S_259
            have T_263 := kept (T_260.out.below0 hba261)
            clear T_260
            refine hK.out _ _ S_262.out (fun _ => ?_)
            clear hK K
            try simp only [Act.put, List.getElem_toArray, List.getElem_cons_zero, List.getElem_cons_succ, List.setIfInBounds_toArray, List.set_cons_zero, List.set_cons_succ]
            obtain ⟨X261, hX261⟩ : ∃ Y, X258.alloc (.cells #[.int .u8 74, .int .u8 101, .int .u8 102, .int .u8 101] 5) = Y := ⟨_, rfl⟩
            obtain ⟨g261, hg261⟩ : ∃ g, X258.heap.size = g := ⟨_, rfl⟩
            rw [hX261] at S_262
            rw [hX261] at T_263
            rw [hX261] at J0_261
            rw [hg261] at J0_261
            rw [hX261, hg261]
            clear hX261 hg261 hba261
            refine wpAnyH_ready (rs := [50, 54]) (by kernel_rfl) (by simp) ?_
            refine AllReadyH.cons rfl (fun K hK => ?_) (AllReadyH.cons rfl (fun K hK => ?_) (AllReadyH.nil))
            · have kcv := run_conv_const (P := Tryd.prog) X261 g261 22 5 #[.int .u8 74, .int .u8 101, .int .u8 102, .int .u8 101] 4 4 J0_261.out.1 Tryd.underlying22 Tryd.underlying5
              change (convert _ _ _).run _ _ = .ok _ (frz X261 g261 4) at kcv
              have S_265 := kept (HKG.out X261 g261 4 S_262.out J0_261.out.2)
              have J_266 := kept ((show Mem (frz X261 g261 4) g261 (some ⟨g261, 0, none⟩) jefeB from (mem_blk (l := jefeB) J0_261.out.1).frz _ _))
              have T_267 := kept (T_263.out.frz g261 4)
              clear S_262 T_263 J0_261
              go_simp
              clear kcv
              refine hK.out _ _ S_265.out (fun _ => ?_)
              clear hK K
              try simp only [Act.put, List.getElem_toArray, List.getElem_cons_zero, List.getElem_cons_succ, List.setIfInBounds_toArray, List.set_cons_zero, List.set_cons_succ]
              obtain ⟨X264, hX264⟩ : ∃ Y, frz X261 g261 4 = Y := ⟨_, rfl⟩
              rw [hX264] at S_265
              rw [hX264] at J_266
              rw [hX264] at T_267
              rw [hX264]
              clear hX264
              refine wpAnyH_ready (rs := [54]) (by kernel_rfl) (by simp) ?_
              refine AllReadyH.cons rfl (fun K hK => ?_) (AllReadyH.nil)
              go_simp
              have hba268 : Below X264.heap.size X264 (X264.alloc (.cells #[.slice (some ⟨g214, 0, none⟩) 28 28] 22)) := (Below.refl _ X264).alloc (Nat.le_refl _) _
              have L_268 := kept (show MemM (X264.alloc (.cells #[.slice (some ⟨g214, 0, none⟩) 28 28] 22)) X264.heap.size (some ⟨X264.heap.size, 0, none⟩) [wantB] from memM_one (w := X264) (g := X264.heap.size) (c1 := 28) rfl T_267.out (by decide))
              have S_269 := kept (HKEEP.out _ _ S_265.out hba268)
              clear S_265
              have J_270 := kept (J_266.out.below0 hba268)
              clear J_266
              have T_271 := kept (T_267.out.below0 hba268)
              clear T_267
              refine hK.out _ _ S_269.out (fun _ => ?_)
              clear hK K
              try simp only [Act.put, List.getElem_toArray, List.getElem_cons_zero, List.getElem_cons_succ, List.setIfInBounds_toArray, List.set_cons_zero, List.set_cons_succ]
              obtain ⟨X268, hX268⟩ : ∃ Y, X264.alloc (.cells #[.slice (some ⟨g214, 0, none⟩) 28 28] 22) = Y := ⟨_, rfl⟩
              obtain ⟨g268, hg268⟩ : ∃ g, X264.heap.size = g := ⟨_, rfl⟩
              rw [hX268] at S_269
              rw [hX268] at J_270
              rw [hX268] at T_271
              rw [hX268] at L_268
              rw [hg268] at L_268
              rw [hX268, hg268]
              clear hX268 hg268 hba268
              refine wpAnyH_ready (rs := [55]) (by kernel_rfl) (by simp) ?_
              refine AllReadyH.cons rfl (fun K hK => ?_) (AllReadyH.nil)
              go_simp
              refine (HC2.out X268 g261 g268 S_269.out J_270.out L_268.out).mono ?_
              rintro e Y272 ⟨rfl, hb272⟩
              have S_273 := kept (HKEEP.out _ _ S_269.out hb272)
              clear S_269
              refine hK.out _ _ S_273.out (fun _ => ?_)
              clear hK K
              try simp only [Act.put, List.getElem_toArray, List.getElem_cons_zero, List.getElem_cons_succ, List.setIfInBounds_toArray, List.set_cons_zero, List.set_cons_succ]
              refine listed_as #[true, true, true, true, true, true, true, true, true, true, true, true, true, true, true, true, true, true, true, true, true, true, true, true, true, true, true, true, true, true, true, true, true, true, true, true, true, true, true, true, true, true, true, true, true, true, true, true, true, true, true, true, true, true, true, true, false, false, false] (by kernel_rfl) ?_
              exact REST g261 g214 g268 Y272 S_273.out
            · go_simp
              have hba274 : Below X261.heap.size X261 (X261.alloc (.cells #[.slice (some ⟨g214, 0, none⟩) 28 28] 22)) := (Below.refl _ X261).alloc (Nat.le_refl _) _
              have L_274 := kept (show MemM (X261.alloc (.cells #[.slice (some ⟨g214, 0, none⟩) 28 28] 22)) X261.heap.size (some ⟨X261.heap.size, 0, none⟩) [wantB] from memM_one (w := X261) (g := X261.heap.size) (c1 := 28) rfl T_263.out (by decide))
              have S_275 := kept (HKEEP.out _ _ S_262.out hba274)
              clear S_262
              have T_276 := kept (T_263.out.below0 hba274)
              clear T_263
              have J0_277 := kept ((show _ ∧ _ from ⟨J0_261.out.1.below hba274 J0_261.out.1.lt, J0_261.out.2⟩))
              clear J0_261
              refine hK.out _ _ S_275.out (fun _ => ?_)
              clear hK K
              try simp only [Act.put, List.getElem_toArray, List.getElem_cons_zero, List.getElem_cons_succ, List.setIfInBounds_toArray, List.set_cons_zero, List.set_cons_succ]
              obtain ⟨X274, hX274⟩ : ∃ Y, X261.alloc (.cells #[.slice (some ⟨g214, 0, none⟩) 28 28] 22) = Y := ⟨_, rfl⟩
              obtain ⟨g274, hg274⟩ : ∃ g, X261.heap.size = g := ⟨_, rfl⟩
              rw [hX274] at S_275
              rw [hX274] at T_276
              rw [hX274] at J0_277
              rw [hX274] at L_274
              rw [hg274] at L_274
              rw [hX274, hg274]
              clear hX274 hg274 hba274
              refine wpAnyH_ready (rs := [50]) (by kernel_rfl) (by simp) ?_
              refine AllReadyH.cons rfl (fun K hK => ?_) (AllReadyH.nil)
              have kcv := run_conv_const (P := Tryd.prog) X274 g261 22 5 #[.int .u8 74, .int .u8 101, .int .u8 102, .int .u8 101] 4 4 J0_277.out.1 Tryd.underlying22 Tryd.underlying5
              change (convert _ _ _).run _ _ = .ok _ (frz X274 g261 4) at kcv
              have S_279 := kept (HKG.out X274 g261 4 S_275.out J0_277.out.2)
              have J_280 := kept ((show Mem (frz X274 g261 4) g261 (some ⟨g261, 0, none⟩) jefeB from (mem_blk (l := jefeB) J0_277.out.1).frz _ _))
              have T_281 := kept (T_276.out.frz g261 4)
              have L_282 := kept (L_274.out.frz g261 4)
              clear S_275 T_276 J0_277 L_274
              go_simp
              clear kcv
              refine hK.out _ _ S_279.out (fun _ => ?_)
              clear hK K
              try simp only [Act.put, List.getElem_toArray, List.getElem_cons_zero, List.getElem_cons_succ, List.setIfInBounds_toArray, List.set_cons_zero, List.set_cons_succ]
              obtain ⟨X278, hX278⟩ : ∃ Y, frz X274 g261 4 = Y := ⟨_, rfl⟩
              rw [hX278] at S_279
              rw [hX278] at J_280
              rw [hX278] at T_281
              rw [hX278] at L_282
              rw [hX278]
              clear hX278
              refine wpAnyH_ready (rs := [55]) (by kernel_rfl) (by simp) ?_
              refine AllReadyH.cons rfl (fun K hK => ?_) (AllReadyH.nil)
              go_simp
              refine (HC2.out X278 g261 g274 S_279.out J_280.out L_282.out).mono ?_
              rintro e Y283 ⟨rfl, hb283⟩
              have S_284 := kept (HKEEP.out _ _ S_279.out hb283)
              clear S_279
              refine hK.out _ _ S_284.out (fun _ => ?_)
              clear hK K
              try simp only [Act.put, List.getElem_toArray, List.getElem_cons_zero, List.getElem_cons_succ, List.setIfInBounds_toArray, List.set_cons_zero, List.set_cons_succ]
              refine listed_as #[true, true, true, true, true, true, true, true, true, true, true, true, true, true, true, true, true, true, true, true, true, true, true, true, true, true, true, true, true, true, true, true, true, true, true, true, true, true, true, true, true, true, true, true, true, true, true, true, true, true, true, true, true, true, true, true, false, false, false] (by kernel_rfl) ?_
              exact REST g261 g214 g274 Y283 S_284.out
          · go_simp
            have hba285 : Below X258.heap.size X258 (X258.alloc (.cells #[.slice (some ⟨g214, 0, none⟩) 28 28] 22)) := (Below.refl _ X258).alloc (Nat.le_refl _) _
            have L_285 := kept (show MemM (X258.alloc (.cells #[.slice (some ⟨g214, 0, none⟩) 28 28] 22)) X258.heap.size (some ⟨X258.heap.size, 0, none⟩) [wantB] from memM_one (w := X258) (g := X258.heap.size) (c1 := 28) rfl T_260.out (by decide))
            have S_286 := kept (HKEEP.out _ _ S_259.out hba285)
            clear S_259
            have T_287 := kept (T_260.out.below0 hba285)
            clear T_260
            refine hK.out _ _ S_286.out (fun _ => ?_)
            clear hK K
            try simp only [Act.put, List.getElem_toArray, List.getElem_cons_zero, List.getElem_cons_succ, List.setIfInBounds_toArray, List.set_cons_zero, List.set_cons_succ]
            obtain ⟨X285, hX285⟩ : ∃ Y, X258.alloc (.cells #[.slice (some ⟨g214, 0, none⟩) 28 28] 22) = Y := ⟨_, rfl⟩
            obtain ⟨g285, hg285⟩ : ∃ g, X258.heap.size = g := ⟨_, rfl⟩
            rw [hX285] at S_286
            rw [hX285] at T_287
            rw [hX285] at L_285
            rw [hg285] at L_285
            rw [hX285, hg285]
            clear hX285 hg285 hba285
            refine wpAnyH_ready (rs := [49]) (by kernel_rfl) (by simp) ?_
            refine AllReadyH.cons rfl (fun K hK => ?_) (AllReadyH.nil)
            go_simp
            have hba288 : Below X285.heap.size X285 (X285.alloc (.cells #[.int .u8 74, .int .u8 101, .int .u8 102, .int .u8 101] 5)) := (Below.refl _ X285).alloc (Nat.le_refl _) _
            have J0_288 := kept (show Blk (X285.alloc (.cells #[.int .u8 74, .int .u8 101, .int .u8 102, .int .u8 101] 5)) X285.heap.size 5 #[.int .u8 74, .int .u8 101, .int .u8 102, .int .u8 101] ∧ gD < X285.heap.size from ⟨Blk.new X285 _ _, S_286.out.2.lt⟩)
            have S_289 := kept (HKEEP.out _ _ S_286.out hba288)
            clear S_286
            have T_290 := kept (T_287.out.below0 hba288)
            clear T_287
            have L_291 := kept (L_285.out.below0 hba288)
            clear L_285
            refine hK.out _ _ S_289.out (fun _ => ?_)
            clear hK K
            try simp only [Act.put, List.getElem_toArray, List.getElem_cons_zero, List.getElem_cons_succ, List.setIfInBounds_toArray, List.set_cons_zero, List.set_cons_succ]
            obtain ⟨X288, hX288⟩ : ∃ Y, X285.alloc (.cells #[.int .u8 74, .int .u8 101, .int .u8 102, .int .u8 101] 5) = Y := ⟨_, rfl⟩
            obtain ⟨g288, hg288⟩ : ∃ g, X285.heap.size = g := ⟨_, rfl⟩
            rw [hX288] at S_289
            rw [hX288] at T_290
            rw [hX288] at L_291
            rw [hX288] at J0_288
            rw [hg288] at J0_288
            rw [hX288, hg288]
            clear hX288 hg288 hba288
            refine wpAnyH_ready (rs := [50]) (by kernel_rfl) (by simp) ?_
            refine AllReadyH.cons rfl (fun K hK => ?_) (AllReadyH.nil)
            have kcv := run_conv_const (P := Tryd.prog) X288 g288 22 5 #[.int .u8 74, .int .u8 101, .int .u8 102, .int .u8 101] 4 4 J0_288.out.1 Tryd.underlying22 Tryd.underlying5
            change (convert _ _ _).run _ _ = .ok _ (frz X288 g288 4) at kcv
            have S_293 := kept (HKG.out X288 g288 4 S_289.out J0_288.out.2)
            have J_294 := kept ((show Mem (frz X288 g288 4) g288 (some ⟨g288, 0, none⟩) jefeB from (mem_blk (l := jefeB) J0_288.out.1).frz _ _))
            have T_295 := kept (T_290.out.frz g288 4)
            have L_296 := kept (L_291.out.frz g288 4)
            clear S_289 T_290 L_291 J0_288
            go_simp
            clear kcv
            refine hK.out _ _ S_293.out (fun _ => ?_)
            clear hK K
            try simp only [Act.put, List.getElem_toArray, List.getElem_cons_zero, List.getElem_cons_succ, List.setIfInBounds_toArray, List.set_cons_zero, List.set_cons_succ]
            obtain ⟨X292, hX292⟩ : ∃ Y, frz X288 g288 4 = Y := ⟨_, rfl⟩
            rw [hX292] at S_293
            rw [hX292] at J_294
            rw [hX292] at T_295
            rw [hX292] at L_296
            rw [hX292]
            clear hX292
            refine wpAnyH_ready (rs := [55]) (by kernel_rfl) (by simp) ?_
            refine AllReadyH.cons rfl (fun K hK => ?_) (AllReadyH.nil)
            go_simp
            refine (HC2.out X292 g288 g285 S_293.out J_294.out L_296.out).mono ?_
            rintro e Y297 ⟨rfl, hb297⟩
            have S_298 := kept (HKEEP.out _ _ S_293.out hb297)
            clear S_293
            refine hK.out _ _ S_298.out (fun _ => ?_)
            clear hK K
            try simp only [Act.put, List.getElem_toArray, List.getElem_cons_zero, List.getElem_cons_succ, List.setIfInBounds_toArray, List.set_cons_zero, List.set_cons_succ]
            refine listed_as #[true, true, true, true, true, true, true, true, true, true, true, true, true, true, true, true, true, true, true, true, true, true, true, true, true, true, true, true, true, true, true, true, true, true, true, true, true, true, true, true, true, true, true, true, true, true, true, true, true, true, true, true, true, true, true, true, false, false, false] (by kernel_rfl) ?_
            exact REST g288 g214 g285 Y297 S_298.out
    case rest =>
      intro gJ49 gT49 gL49 Y49m hSm49
      show wpAnyH _ _ _ _ _ _ _ _ _
      have SM49 := kept hSm49
      clear hSm49
      clear SM40
      refine wpAnyH_take (i := 56) (v := ?_) rfl (by kernel_rfl) (by kernel_rfl) (by kernel_rfl) (fun _ _ _ h => h) (Or.inl ⟨by rfl, ?_⟩) SM49.out ?_
      rotate_left
      · intro w _; go_simp; with_reducible rfl
      try simp only [Act.put, List.getElem_toArray, List.getElem_cons_zero, List.getElem_cons_succ, List.setIfInBounds_toArray, List.set_cons_zero, List.set_cons_succ]
      refine wpAnyH_take (i := 57) (v := ?_) rfl (by kernel_rfl) (by kernel_rfl) (by kernel_rfl) (fun _ _ _ h => h) (Or.inl ⟨by rfl, ?_⟩) SM49.out ?_
      rotate_left
      · intro w _; go_simp; with_reducible rfl
      try simp only [Act.put, List.getElem_toArray, List.getElem_cons_zero, List.getElem_cons_succ, List.setIfInBounds_toArray, List.set_cons_zero, List.set_cons_succ]
      refine wpAnyH_take (i := 58) (v := ?_) rfl (by kernel_rfl) (by kernel_rfl) (by kernel_rfl) (fun _ _ _ h => h) (Or.inl ⟨by rfl, ?_⟩) SM49.out ?_
      rotate_left
      · intro w _; go_simp; with_reducible rfl
      try simp only [Act.put, List.getElem_toArray, List.getElem_cons_zero, List.getElem_cons_succ, List.setIfInBounds_toArray, List.set_cons_zero, List.set_cons_succ]
      refine wpAnyH_done (by kernel_rfl) ?_ _
      go_wp2
      go_ret
      exact ⟨rfl, SM49.out.1⟩
end Go.Proofs.YtgplkdnffbappaaDoor
