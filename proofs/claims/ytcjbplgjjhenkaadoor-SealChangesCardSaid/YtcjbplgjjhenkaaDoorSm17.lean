/-
  Equal of package mac, Same of the reference: whether two strings have the same bytes, by contracts.
-/
import Derived.Test.YtcjbplgjjhenkaaDoorSm13
import Derived.Lib.SmallJoins
import Derived.Deep.AppendLies
/-
  Small laws of digests, lists and cells that several stages share.
-/
namespace Go.Proofs.YtcjbplgjjhenkaaDoor
open Go.RowKit
set_option linter.unusedVariables false
set_option linter.unusedSimpArgs false

theorem dig_len (m : List UInt8) : (digest m).length = 32 := by simp [digest, dig32]
theorem memM_one {w : World} {A1 : Option Addr} {q1 c1 g : Nat} {l1 : List UInt8} (hg : g = w.heap.size) (h1 : Mem w q1 A1 l1) (hc : l1.length ≤ c1) :
    MemM (w.alloc (.cells #[.slice A1 l1.length c1] 24)) g (some ⟨g, 0, none⟩) [l1] := by
  subst hg
  refine .inr ⟨0, rfl, fun j l hj => ?_⟩
  rcases j with _ | j
  · obtain rfl : l1 = l := by simpa using hj
    exact ⟨A1, q1, c1, by rw [(Blk.new w 24 #[.slice A1 l1.length c1]).cell]; rfl, h1.alloc _, hc⟩
  · simp at hj
theorem list_cell {w : World} {g : Nat} {t : TypeId} {l : List UInt8} (h : Blk w g t (l.map bv).toArray) (k : Nat) (hk : k < l.length) : w.cell? ⟨g, k, none⟩ = some (.int .u8 ((l.getD k 0).toNat : Int)) := by
  rw [h.cell, gA_list, gA_at _ _ hk]
  rfl
theorem mem_mark {w : World} {l : List UInt8} {cs : Array Value} {t : TypeId} {fr : Nat × Nat} {g : Nat} (hg : g = w.heap.size) (h : cs = (l.map bv).toArray) : Mem (w.alloc (.cells cs t fr)) g (some ⟨g, 0, none⟩) l := by
  subst h
  subst hg
  refine .inr ⟨0, rfl, fun j b hj => ?_⟩
  rw [World.cell?_alloc_mark]
  simp [hj, bv]
end Go.Proofs.YtcjbplgjjhenkaaDoor
/-
  What the chapter of package mac says, as plain functions: the exclusive or of bytes, a padded key, the code, the derived string.
-/
namespace Go.Proofs.YtcjbplgjjhenkaaDoor
open Go.RowKit
set_option linter.unusedVariables false

/-! ### Bytes -/
theorem wrap_u8_nat (n : Nat) (h : n < 256) : IntKind.u8.wrap (n : Int) = (n : Int) := by
  rw [IntKind.wrap_u8]
  omega
theorem ofInt_b8 (x : UInt8) : BitVec.ofInt 8 (x.toNat : Int) = x.toBitVec := by
  apply BitVec.eq_of_toNat_eq
  have := byte_lt x
  rw [BitVec.toNat_ofInt]
  show _ = x.toNat
  omega
/-- The exclusive or, the or of two bytes: words that the walk does not open. -/
def xr (a b : UInt8) : UInt8 := a ^^^ b
def orr (a b : UInt8) : UInt8 := a ||| b
theorem x8 (a b : UInt8) : bits .xor .u8 (a.toNat : Int) (b.toNat : Int) = ((xr a b).toNat : Int) := by
  show IntKind.u8.wrap ((BitVec.ofInt 8 (a.toNat : Int) ^^^ BitVec.ofInt 8 (b.toNat : Int)).toNat : Int) = _
  rw [ofInt_b8, ofInt_b8, wrap_u8_nat _ (BitVec.isLt _)]
  rfl
theorem o8 (a b : UInt8) : bits .or .u8 (a.toNat : Int) (b.toNat : Int) = ((orr a b).toNat : Int) := by
  show IntKind.u8.wrap ((BitVec.ofInt 8 (a.toNat : Int) ||| BitVec.ofInt 8 (b.toNat : Int)).toNat : Int) = _
  rw [ofInt_b8, ofInt_b8, wrap_u8_nat _ (BitVec.isLt _)]
  rfl
theorem xr_zero_iff (a b : UInt8) : xr a b = 0 ↔ a = b := by
  unfold xr
  constructor
  · intro h
    have : (a ^^^ b) ^^^ b = 0 ^^^ b := by rw [h]
    simpa [UInt8.xor_assoc] using this
  · rintro rfl
    simp
theorem orr_zero_iff (a b : UInt8) : orr a b = 0 ↔ a = 0 ∧ b = 0 := by
  unfold orr
  constructor
  · intro h
    have h1 := congrArg UInt8.toNat h
    rw [UInt8.toNat_or] at h1
    have h2 : a.toNat ||| b.toNat = 0 := h1
    have ha : a.toNat = 0 := by
      have := Nat.left_le_or (n := a.toNat) (m := b.toNat)
      omega
    have hb : b.toNat = 0 := by
      have := Nat.right_le_or (n := a.toNat) (m := b.toNat)
      omega
    exact ⟨UInt8.toNat_inj.1 ha, UInt8.toNat_inj.1 hb⟩
  · rintro ⟨rfl, rfl⟩
    rfl

/-! ### Codes -/
def xorB (m : UInt8) (l : List UInt8) : List UInt8 := l.map (fun x => xr x m)
theorem xorB_len (m : UInt8) (l : List UInt8) : (xorB m l).length = l.length := by simp [xorB]
/-- A key, or its digest if it has more than 64 bytes. -/
def keyS (k : List UInt8) : List UInt8 := if 64 < k.length then digest k else k
theorem keyS_len (k : List UInt8) : (keyS k).length ≤ 64 := by
  unfold keyS
  split
  · rw [dig_len]; omega
  · omega
/-- The key with zero bytes. -/
def padK (k : List UInt8) : List UInt8 := keyS k ++ List.replicate (64 - (keyS k).length) 0
theorem padK_len (k : List UInt8) : (padK k).length = 64 := by
  have := keyS_len k
  unfold padK
  rw [List.length_append, List.length_replicate]
  omega
def hmac (k m : List UInt8) : List UInt8 := digest (xorB 92 (padK k) ++ digest (xorB 54 (padK k) ++ m))
theorem hmac_len (k m : List UInt8) : (hmac k m).length = 32 := dig_len _
/-- A key of more than 64 bytes and its digest, a shorter one and that with a zero byte, have the same codes. -/
theorem hmac_zero (k m : List UInt8) (h : k.length < 64) : hmac (k ++ [0]) m = hmac k m := by
  have e : padK (k ++ [0]) = padK k := by
    unfold padK keyS
    rw [if_neg (by simp; omega), if_neg (by omega), List.length_append, List.length_singleton, List.append_assoc]
    congr 1
    rw [show 64 - k.length = (64 - (k.length + 1)) + 1 by omega, List.replicate_succ]
    rfl
  unfold hmac
  rw [e]

/-! ### Derived strings -/
def codes (k lab : List UInt8) : Nat → List UInt8
  | 0 => []
  | j + 1 => codes k lab j ++ hmac k (UInt8.ofNat (j + 1) :: lab)
theorem codes_len (k lab : List UInt8) (j : Nat) : (codes k lab j).length = 32 * j := by
  induction j with
  | zero => rfl
  | succ j ih => rw [codes, List.length_append, ih, hmac_len]; omega
theorem codes_take (k lab : List UInt8) (n i j : Nat) (hn : n ≤ 32 * i) (hij : i ≤ j) : (codes k lab j).take n = (codes k lab i).take n := by
  induction j with
  | zero => obtain rfl : i = 0 := by omega
            rfl
  | succ j ih =>
    by_cases e : i = j + 1
    · subst e; rfl
    · rw [codes, List.take_append_of_le_length (by rw [codes_len]; omega)]
      exact ih (by omega)
/-- The derived string of n bytes. -/
def derive (k lab : List UInt8) (n : Nat) : List UInt8 := (codes k lab ((n + 31) / 32)).take n
theorem derive_len (k lab : List UInt8) (n : Nat) : (derive k lab n).length = n := by
  unfold derive
  rw [List.length_take, codes_len]
  omega
theorem derive_of (k lab : List UInt8) (n j : Nat) (h : n ≤ 32 * j) : (codes k lab j).take n = derive k lab n := by
  unfold derive
  exact codes_take k lab n _ j (by omega) (by omega)
theorem derive_take (k lab : List UInt8) (n m : Nat) (h : m ≤ n) : (derive k lab n).take m = derive k lab m := by
  rw [← derive_of k lab n ((n + 31) / 32) (by omega), ← derive_of k lab m ((n + 31) / 32) (by omega), List.take_take, Nat.min_eq_left h]
/-- One round of Derive. -/
theorem derive_round (k lab : List UInt8) (n j : Nat) (h : 32 * j < n) : (codes k lab (j + 1)).take n = (codes k lab j).take n ++ (hmac k (UInt8.ofNat (j + 1) :: lab)).take (min 32 (n - 32 * j)) := by
  rw [codes, List.take_append, codes_len, List.take_of_length_le (l := codes k lab j) (by rw [codes_len]; omega)]
  congr 1
  by_cases h32 : 32 ≤ n - 32 * j
  · rw [Nat.min_eq_left h32, List.take_of_length_le (by rw [hmac_len]; omega), List.take_of_length_le (by rw [hmac_len]; omega)]
  · rw [Nat.min_eq_right (by omega)]
theorem derive_len_j (k lab : List UInt8) (n j : Nat) : ((codes k lab j).take n).length = min n (32 * j) := by
  rw [List.length_take, codes_len]
end Go.Proofs.YtcjbplgjjhenkaaDoor
/-
  mask of package mac, by a contract.
-/
namespace Go.Proofs.YtcjbplgjjhenkaaDoor
open Go.RowKit
set_option linter.unusedVariables false
set_option linter.unusedSimpArgs false

/-- A block of which the first k bytes are masked. -/
def mkF (m : UInt8) (l : List UInt8) (k : Nat) : Nat → Value := fun j => bv (if j < k then xr (l.getD j 0) m else l.getD j 0)
theorem mkF_zero (m : UInt8) (l : List UInt8) (h : l.length = 64) : (l.map bv).toArray = gA 64 (mkF m l 0) := by
  rw [gA_list, h]
  exact gA_ext fun j _ => by unfold mkF; rw [if_neg (by omega)]
theorem mkF_set (m : UInt8) (l : List UInt8) (k : Nat) : ∀ j, j < 64 → mkF m l (k + 1) j = if j = k then bv (xr (l.getD k 0) m) else mkF m l k j := fun j _ => by
  unfold mkF
  by_cases e : j = k
  · subst e
    rw [if_pos (by omega), if_pos rfl]
  · rw [if_neg e]
    by_cases h : j < k
    · rw [if_pos h, if_pos (by omega)]
    · rw [if_neg h, if_neg (by omega)]
theorem mkF_all (m : UInt8) (l : List UInt8) (h : l.length = 64) : gA 64 (mkF m l 64) = ((xorB m l).map bv).toArray := by
  rw [gA_list, xorB_len, h]
  refine gA_ext fun j hj => ?_
  unfold mkF xorB
  rw [if_pos hj]
  simp [h, hj]
theorem mkF_self (m : UInt8) (l : List UInt8) (k : Nat) : mkF m l k k = .int .u8 ((l.getD k 0).toNat : Int) := by
  unfold mkF
  rw [if_neg (by omega)]
  rfl
theorem mkF_one (m : UInt8) (l : List UInt8) (k : Nat) : (gA 64 (mkF m l k)).all (·.oneCell') = true := by
  rw [Array.all_eq_true_iff_forall_mem]
  intro v hv
  have hv' : v ∈ (List.range 64).map (mkF m l k) := by simpa [gA] using hv
  obtain ⟨i, _, rfl⟩ := List.mem_map.1 hv'
  rfl
theorem zeros_g (n : Nat) : (Array.replicate n (Value.int .u8 0)) = gA n (fun _ => bv 0) := by
  apply Array.ext_getElem?
  intro j
  by_cases h : j < n
  · rw [gA_at _ _ h]; simp [h]; rfl
  · rw [Array.getElem?_eq_none (by simp; omega), Array.getElem?_eq_none (by rw [gA_size]; omega)]
set_option maxHeartbeats 4000000 in
set_option maxRecDepth 100000 in
theorem mask_any (w : World) (l : List UInt8) (m : UInt8) (hl : l.length = 64) :
    Calls Tryd.prog 37 #[.agg (l.map bv).toArray, .int .u8 (m.toNat : Int)] w fun e w' => e = .returned (.agg ((xorB m l).map bv).toArray) ∧ Below w.heap.size w w' := by
  have HL := kept hl
  have HA := kept (mkF_all m l hl)
  rw [mkF_zero m l hl]
  clear hl
  go_enter Tryd.func37, Tryd.ntmps37
  go_wp2_with fail
  go_name_world W0 hW0
  have HB0 := kept (show Blk W0 w.heap.size 67 (gA 64 (mkF m l 0)) by
    rw [← hW0]
    exact (Blk.new w _ _).alloc _)
  have HR0 := kept (show Blk W0 (w.heap.size + 1) 67 (gA 64 (fun _ => bv 0)) by
    rw [← hW0, ← zeros_g]
    have n2 := Blk.new (w.alloc (.cells (gA 64 (mkF m l 0)) 67)) 67 (Array.replicate 64 (.int .u8 0))
    simp only [World.size_alloc] at n2
    exact n2)
  have HW0 := kept (show Below w.heap.size w W0 by
    rw [← hW0]
    exact ((Below.refl _ _).alloc (Nat.le_refl _) _).alloc (by simp) _)
  clear hW0
  go_loopw [6] (fun i wr => ∃ k : Nat, k ≤ 64 ∧ i = .int .i64 k ∧ Kept (Blk wr w.heap.size 67 (gA 64 (mkF m l k))) ∧ Kept (Blk wr (w.heap.size + 1) 67 (gA 64 (fun _ => bv 0))) ∧ Kept (Below w.heap.size w wr)) (fun i _ => 64 - (intOf i).toNat)
  case atStart => exact ⟨0, Nat.zero_le _, rfl, HB0, HR0, HW0⟩
  case round =>
    obtain ⟨k, hk, rfl, HB1, HR1, HW1⟩ := hrel
    rename World => W1
    clear HB0 HR0 HW0
    by_cases hlt : k < 64
    · have c1 : W1.cell? ⟨w.heap.size, k, none⟩ = some (.int .u8 ((l.getD k 0).toNat : Int)) := by rw [HB1.out.cell, ← mkF_self m]; exact gA_at _ _ hlt
      have f1 := HB1.out.frozen k
      have HS := kept (mkF_set m l k)
      generalize l.getD k 0 = x at c1 HS
      have hx := x8 x m
      go_wp2
      go_roundw
      case rel =>
        refine ⟨k + 1, by omega, by go_num, kept (HB1.out.putG k _ HS.out), kept (HR1.out.far (by show w.heap.size + 1 ≠ w.heap.size; omega) _), kept (HW1.out.setCell (p := ⟨w.heap.size, k, none⟩) (Nat.le_refl _) _)⟩
      case measure => simp [intOf]; omega
    · obtain rfl : k = 64 := by omega
      go_wp2_with (first | (refine wpList_load_row rfl 67 _ rfl w.heap.size rfl 67 (gA 64 (mkF m l 64)) (0,0) _ HB1.out Tryd.underlying67 rfl (by rw [b64_size, gA_size]) ?_) | (refine wpList_store_row rfl 67 _ _ rfl (w.heap.size + 1) (gA 64 (mkF m l 64)) rfl rfl 67 (gA 64 (fun _ => bv 0)) HR1.out (by rw [b64_size, gA_size]) (by rw [gA_size, gA_size]) (mkF_one _ _ _) ?_))
      exact bodyPost_ret (v := .agg (gA 64 (mkF m l 64))) (results_cell_row Tryd.results37 _ _ (w.heap.size + 1) 67 (gA 64 (mkF m l 64)) (0, 0) _ rfl (setRow_heap _ _ _ _ _ _ HR1.out) Tryd.underlying67 rfl (by rw [b64_size, gA_size])) rfl ⟨by rw [HA.out], below_setRow HW1.out (by omega) _⟩
end Go.Proofs.YtcjbplgjjhenkaaDoor
/-
  slices.Concat over slices of byte slices, by a contract.
-/
namespace Go.Proofs.YtcjbplgjjhenkaaDoor
open Go.RowKit
set_option linter.unusedVariables false
set_option linter.unusedSimpArgs false

/-- At address A (of block q) lie the values vs; of an empty list nothing is said. -/
def MemV (w : World) (q : Nat) (A : Option Addr) (vs : List Value) : Prop :=
  vs = [] ∨ ∃ o, A = some ⟨q, o, none⟩ ∧ ∀ j v, vs[j]? = some v → w.cell? ⟨q, o + j, none⟩ = some v
theorem MemV.below0 {w w' : World} {q : Nat} {A : Option Addr} {vs : List Value} (h : MemV w q A vs) (hb : Below w.heap.size w w') : MemV w' q A vs := by
  rcases h with h | ⟨o, ho, hc⟩
  · exact .inl h
  · exact .inr ⟨o, ho, fun j v hj => (hb.cell (p := ⟨q, o + j, none⟩) (World.block_lt_of_cell? w _ (hc j v hj))).trans (hc j v hj)⟩
/-- At address A lie slices of one-cell values, which read as VL. -/
def MemVV (w : World) (q : Nat) (A : Option Addr) (VL : List (List Value)) : Prop :=
  VL = [] ∨ ∃ o, A = some ⟨q, o, none⟩ ∧ ∀ j vs, VL[j]? = some vs → ∃ A' q' c', w.cell? ⟨q, o + j, none⟩ = some (.slice A' vs.length c') ∧ MemV w q' A' vs ∧ ∀ v ∈ vs, v.oneCell' = true
theorem MemVV.at_ {w : World} {q : Nat} {A : Option Addr} {VL : List (List Value)} {j : Nat} (h : MemVV w q A VL) (hj : j < VL.length) :
    ∃ o A' q' c', A = some ⟨q, o, none⟩ ∧ w.cell? ⟨q, o + j, none⟩ = some (.slice A' (VL[j]'hj).length c') ∧ MemV w q' A' (VL[j]'hj) ∧ ∀ v ∈ VL[j]'hj, v.oneCell' = true := by
  rcases h with rfl | ⟨o, ho, hc⟩
  · simp at hj
  · obtain ⟨A', q', c', h1, h2, h3⟩ := hc j _ (List.getElem?_eq_getElem hj)
    exact ⟨o, A', q', c', ho, h1, h2, h3⟩
theorem MemVV.below0 {w w' : World} {q : Nat} {A : Option Addr} {VL : List (List Value)} (h : MemVV w q A VL) (hb : Below w.heap.size w w') : MemVV w' q A VL := by
  rcases h with rfl | ⟨o, ho, hc⟩
  · exact .inl rfl
  · refine .inr ⟨o, ho, fun j l hj => ?_⟩
    obtain ⟨A', q', c', h1, h2, h3⟩ := hc j l hj
    exact ⟨A', q', c', (hb.cell (p := ⟨q, o + j, none⟩) (World.block_lt_of_cell? w _ h1)).trans h1, h2.below0 hb, h3⟩
/-- v is a slice of byte slices of the call's own that holds just the values vs. -/
def OwnV (w : World) (B : Nat) (v : Value) (vs : List Value) : Prop := w.ownsRow B 24 1 v vs.length vs
theorem sl_info : (Tryd.prog.info? 24).map (fun i => (i.zero, i.size, i.bytes)) = some (some (.slice none 0 0), 1, 24) := by kernel_rfl

theorem run_append_vals {P : Program} (w : World) (B : Nat) (t ty : TypeId) (i : TypeInfo) (ht : P.underlying t = some (.slice 24)) (hi : P.info? 24 = some i)
    (hz : i.zero = some (.slice none 0 0)) (hs : i.size = 1) (hb : i.bytes = 24) (v : Value) (l : List Value) (hown : OwnV w B v l)
    (q : Nat) (A : Option Addr) (m c : Nat) (s : List Value) (hm : m = s.length) (hsrc : MemV w q A s) (h1 : ∀ u ∈ s, u.oneCell' = true) (hlen : (l.length + s.length) * 24 ≤ 140737488355328) (hB : B ≤ w.heap.size) :
    ∃ v' w', (Builtin.append_ #[t, t] ty #[v, .slice A m c]).run P w = .ok v' w' ∧ OwnV w' B v' (l ++ s) ∧ w.grownBy w' v.ownBlock := by
  subst hm
  cases A with
  | none =>
    have hn : s = [] := by
      rcases hsrc with h | ⟨o, h, _⟩
      · exact h
      · cases h
    subst hn
    refine ⟨v, w, ?_, by simpa using hown, World.grownBy.refl w _⟩
    rcases hown.2 with ⟨rfl, hl⟩ | ⟨g, cap, cur, rfl, _, _, hnc, _⟩
    · simp [Builtin.append_, run_underlying ht, sizeOf, typeInfo, hi, Builtin.lenOf, Builtin.firstCells]
    · simp [Builtin.append_, run_underlying ht, sizeOf, typeInfo, hi, Builtin.lenOf, Builtin.firstCells, hnc, storeCells]
  | some ad =>
    have hcells : ∀ j u, s[j]? = some u → w.cell? (ad.add j) = some u := by
      intro j u hu
      rcases hsrc with h | ⟨o, h, hc⟩
      · subst h; simp at hu
      · injection h with h
        subst h
        rw [Addr.add_mid]
        exact hc j u hu
    obtain ⟨v', w', hrun, h2, h3, _⟩ := run_append_own_at (P := P) w B t ty 24 i (.slice none 0 0) 1 24 ht hi hz hs hb rfl (by omega) v l.length l hown ad s.length c s (by simp) hcells h1
      (by unfold maxLen; omega) (by omega) hB
    exact ⟨v', w', hrun, by unfold OwnV; simpa using h2, h3⟩
theorem wpList_append_vals {P : Program} {w : World} {ops : Array Oper} {rest : List Oper} {o : Oper} {a : Act} {Q : Exit → Act → World → Prop} (hgd : o.guard = none) (s x : Operand) (t : TypeId)
    (ho : o.op = .call { callee := .builtin .append, args := #[s, x], argTypes := #[t, t] })
    (B : Nat) (i : TypeInfo) (ht : P.underlying t = some (.slice 24)) (hi : P.info? 24 = some i) (hz : i.zero = some (.slice none 0 0)) (hsz : i.size = 1) (hb : i.bytes = 24)
    (v : Value) (l : List Value) (hs : a.eval s = v) (hown : OwnV w B v l) (q : Nat) (A : Option Addr) (m c : Nat) (src : List Value) (hx : a.eval x = .slice A m c) (hm : m = src.length)
    (hsrc : MemV w q A src) (h1 : ∀ u ∈ src, u.oneCell' = true) (hlen : (l.length + src.length) * 24 ≤ 140737488355328) (hB : B ≤ w.heap.size)
    (h : ∀ v' w', OwnV w' B v' (l ++ src) → w.grownBy w' v.ownBlock → wpList P ops Q rest (a.put o.dst v') w') : wpList P ops Q (o :: rest) a w := by
  refine wpList_plain hgd fun K hK => ?_
  obtain ⟨v', w', hrun, h2, h3⟩ := run_append_vals (P := P) w B t o.type i ht hi hz hsz hb v l hown q A m c src hm hsrc h1 hlen hB
  unfold Oper.wp execOp
  simp only [ho, resolve, invoke, builtin, Sem.run_bind, Sem.run_pure, Result.andThen_ok, List.map_toArray, List.map_cons, List.map_nil, hs, hx, hrun]
  exact hK _ _ (h v' w' h2 h3)

theorem growM_nil (w : World) (n : Nat) (hn : n * 24 ≤ 140737488355328) : Calls Tryd.prog 54 #[.slice none 0 0, .int .i64 n] w fun e w' => ∃ v, e = .returned v ∧ OwnV w' w.heap.size v [] ∧ Below w.heap.size w w' := by
  have h5 : Tryd.t24.bytes = 24 := by kernel_rfl
  by_cases h0 : n = 0
  · subst h0
    go_enter Tryd.func54, Tryd.ntmps54
    go_wp2_with fail
    go_ret
    exact ⟨_, rfl, World.ownsRow_nil _ _ _ 1, Below.refl _ _⟩
  · have hp : 0 < n := by omega
    have hnc := nextslicecap_zero hp
    go_enter Tryd.func54, Tryd.ntmps54
    go_wp2_with fail
    go_ret
    have h1 := grownCap_ge w n 0 24
    have h2 := grownCap_le_maxLen w n 0 24 (by unfold maxLen; omega)
    refine ⟨_, rfl, ?_, ((Below.refl _ _).alloc (Nat.le_refl _) _).drew⟩
    show OwnV _ _ (.slice _ 0 (grownCap w n 0 24)) _
    refine ⟨by simp, .inr ⟨w.heap.size, grownCap w n 0 24, _, rfl, Nat.le_refl _, heap_alloc_new w _, Nat.zero_le _, h2, ?_, by simp⟩⟩
    rw [Array.size_append, size_zeroCells, size_zeroCells]
    show n * 1 + (grownCap w n 0 24 - n) * 1 = _
    omega

theorem vsum_take_le {α : Type} (L : List (List α)) (j : Nat) : ((L.take j).map List.length).sum ≤ (L.map List.length).sum := by
  have h : L.map List.length = (L.take j).map List.length ++ (L.drop j).map List.length := by rw [← List.map_append, List.take_append_drop]
  rw [h, List.sum_append]
  omega
theorem vsum_take_succ {α : Type} (L : List (List α)) (j : Nat) (h : j < L.length) : ((L.take (j + 1)).map List.length).sum = ((L.take j).map List.length).sum + (L[j]'h).length := by
  rw [List.take_succ_eq_append_getElem h, List.map_append, List.sum_append, List.map_singleton, List.sum_singleton]
theorem vflatten_take_succ {α : Type} (L : List (List α)) (j : Nat) (h : j < L.length) : (L.take (j + 1)).flatten = (L.take j).flatten ++ L[j]'h := by
  rw [List.take_succ_eq_append_getElem h, List.flatten_append, List.flatten_singleton]
theorem concatM_any (w : World) (q : Nat) (A : Option Addr) (n c : Nat) (L : List (List Value)) (hn : n = L.length) (hm : MemVV w q A L) (hL : L.length ≤ 9223372036854775807) (hs : (L.map List.length).sum * 24 ≤ 140737488355328) :
    Calls Tryd.prog 40 #[.slice A n c] w fun e w' => ∃ v, e = .returned v ∧ OwnV w' w.heap.size v L.flatten ∧ Below w.heap.size w w' := by
  subst hn
  go_enter Tryd.func40, Tryd.ntmps40
  go_wp2_with fail
  go_loop [3, 11] (fun t i => ∃ j : Nat, j ≤ L.length ∧ i = .int .i64 j ∧ t = .int .i64 ((L.take j).map List.length).sum) (fun _ i => L.length - (intOf i).toNat)
  case atStart => exact ⟨0, Nat.zero_le _, rfl, by simp⟩
  case round =>
    obtain ⟨j, hj, rfl, rfl⟩ := hrel
    by_cases hlt : j < L.length
    · obtain ⟨o, A', q', c', rfl, hc, _⟩ := hm.at_ hlt
      have hle := vsum_take_le L (j + 1)
      have hsu := vsum_take_succ L j hlt
      generalize hS : ((L.take j).map List.length).sum = S at *
      generalize hS1 : ((L.take (j + 1)).map List.length).sum = S1 at *
      generalize hl : (L[j]'hlt) = lj at *
      have hb : S + lj.length ≤ 140737488355328 := by omega
      have HSU := Lib.hid hsu
      have HS := Lib.hid hS
      have HS1 := Lib.hid hS1
      have HL := Lib.hid hl
      clear hsu hS hS1 hl
      go_wp2
      go_round
      case rel => exact ⟨j + 1, by omega, by go_num, by rw [HS1.out, HSU.out]; go_num⟩
      case measure => simp [intOf]; omega
    · have e : L.take j = L := List.take_of_length_le (by omega)
      have hs' : ((L.take j).map List.length).sum * 24 ≤ 140737488355328 := by rw [e]; exact hs
      generalize ((L.take j).map List.length).sum = S at *
      have HE := Lib.hid e
      clear e
      go_wp2_with (first | (go_at_call 54; refine (growM_nil _ S hs').mono ?_; rintro e w1 ⟨v0, rfl, hown0, hb0⟩))
      obtain ⟨i0, hi0, hz0, hs0, hbb0⟩ := info_parts sl_info
      go_loopw [6, 27] (fun v i wr => ∃ j : Nat, j ≤ L.length ∧ i = .int .i64 j ∧ OwnV wr w.heap.size v (L.take j).flatten ∧ Below w.heap.size w wr) (fun _ i _ => L.length - (intOf i).toNat)
      case atStart => exact ⟨0, Nat.zero_le _, rfl, by simpa using hown0, hb0⟩
      case round =>
        obtain ⟨j, hj, rfl, hown, hbw⟩ := hrel
        by_cases hlt : j < L.length
        · obtain ⟨o, A', q', c', rfl, hc, hmj, hone⟩ := (hm.below0 hbw).at_ hlt
          have hfl := vflatten_take_succ L j hlt
          have hln := congrArg List.length hfl
          rw [List.length_append, List.length_flatten, List.length_flatten] at hln
          have hle := vsum_take_le L (j + 1)
          have hb : ((L.take j).flatten.length + (L[j]'hlt).length) * 24 ≤ 140737488355328 := by rw [List.length_flatten]; omega
          generalize (L.take j).flatten = F at *
          generalize hl : (L[j]'hlt) = lj at *
          have HFL := Lib.hid hfl
          have HL := Lib.hid hl
          have HONE := Lib.hid hone
          clear hfl hln hl hm hone
          go_wp2_with (first | (at_builtin; refine wpList_append_vals rfl _ _ 55 rfl w.heap.size i0 Tryd.underlying55 hi0 hz0 hs0 hbb0 _ F rfl hown q' A' lj.length c' lj rfl rfl hmj HONE.out hb hbw.size ?_; intro v1 w2 hown1 hg1))
          have hbw2 : Below w.heap.size w w2 := hbw.grown hg1 hbw.size (fun k hk => (World.ownsRow.lt hown k hk).1)
          go_wp2
          go_roundw
          case rel => exact ⟨j + 1, by omega, by go_num, by rw [HFL.out]; exact hown1, hbw2⟩
          case measure => simp [intOf]; omega
        · have e : L.take j = L := List.take_of_length_le (by omega)
          rw [e] at hown
          go_wp2
          go_ret
          exact ⟨_, rfl, hown, hbw⟩
end Go.Proofs.YtcjbplgjjhenkaaDoor
namespace Go.Proofs.YtcjbplgjjhenkaaDoor
open Go.RowKit
set_option linter.unusedVariables false
set_option linter.unusedSimpArgs false

/-- Whether two strings of bytes are the same; a word that the walk does not open. -/
def sameB (a b : List UInt8) : Bool := decide (a = b)
theorem sameB_self (a : List UInt8) : sameB a a = true := by simp [sameB]
theorem sameB_true {a b : List UInt8} (h : a = b) : sameB a b = true := by simp [sameB, h]
theorem sameB_false {a b : List UInt8} (h : a ≠ b) : sameB a b = false := by simp [sameB, h]
theorem take_eq_succ (a b : List UInt8) (j : Nat) (ha : j < a.length) (hb : j < b.length) : a.take (j + 1) = b.take (j + 1) ↔ (a.take j = b.take j ∧ a[j]'ha = b[j]'hb) := by
  rw [List.take_succ_eq_append_getElem ha, List.take_succ_eq_append_getElem hb]
  constructor
  · intro h
    have := List.append_inj h (by simp; omega)
    exact ⟨this.1, by simpa using this.2⟩
  · rintro ⟨h1, h2⟩
    rw [h1, h2]
theorem equal_len (w : World) (q1 q2 : Nat) (A1 A2 : Option Addr) (n1 n2 c1 c2 : Nat) (hn : n1 ≠ n2) :
    Calls Tryd.prog 32 #[.slice A1 n1 c1, .slice A2 n2 c2] w fun e w' => e = .returned (.bool false) ∧ w = w' := by
  have h : ¬ ((n1 : Int) = (n2 : Int)) := by omega
  go_enter Tryd.func32, Tryd.ntmps32
  go_wp2
  go_ret
  exact ⟨rfl, rfl⟩
set_option maxHeartbeats 1000000 in
theorem equal_same_len (w : World) (q1 q2 : Nat) (A1 A2 : Option Addr) (c1 c2 : Nat) (l1 l2 : List UInt8) (hlen : l1.length = l2.length) (hl : l1.length ≤ 140737488355328) (h1 : Mem w q1 A1 l1) (h2 : Mem w q2 A2 l2) :
    Calls Tryd.prog 32 #[.slice A1 l1.length c1, .slice A2 l1.length c2] w fun e w' => e = .returned (.bool (sameB l1 l2)) ∧ ∃ n, w' = w.drewN n := by
  have HL := kept hlen
  clear hlen
  go_enter Tryd.func32, Tryd.ntmps32
  go_wp2_with fail
  go_loopw [5, 14] (fun d i wr => ∃ (j n : Nat) (D : UInt8), j ≤ l1.length ∧ i = .int .i64 j ∧ d = .int .u8 (D.toNat : Int) ∧ Kept (D = 0 ↔ l1.take j = l2.take j) ∧ wr = w.drewN n) (fun _ i _ => l1.length - (intOf i).toNat)
  case atStart => exact ⟨0, 0, 0, Nat.zero_le _, rfl, rfl, kept (by simp), rfl⟩
  case round =>
    obtain ⟨j, nd, D, hj, rfl, rfl, HD, rfl⟩ := hrel
    by_cases hlt : j < l1.length
    · have hlt2 : j < l2.length := by have := HL.out; omega
      obtain ⟨o1, rfl, hc1⟩ := h1.at_ hlt
      obtain ⟨o2, rfl, hc2⟩ := h2.at_ hlt2
      have HT := kept (take_eq_succ l1 l2 j hlt hlt2)
      generalize (l1[j]'hlt) = x1 at *
      generalize (l2[j]'hlt2) = x2 at *
      have hx := x8 x1 x2
      have ho := o8 D (xr x1 x2)
      have hi0 : (0 : Int) ≤ (j : Int) := by omega
      have hi1 : (j : Int) < (l1.length : Int) := by omega
      go_wp2
      go_quiet (fail)
      go_wp2
      go_roundw
      case rel => exact ⟨j + 1, _, orr D (xr x1 x2), by omega, by go_num, rfl, kept (by rw [orr_zero_iff, xr_zero_iff, HT.out, HD.out]), rfl⟩
      case measure => simp [intOf]; omega
    · have e1 : l1.take j = l1 := List.take_of_length_le (by omega)
      have e2 : l2.take j = l2 := List.take_of_length_le (by have := HL.out; omega)
      rw [e1, e2] at HD
      have HR : sameB l1 l2 = ((D.toNat : Int) == 0) := by
        unfold sameB
        rw [Bool.eq_iff_iff]
        simp only [decide_eq_true_eq, beq_iff_eq]
        rw [← HD.out]
        constructor
        · rintro rfl; rfl
        · intro h
          exact UInt8.toNat_inj.1 (by show D.toNat = 0; omega)
      have HRR := kept HR
      clear HR e1 e2
      go_wp2
      go_ret
      exact ⟨congrArg (fun b => Ending.returned (.bool b)) HRR.out.symm, _, rfl⟩
/-- Equal, of any two strings. -/
theorem equal_any (w : World) (q1 q2 : Nat) (A1 A2 : Option Addr) (n1 n2 c1 c2 : Nat) (l1 l2 : List UInt8) (hn1 : n1 = l1.length) (hn2 : n2 = l2.length) (hl : l1.length ≤ 140737488355328) (h1 : Mem w q1 A1 l1) (h2 : Mem w q2 A2 l2) :
    Calls Tryd.prog 32 #[.slice A1 n1 c1, .slice A2 n2 c2] w fun e w' => e = .returned (.bool (sameB l1 l2)) ∧ ∃ n, w' = w.drewN n := by
  subst hn1
  by_cases h : l1.length = n2
  · subst h
    exact equal_same_len w q1 q2 A1 A2 c1 c2 l1 l2 hn2 hl h1 h2
  · refine (equal_len w q1 q2 A1 A2 _ _ c1 c2 h).mono ?_
    rintro e w' ⟨rfl, rfl⟩
    exact ⟨by rw [sameB_false (fun e => h (by rw [e, hn2]))], 0, rfl⟩

theorem same_len (w : World) (A1 A2 : Option Addr) (n1 n2 c1 c2 : Nat) (hn : n1 ≠ n2) :
    Calls Tryd.prog 10 #[.slice A1 n1 c1, .slice A2 n2 c2] w fun e w' => e = .returned (.bool false) ∧ w = w' := by
  have h : ¬ ((n1 : Int) = (n2 : Int)) := by omega
  go_enter Tryd.func10, Tryd.ntmps10
  go_wp2
  go_ret
  exact ⟨rfl, rfl⟩
set_option maxHeartbeats 1000000 in
theorem same_same_len (w : World) (q1 q2 : Nat) (A1 A2 : Option Addr) (c1 c2 : Nat) (l1 l2 : List UInt8) (hlen : l1.length = l2.length) (hl : l1.length ≤ 140737488355328) (h1 : Mem w q1 A1 l1) (h2 : Mem w q2 A2 l2) :
    Calls Tryd.prog 10 #[.slice A1 l1.length c1, .slice A2 l1.length c2] w fun e w' => e = .returned (.bool (sameB l1 l2)) ∧ ∃ n, w' = w.drewN n := by
  have HL := kept hlen
  clear hlen
  go_enter Tryd.func10, Tryd.ntmps10
  go_wp2_with fail
  go_loopw [5] (fun i wr => ∃ (j n : Nat), j ≤ l1.length ∧ i = .int .i64 j ∧ Kept (l1.take j = l2.take j) ∧ wr = w.drewN n) (fun i _ => l1.length - (intOf i).toNat)
  case atStart => exact ⟨0, 0, Nat.zero_le _, rfl, kept (by simp), rfl⟩
  case round =>
    obtain ⟨j, nd, hj, rfl, HD, rfl⟩ := hrel
    by_cases hlt : j < l1.length
    · have hlt2 : j < l2.length := by have := HL.out; omega
      obtain ⟨o1, rfl, hc1⟩ := h1.at_ hlt
      obtain ⟨o2, rfl, hc2⟩ := h2.at_ hlt2
      have HT := kept (take_eq_succ l1 l2 j hlt hlt2)
      have hi0 : (0 : Int) ≤ (j : Int) := by omega
      have hi1 : (j : Int) < (l1.length : Int) := by omega
      by_cases hx : (l1[j]'hlt) = (l2[j]'hlt2)
      · have HX := kept hx
        rw [← hx] at hc2
        clear hx
        go_wp2
        go_quiet (fail)
        go_wp2
        go_roundw
        case rel => exact ⟨j + 1, _, by omega, by go_num, kept (HT.out.2 ⟨HD.out, HX.out⟩), rfl⟩
        case measure => simp [intOf]; omega
      · have HX := kept hx
        have hne : ¬ (((l1[j]'hlt).toNat : Int) = ((l2[j]'hlt2).toNat : Int)) := fun e => hx (UInt8.toNat_inj.1 (by omega))
        have hns : l1 ≠ l2 := fun e => HX.out (HT.out.1 (by rw [e])).2
        have HNS := kept (sameB_false hns)
        clear hx hns
        go_wp2
        go_quiet (fail)
        go_wp2
        go_ret
        exact ⟨congrArg (fun b => Ending.returned (.bool b)) HNS.out.symm, _, World.drewN_drewN _ _ _⟩
    · have e1 : l1.take j = l1 := List.take_of_length_le (by omega)
      have e2 : l2.take j = l2 := List.take_of_length_le (by have := HL.out; omega)
      rw [e1, e2] at HD
      have HRR := kept (sameB_true HD.out)
      clear e1 e2
      go_wp2
      go_ret
      exact ⟨congrArg (fun b => Ending.returned (.bool b)) HRR.out.symm, _, rfl⟩
/-- Same, of any two strings. -/
theorem same_any (w : World) (q1 q2 : Nat) (A1 A2 : Option Addr) (n1 n2 c1 c2 : Nat) (l1 l2 : List UInt8) (hn1 : n1 = l1.length) (hn2 : n2 = l2.length) (hl : l1.length ≤ 140737488355328) (h1 : Mem w q1 A1 l1) (h2 : Mem w q2 A2 l2) :
    Calls Tryd.prog 10 #[.slice A1 n1 c1, .slice A2 n2 c2] w fun e w' => e = .returned (.bool (sameB l1 l2)) ∧ ∃ n, w' = w.drewN n := by
  subst hn1
  by_cases h : l1.length = n2
  · subst h
    exact same_same_len w q1 q2 A1 A2 c1 c2 l1 l2 hn2 hl h1 h2
  · refine (same_len w A1 A2 _ _ c1 c2 h).mono ?_
    rintro e w' ⟨rfl, rfl⟩
    exact ⟨by rw [sameB_false (fun e => h (by rw [e, hn2]))], 0, rfl⟩
end Go.Proofs.YtcjbplgjjhenkaaDoor
