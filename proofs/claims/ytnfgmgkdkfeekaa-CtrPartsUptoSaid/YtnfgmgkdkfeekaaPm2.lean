/-
  Arrays of bytes whose cells are given by a function. No function of the program is named here.
-/
import Derived.Test.YtnfgmgkdkfeekaaPm1
import Derived.WalkSpells
import Derived.WalkLawsBesides
import Derived.BigQuiet
import Derived.Deep.QuietTactic
import Derived.Deep.OwnRows
import Derived.Deep.MidRow
import Derived.RegionTactic
import Derived.BigRegion
import Derived.Lib.Hide
import Derived.IntWalk
/-
  Bytes and lists of bytes in memory: small laws that the texts of several stages share. No function of the program is named here.
-/
namespace Go.Proofs.Ytnfgmgkdkfeekaa
open Go.RowKit
set_option linter.unusedVariables false

/-- A fact that the walk shall not look into. -/
structure Kept (p : Prop) : Prop where
  out : p
theorem kept {p : Prop} (h : p) : Kept p := ⟨h⟩
theorem u8_info : (Try.prog.info? 5).map (fun i => (i.zero, i.size, i.bytes)) = some (some (.int .u8 0), 1, 1) := by kernel_rfl
theorem u8_size : (Try.prog.info? 5).map (·.size) = some 1 := by kernel_rfl
theorem ofNat_toNat (n : Nat) : (UInt8.ofNat (n % 256)).toNat = n % 256 := by
  rw [UInt8.toNat_ofNat']
  omega
theorem pow8 (k : Nat) : (2 : Nat) ^ (8 * k) = 256 ^ k := by rw [Nat.pow_mul]
theorem digit (j x : Nat) : ((x : Int) / 2 ^ (8 * j) % 256) = (((UInt8.ofNat (x / 256 ^ j % 256)).toNat : Nat) : Int) := by
  rw [ofNat_toNat, ← pow8, Int.natCast_emod, Int.natCast_ediv, Int.natCast_pow]
  rfl
theorem own_of_blk {w : World} {g B : Nat} {l : List UInt8} (h : Blk w g 5 (l.map bv).toArray) (hB : B ≤ g) (hl : l.length ≤ 140737488355328) : Own w B (.slice (some ⟨g, 0, none⟩) l.length l.length) l :=
  ⟨by simp, .inr ⟨g, l.length, _, rfl, hB, h, Nat.le_refl _, by unfold maxLen; omega, by simp, by rw [Nat.mul_one]; exact List.take_of_length_le (by simp)⟩⟩
theorem own_head {w : World} {B : Nat} {A : Option Addr} {n c : Nat} {l : List UInt8} (h : Own w B (.slice A n c) l) : Own w B (.slice A 0 c) [] := by
  obtain ⟨h1, h2⟩ := h
  rcases h2 with ⟨hv, hn⟩ | ⟨g, cap, cur, hv, hg, hh, hnc, hcm, hsz, ht⟩
  · injection hv with e1 e2 e3
    subst e1 e3
    exact Own.nil_ _ _
  · injection hv with e1 e2 e3
    subst e1 e3
    exact ⟨by simp, .inr ⟨g, _, cur, rfl, hg, hh, Nat.zero_le _, hcm, hsz, by simp⟩⟩
theorem mem_lit {w : World} {l : List UInt8} {cs : Array Value} (h : cs = (l.map bv).toArray) : Mem (w.alloc (.cells cs 5)) w.heap.size (some ⟨w.heap.size, 0, none⟩) l := by
  subst h
  refine .inr ⟨0, rfl, fun j b hj => ?_⟩
  rw [(Blk.new w 5 (l.map bv).toArray).cell]
  simp [hj, bv]
theorem Own.mem {w : World} {B : Nat} {A : Option Addr} {n c : Nat} {l : List UInt8} (h : Own w B (.slice A n c) l) : n = l.length ∧ ∃ q, Mem w q A l := by
  obtain ⟨A', q, c', hv, _, _, hm, _⟩ := h.form
  injection hv with e1 e2 e3
  subst e1
  exact ⟨e2, q, hm⟩
theorem Blk.drewN_ {W : World} {g : Nat} {t : TypeId} {cs : Array Value} (h : Blk W g t cs) (n : Nat) : Blk (W.drewN n) g t cs := h
theorem Blk.drew_ {W : World} {g : Nat} {t : TypeId} {cs : Array Value} (h : Blk W g t cs) : Blk W.drew g t cs := h
/-- A call that leaves the world as it is, as an arm of go_quiet wants it. -/
theorem quiet_eq {P : Program} {f : FuncId} {args : Array Value} {w : World} {n : Nat} {v : Value}
    (h : Calls P f args (w.drewN n) fun e w' => e = .returned v ∧ w.drewN n = w') : Calls P f args (w.drewN n) fun e w'' => e = .returned v ∧ ∃ m, w'' = w.drewN m :=
  h.mono fun _ _ ⟨he, hm⟩ => ⟨he, n, hm.symm⟩
/-- One step more. -/
theorem below_next {w w1 w2 : World} (h : Below w.heap.size w w1) (k : Below w1.heap.size w1 w2) : Below w.heap.size w w2 := h.trans (k.mono h.size)

/-! ### Arrays whose cells are given by a function -/
def gA (n : Nat) (f : Nat → Value) : Array Value := ((List.range n).map f).toArray
theorem gA_size (n : Nat) (f : Nat → Value) : (gA n f).size = n := by simp [gA]
theorem gA_at (n : Nat) (f : Nat → Value) {j : Nat} (h : j < n) : (gA n f)[j]? = some (f j) := by simp [gA, h]
theorem gA_ext {n : Nat} {f g : Nat → Value} (h : ∀ j, j < n → f j = g j) : gA n f = gA n g := by
  unfold gA
  congr 1
  apply List.map_congr_left
  intro j hj
  exact h j (List.mem_range.1 hj)
theorem gA_set (n : Nat) (f : Nat → Value) (i : Nat) (x : Value) : (gA n f).setIfInBounds i x = gA n (fun j => if j = i then x else f j) := by
  apply Array.ext_getElem?
  intro j
  rw [Array.getElem?_setIfInBounds, gA_size]
  by_cases hj : j < n
  · rw [gA_at n f hj, gA_at n (fun j => if j = i then x else f j) hj]
    by_cases e : i = j
    · subst e; simp [hj]
    · rw [if_neg e, if_neg (Ne.symm e)]
  · rw [Array.getElem?_eq_none (by rw [gA_size]; omega), Array.getElem?_eq_none (by rw [gA_size]; omega)]
    split
    · split
      · omega
      · rfl
    · rfl
theorem gA_list (l : List UInt8) : (l.map bv).toArray = gA l.length (fun j => bv (l.getD j 0)) := by
  apply Array.ext_getElem?
  intro j
  by_cases hj : j < l.length
  · rw [gA_at _ _ hj]
    simp [hj]
  · rw [Array.getElem?_eq_none (by simpa using hj), Array.getElem?_eq_none (by rw [gA_size]; omega)]
theorem gA_map (n : Nat) (f : Nat → UInt8) : (((List.range n).map f).map bv).toArray = gA n (fun j => bv (f j)) := by
  unfold gA
  rw [List.map_map]
  rfl
theorem madeCells_gA (v : Value) (n : Nat) : madeCells #[v] n = gA n (fun _ => v) := by
  rw [← Array.toList_inj, toList_madeCells_one]
  unfold gA
  apply List.ext_getElem?
  intro j
  by_cases h : j < n <;> simp [h]
theorem Blk.putG {w : World} {g : Nat} {t : TypeId} {n : Nat} {f f' : Nat → Value} (h : Blk w g t (gA n f)) (i : Nat) (x : Value) (hf : ∀ j, j < n → f' j = if j = i then x else f j) : Blk (w.setCell ⟨g, i, none⟩ x) g t (gA n f') := by
  have := h.put i x
  rw [gA_set] at this
  rw [gA_ext hf]
  exact this

/-- An array value read at a place. -/
theorem run_index_agg {P : Program} (t e : TypeId) (n : Nat) (ht : P.underlying t = some (.array n e)) (hi : (P.info? e).map (·.size) = some 1) (de : TypeDesc) (hd : P.underlying e = some de)
    (hna : (match de with | .struct _ | .array _ _ => true | _ => false) = false) (cs : Array Value) (k : Nat) (v : Value) (hk : cs[k]? = some v) (hkn : k < n) (w : World) :
    (Instr.index t (.agg cs) (.int .i64 (k : Int))).run P w = .ok v w := by
  cases hq : P.info? e with
  | none => simp [hq] at hi
  | some i =>
    have hs : i.size = 1 := by simpa [hq] using hi
    have hagg : (isAgg e).run P w = .ok false w := by
      unfold isAgg
      rw [Sem.run_bind, run_underlying hd w]
      cases de <;> simp_all
    simp [Instr.index, asIntOf, run_underlying ht, hkn, sizeOf, typeInfo, hq, hs, part, hagg, hk]

/-! ### Lists of byte slices -/
/-- At address A (of block q) lie slices of bytes, which read as L. -/
def MemM (w : World) (q : Nat) (A : Option Addr) (L : List (List UInt8)) : Prop :=
  L = [] ∨ ∃ o, A = some ⟨q, o, none⟩ ∧ ∀ j l, L[j]? = some l → ∃ A' q' c', w.cell? ⟨q, o + j, none⟩ = some (.slice A' l.length c') ∧ Mem w q' A' l ∧ l.length ≤ c'
theorem MemM.at_ {w : World} {q : Nat} {A : Option Addr} {L : List (List UInt8)} {j : Nat} (h : MemM w q A L) (hj : j < L.length) :
    ∃ o A' q' c', A = some ⟨q, o, none⟩ ∧ w.cell? ⟨q, o + j, none⟩ = some (.slice A' (L[j]'hj).length c') ∧ Mem w q' A' (L[j]'hj) ∧ (L[j]'hj).length ≤ c' := by
  rcases h with rfl | ⟨o, ho, hc⟩
  · simp at hj
  · obtain ⟨A', q', c', h1, h2, h3⟩ := hc j _ (List.getElem?_eq_getElem hj)
    exact ⟨o, A', q', c', ho, h1, h2, h3⟩
theorem MemM.below0 {w w' : World} {q : Nat} {A : Option Addr} {L : List (List UInt8)} (h : MemM w q A L) (hb : Below w.heap.size w w') : MemM w' q A L := by
  rcases h with rfl | ⟨o, ho, hc⟩
  · exact .inl rfl
  · refine .inr ⟨o, ho, fun j l hj => ?_⟩
    obtain ⟨A', q', c', h1, h2, h3⟩ := hc j l hj
    exact ⟨A', q', c', (hb.cell (p := ⟨q, o + j, none⟩) (World.block_lt_of_cell? w _ h1)).trans h1, h2.below0 hb, h3⟩
/-- The bytes of a slice lie in an old block. -/
theorem Mem.old {w : World} {q : Nat} {A : Option Addr} {l : List UInt8} (h : Mem w q A l) {g : Nat} (hg : w.heap.size ≤ g) : ∃ q', q' ≠ g ∧ Mem w q' A l := by
  by_cases e : l = []
  · subst e
    exact ⟨g + 1, by omega, .inl rfl⟩
  · have := h.lt e
    exact ⟨q, by omega, h⟩
theorem sum_take_le (L : List (List UInt8)) (j : Nat) : ((L.take j).map List.length).sum ≤ (L.map List.length).sum := by
  have h : L.map List.length = (L.take j).map List.length ++ (L.drop j).map List.length := by rw [← List.map_append, List.take_append_drop]
  rw [h, List.sum_append]
  omega
theorem sum_take_succ (L : List (List UInt8)) (j : Nat) (h : j < L.length) : ((L.take (j + 1)).map List.length).sum = ((L.take j).map List.length).sum + (L[j]'h).length := by
  rw [List.take_succ_eq_append_getElem h, List.map_append, List.sum_append, List.map_singleton, List.sum_singleton]
theorem flatten_take_succ (L : List (List UInt8)) (j : Nat) (h : j < L.length) : (L.take (j + 1)).flatten = (L.take j).flatten ++ L[j]'h := by
  rw [List.take_succ_eq_append_getElem h, List.flatten_append, List.flatten_singleton]
theorem flatten_len (L : List (List UInt8)) : L.flatten.length = (L.map List.length).sum := by
  rw [List.length_flatten]
end Go.Proofs.Ytnfgmgkdkfeekaa
/-
  The field of 256 elements, as plain functions on bytes: products, inverses, powers; that products are linear, do not depend on the order, and have inverses. No function of the program is named here.
-/
namespace Go.Proofs.Ytnfgmgkdkfeekaa
set_option linter.unusedVariables false

/-! ### Bits of bytes -/
def gbit (b : UInt8) (i : Nat) : Bool := b.toNat.testBit i
def gsel (c : Bool) (x : UInt8) : UInt8 := if c then x else 0
theorem gsel_xor (c d : Bool) (x : UInt8) : gsel (c ^^ d) x = gsel c x ^^^ gsel d x := by
  cases c <;> cases d <;> simp [gsel]
theorem gsel_lin (c : Bool) (x y : UInt8) : gsel c (x ^^^ y) = gsel c x ^^^ gsel c y := by
  cases c <;> simp [gsel]
theorem gbit_xor (a b : UInt8) (i : Nat) : gbit (a ^^^ b) i = (gbit a i ^^ gbit b i) := by
  unfold gbit
  rw [UInt8.toNat_xor, Nat.testBit_xor]
theorem xor4 (a b c d : UInt8) : (a ^^^ b) ^^^ (c ^^^ d) = (a ^^^ c) ^^^ (b ^^^ d) := by
  rw [UInt8.xor_assoc, UInt8.xor_assoc]
  congr 1
  rw [← UInt8.xor_assoc, ← UInt8.xor_assoc, UInt8.xor_comm b c]
/-- Twice a byte. -/
def xt (a : UInt8) : UInt8 := (a <<< 1) ^^^ gsel (gbit a 7) 27
theorem shl_lin (a b : UInt8) : (a ^^^ b) <<< 1 = (a <<< 1) ^^^ (b <<< 1) := by
  apply UInt8.toBitVec_inj.1
  simp only [UInt8.toBitVec_shiftLeft, UInt8.toBitVec_xor]
  exact BitVec.shiftLeft_xor_distrib _ _ _
theorem xt_lin (a b : UInt8) : xt (a ^^^ b) = xt a ^^^ xt b := by
  unfold xt
  rw [shl_lin, gbit_xor, gsel_xor, xor4]
/-- The product of two bytes: the sum of the multiples of a by the bits of b. -/
def gf (a b : UInt8) : UInt8 :=
  ((gsel (gbit b 0) a ^^^ gsel (gbit b 1) (xt a)) ^^^ (gsel (gbit b 2) (xt (xt a)) ^^^ gsel (gbit b 3) (xt (xt (xt a))))) ^^^
  ((gsel (gbit b 4) (xt (xt (xt (xt a)))) ^^^ gsel (gbit b 5) (xt (xt (xt (xt (xt a)))))) ^^^ (gsel (gbit b 6) (xt (xt (xt (xt (xt (xt a)))))) ^^^ gsel (gbit b 7) (xt (xt (xt (xt (xt (xt (xt a)))))))))
theorem gf_lin_r (a b c : UInt8) : gf a (b ^^^ c) = gf a b ^^^ gf a c := by
  unfold gf
  simp only [gbit_xor, gsel_xor]
  generalize gsel (gbit b 0) a = b0, gsel (gbit c 0) a = c0
  rw [xor4 b0 c0, xor4 (gsel (gbit b 2) _) , xor4 (gsel (gbit b 4) _), xor4 (gsel (gbit b 6) _), xor4 (b0 ^^^ _), xor4 (gsel (gbit b 4) _ ^^^ _), xor4]
theorem gf_lin_l (a b c : UInt8) : gf (a ^^^ b) c = gf a c ^^^ gf b c := by
  unfold gf
  simp only [xt_lin, gsel_lin]
  generalize gsel (gbit c 0) a = b0, gsel (gbit c 0) b = c0
  rw [xor4 b0 c0, xor4 (gsel (gbit c 2) _) , xor4 (gsel (gbit c 4) _), xor4 (gsel (gbit c 6) _), xor4 (b0 ^^^ _), xor4 (gsel (gbit c 4) _ ^^^ _), xor4]

/-! ### What is linear is known by eight values -/
def Lin (f : UInt8 → UInt8) : Prop := ∀ a b, f (a ^^^ b) = f a ^^^ f b
def parts8 (a : UInt8) : UInt8 := ((gsel (gbit a 0) 1 ^^^ gsel (gbit a 1) 2) ^^^ (gsel (gbit a 2) 4 ^^^ gsel (gbit a 3) 8)) ^^^ ((gsel (gbit a 4) 16 ^^^ gsel (gbit a 5) 32) ^^^ (gsel (gbit a 6) 64 ^^^ gsel (gbit a 7) 128))
theorem of_all {P : UInt8 → Prop} (h : ∀ n : Nat, n < 256 → P (UInt8.ofNat n)) (a : UInt8) : P a := by
  have := h a.toNat (UInt8.toNat_lt a)
  rwa [UInt8.ofNat_toNat] at this
theorem parts8_eq (a : UInt8) : parts8 a = a := of_all (P := fun a => parts8 a = a) (by decide +kernel) a
theorem Lin.zero {f : UInt8 → UInt8} (h : Lin f) : f 0 = 0 := by
  have h1 := h 0 0
  rw [UInt8.xor_self] at h1
  rw [h1, UInt8.xor_self]
theorem Lin.sel {f : UInt8 → UInt8} (h : Lin f) (c : Bool) (x : UInt8) : f (gsel c x) = gsel c (f x) := by
  cases c
  · exact h.zero
  · rfl
theorem lin_ext {f g : UInt8 → UInt8} (hf : Lin f) (hg : Lin g) (h : f 1 = g 1 ∧ f 2 = g 2 ∧ f 4 = g 4 ∧ f 8 = g 8 ∧ f 16 = g 16 ∧ f 32 = g 32 ∧ f 64 = g 64 ∧ f 128 = g 128) (a : UInt8) : f a = g a := by
  obtain ⟨h1, h2, h4, h8, h16, h32, h64, h128⟩ := h
  rw [← parts8_eq a]
  unfold parts8
  rw [hf, hf, hf, hf, hf, hf, hf, hg, hg, hg, hg, hg, hg, hg]
  simp only [hf.sel, hg.sel, h1, h2, h4, h8, h16, h32, h64, h128]
theorem lin_l (b : UInt8) : Lin (fun a => gf a b) := fun x y => gf_lin_l x y b
theorem lin_r (a : UInt8) : Lin (fun b => gf a b) := fun x y => gf_lin_r a x y
theorem Lin.comp {f g : UInt8 → UInt8} (hf : Lin f) (hg : Lin g) : Lin (fun a => f (g a)) := fun x y => by
  show f (g (x ^^^ y)) = _
  rw [hg, hf]
theorem gf_comm (a b : UInt8) : gf a b = gf b a := by
  refine lin_ext (f := fun a => gf a b) (g := fun a => gf b a) (lin_l b) (lin_r b) ?_ a
  refine ⟨?_, ?_, ?_, ?_, ?_, ?_, ?_, ?_⟩ <;> exact lin_ext (lin_r _) (lin_l _) (by decide +kernel) b
theorem gf_assoc (a b c : UInt8) : gf (gf a b) c = gf a (gf b c) := by
  refine lin_ext (f := fun a => gf (gf a b) c) (g := fun a => gf a (gf b c)) ((lin_l c).comp (lin_l b)) (lin_l _) ?_ a
  refine ⟨?_, ?_, ?_, ?_, ?_, ?_, ?_, ?_⟩ <;>
    (refine lin_ext (f := fun b => gf (gf _ b) c) (g := fun b => gf _ (gf b c)) ((lin_l c).comp (lin_r _)) ((lin_r _).comp (lin_l c)) ?_ b
     refine ⟨?_, ?_, ?_, ?_, ?_, ?_, ?_, ?_⟩ <;> exact lin_ext (f := fun c => gf _ c) (g := fun c => gf _ (gf _ c)) (lin_r _) ((lin_r _).comp (lin_r _)) (by decide +kernel) c)
theorem gf_one (a : UInt8) : gf a 1 = a := lin_ext (f := fun a => gf a 1) (g := fun a => a) (lin_l 1) (fun _ _ => rfl) (by decide +kernel) a
theorem gf_one_l (a : UInt8) : gf 1 a = a := by rw [gf_comm, gf_one]
theorem gf_zero (a : UInt8) : gf a 0 = 0 := (lin_r a).zero
theorem gf_zero_l (a : UInt8) : gf 0 a = 0 := (lin_l a).zero
end Go.Proofs.Ytnfgmgkdkfeekaa
/-
  The field of 256 elements: powers, inverses, the substitution, as plain functions on bytes.
-/
namespace Go.Proofs.Ytnfgmgkdkfeekaa
set_option linter.unusedVariables false

theorem gf_swap (a b c d : UInt8) : gf (gf a b) (gf c d) = gf (gf a c) (gf b d) := by
  rw [gf_assoc, gf_assoc]
  congr 1
  rw [← gf_assoc, ← gf_assoc, gf_comm b c]
/-! ### Powers -/
def gpow (a : UInt8) : Nat → UInt8
  | 0 => 1
  | n + 1 => gf (gpow a n) a
theorem gpow_add (a : UInt8) (m n : Nat) : gpow a (m + n) = gf (gpow a m) (gpow a n) := by
  induction n with
  | zero => exact (gf_one _).symm
  | succ n ih => rw [← Nat.add_assoc, gpow, ih, gpow, gf_assoc]
theorem gpow_mul (a b : UInt8) (n : Nat) : gpow (gf a b) n = gf (gpow a n) (gpow b n) := by
  induction n with
  | zero => exact (gf_one _).symm
  | succ n ih => rw [gpow, gpow, gpow, ih, gf_swap]
theorem gpow_one (n : Nat) : gpow 1 n = 1 := by
  induction n with
  | zero => rfl
  | succ n ih => rw [gpow, ih, gf_one]
theorem gpow_pow (a : UInt8) (m n : Nat) : gpow (gpow a m) n = gpow a (m * n) := by
  induction n with
  | zero => rfl
  | succ n ih => rw [gpow, ih, Nat.mul_succ, gpow_add]
theorem gpow_zero_l (n : Nat) (h : 0 < n) : gpow 0 n = 0 := by
  cases n with
  | zero => omega
  | succ n => rw [gpow, gf_zero]
/-- Powers by squares. -/
def sq (a : UInt8) : UInt8 := gf a a
def inv8 (a : UInt8) : UInt8 :=
  gf (gf (gf (sq a) (sq (sq a))) (gf (sq (sq (sq a))) (sq (sq (sq (sq a)))))) (gf (gf (sq (sq (sq (sq (sq a))))) (sq (sq (sq (sq (sq (sq a))))))) (sq (sq (sq (sq (sq (sq (sq a))))))))
theorem sq_pow (a : UInt8) (n : Nat) : sq (gpow a n) = gpow a (n + n) := (gpow_add a n n).symm
theorem inv8_pow (a : UInt8) : inv8 a = gpow a 254 := by
  have h1 : gpow a 1 = a := gf_one_l a
  unfold inv8
  have h : ∀ n, sq (gpow a n) = gpow a (n + n) := sq_pow a
  conv => lhs; rw [← h1]
  simp only [h, ← gpow_add]
/-- The inverse of a byte; that of 0 is 0. -/
def ginv (a : UInt8) : UInt8 := gpow a 254
theorem ginv_eq (a : UInt8) : ginv a = inv8 a := (inv8_pow a).symm
theorem ginv_zero : ginv 0 = 0 := gpow_zero_l 254 (by omega)
theorem gf_ginv (a : UInt8) (h : a ≠ 0) : gf a (ginv a) = 1 := by
  rw [ginv_eq]
  exact of_all (P := fun a => a ≠ 0 → gf a (inv8 a) = 1) (by decide +kernel) a h
theorem gf_ginv_zero (a : UInt8) : gf a (ginv a) = if a = 0 then 0 else 1 := by
  split
  · rename_i h; subst h; exact gf_zero_l _
  · rename_i h; exact gf_ginv a h
theorem gpow_255 (a : UInt8) (h : a ≠ 0) : gpow a 255 = 1 := by
  show gf (gpow a 254) a = 1
  rw [gf_comm]
  exact gf_ginv a h
theorem gf_cancel (a b c : UInt8) (h : a ≠ 0) (e : gf a b = gf a c) : b = c := by
  have := congrArg (gf (ginv a)) e
  rw [← gf_assoc, ← gf_assoc, gf_comm (ginv a) a, gf_ginv a h, gf_one_l, gf_one_l] at this
  exact this
theorem ginv_of (a b : UInt8) (h : gf a b = 1) : b = ginv a := by
  have ha : a ≠ 0 := by
    rintro rfl
    rw [gf_zero_l] at h
    exact absurd h (by decide)
  exact gf_cancel a b (ginv a) ha (by rw [h, gf_ginv a ha])
theorem ginv_ne (a : UInt8) (h : a ≠ 0) : ginv a ≠ 0 := by
  intro e
  have := gf_ginv a h
  rw [e, gf_zero] at this
  exact absurd this (by decide)
theorem ginv_ginv (a : UInt8) : ginv (ginv a) = a := by
  by_cases h : a = 0
  · subst h; rw [ginv_zero, ginv_zero]
  · exact (ginv_of (ginv a) a (by rw [gf_comm]; exact gf_ginv a h)).symm
theorem ginv_gf (a b : UInt8) : ginv (gf a b) = gf (ginv a) (ginv b) := gpow_mul a b 254
theorem gf_ne (a b : UInt8) (ha : a ≠ 0) (hb : b ≠ 0) : gf a b ≠ 0 := by
  intro e
  exact hb (gf_cancel a b 0 ha (by rw [e, gf_zero]))
theorem gpow_ne (a : UInt8) (n : Nat) (h : a ≠ 0) : gpow a n ≠ 0 := by
  induction n with
  | zero => exact (by decide : (1 : UInt8) ≠ 0)
  | succ n ih => exact gf_ne _ _ ih h
theorem gpow_mod (a : UInt8) (n : Nat) (h : a ≠ 0) : gpow a n = gpow a (n % 255) := by
  conv => lhs; rw [← Nat.div_add_mod n 255]
  rw [gpow_add, ← gpow_pow, gpow_255 a h, gpow_one, gf_one_l]
/-- Powers with any number. -/
def gpowZ (a : UInt8) (z : Int) : UInt8 := if z < 0 then gpow (ginv a) (-z).toNat else gpow a z.toNat
theorem gpow_ginv (a : UInt8) (m n : Nat) (h : a ≠ 0) : gf (gpow a (m + n)) (gpow (ginv a) n) = gpow a m := by
  rw [gpow_add, gf_assoc, ← gpow_mul, gf_ginv a h, gpow_one, gf_one]
theorem gpowZ_add (a : UInt8) (y z : Int) (h : a ≠ 0) : gf (gpowZ a y) (gpowZ a z) = gpowZ a (y + z) := by
  unfold gpowZ
  have hi := ginv_ne a h
  have key : ∀ (b : UInt8) (p q : Nat), b ≠ 0 → gf (gpow b p) (gpow (ginv b) q) = if p < q then gpow (ginv b) (q - p) else gpow b (p - q) := by
    intro b p q hb
    split
    · rename_i hpq
      have e := gpow_ginv (ginv b) (q - p) p (ginv_ne b hb)
      rw [ginv_ginv, show q - p + p = q by omega] at e
      rw [gf_comm]
      exact e
    · have e := gpow_ginv b (p - q) q hb
      rw [show p - q + q = p by omega] at e
      exact e
  by_cases h1 : y < 0
  · by_cases h2 : z < 0
    · rw [if_pos h1, if_pos h2, if_pos (by omega), ← gpow_add]
      congr 1
      omega
    · rw [if_pos h1, if_neg h2, gf_comm, key a _ _ h]
      split
      · rw [if_pos (by omega)]; congr 1; omega
      · rw [if_neg (by omega)]; congr 1; omega
  · by_cases h2 : z < 0
    · rw [if_neg h1, if_pos h2, key a _ _ h]
      split
      · rw [if_pos (by omega)]; congr 1; omega
      · rw [if_neg (by omega)]; congr 1; omega
    · rw [if_neg h1, if_neg h2, if_neg (by omega), ← gpow_add]
      congr 1
      omega
theorem gpowZ_255 (a : UInt8) (h : a ≠ 0) : gpowZ a 255 = 1 := gpow_255 a h

/-! ### The substitution -/
def gxb (b : UInt8) (i : Nat) : Bool := gbit b i ^^ gbit b ((i + 4) % 8) ^^ gbit b ((i + 5) % 8) ^^ gbit b ((i + 6) % 8) ^^ gbit b ((i + 7) % 8) ^^ Nat.testBit 99 i
def byteOf (f : Nat → Bool) : UInt8 := ((gsel (f 0) 1 ^^^ gsel (f 1) 2) ^^^ (gsel (f 2) 4 ^^^ gsel (f 3) 8)) ^^^ ((gsel (f 4) 16 ^^^ gsel (f 5) 32) ^^^ (gsel (f 6) 64 ^^^ gsel (f 7) 128))
/-- The second part of a substitution, and what leads back from it. -/
def gaff (b : UInt8) : UInt8 := byteOf (gxb b)
def gunaff (s : UInt8) : UInt8 := byteOf fun i => gbit s ((i + 2) % 8) ^^ gbit s ((i + 5) % 8) ^^ gbit s ((i + 7) % 8) ^^ Nat.testBit 5 i
theorem gunaff_gaff (b : UInt8) : gunaff (gaff b) = b := of_all (P := fun b => gunaff (gaff b) = b) (by decide +kernel) b
theorem gaff_gunaff (b : UInt8) : gaff (gunaff b) = b := of_all (P := fun b => gaff (gunaff b) = b) (by decide +kernel) b
def gsub (a : UInt8) : UInt8 := gaff (ginv a)
def gunsub (s : UInt8) : UInt8 := ginv (gunaff s)
theorem gunsub_gsub (a : UInt8) : gunsub (gsub a) = a := by unfold gunsub gsub; rw [gunaff_gaff, ginv_ginv]
theorem gsub_gunsub (a : UInt8) : gsub (gunsub a) = a := by unfold gunsub gsub; rw [ginv_ginv, gaff_gunaff]
theorem gf_awake : gf 0x57 0x83 = 0xc1 ∧ inv8 0x53 = 0xca ∧ gaff (inv8 0x53) = 0xed := by decide +kernel
end Go.Proofs.Ytnfgmgkdkfeekaa
/-
  The reference's way to a product: the sum of shifted bytes, then the division by 283: it is the product of the field.
-/
namespace Go.Proofs.Ytnfgmgkdkfeekaa
set_option linter.unusedVariables false

def nsel (c : Bool) (x : Nat) : Nat := if c then x else 0
theorem nsel_xor (c d : Bool) (x : Nat) : nsel (c ^^ d) x = nsel c x ^^^ nsel d x := by
  cases c <;> cases d <;> simp [nsel]
theorem nsel_lin (c : Bool) (x y : Nat) : nsel c (x ^^^ y) = nsel c x ^^^ nsel c y := by
  cases c <;> simp [nsel]
theorem nxor4 (a b c d : Nat) : (a ^^^ b) ^^^ (c ^^^ d) = (a ^^^ c) ^^^ (b ^^^ d) := by
  rw [Nat.xor_assoc, Nat.xor_assoc]
  congr 1
  rw [← Nat.xor_assoc, ← Nat.xor_assoc, Nat.xor_comm b c]
/-- The first i terms of the sum. -/
def rP (a b : Nat) : Nat → Nat
  | 0 => 0
  | i + 1 => rP a b i ^^^ nsel (b.testBit i) (a <<< i)
/-- The remainder behind k steps of the division. -/
def rR (p : Nat) : Nat → Nat
  | 0 => p
  | k + 1 => rR p k ^^^ nsel ((rR p k).testBit (14 - k)) (283 <<< (6 - k))
theorem rP_lin_l (a c b i : Nat) : rP (a ^^^ c) b i = rP a b i ^^^ rP c b i := by
  induction i with
  | zero => simp [rP]
  | succ i ih => rw [rP, rP, rP, ih, Nat.shiftLeft_xor_distrib, nsel_lin, nxor4]
theorem rP_lin_r (a b c i : Nat) : rP a (b ^^^ c) i = rP a b i ^^^ rP a c i := by
  induction i with
  | zero => simp [rP]
  | succ i ih => rw [rP, rP, rP, ih, Nat.testBit_xor, nsel_xor, nxor4]
theorem rR_lin (p q k : Nat) : rR (p ^^^ q) k = rR p k ^^^ rR q k := by
  induction k with
  | zero => rfl
  | succ k ih => rw [rR, rR, rR, ih, Nat.testBit_xor, nsel_xor, nxor4]
theorem nsel_lt (c : Bool) (x n : Nat) (h : x < 2 ^ n) : nsel c x < 2 ^ n := by
  cases c
  · exact Nat.two_pow_pos n
  · exact h
theorem rP_lt (a b i : Nat) (ha : a < 256) (hi : i ≤ 8) : rP a b i < 2 ^ 15 := by
  induction i with
  | zero => exact Nat.two_pow_pos 15
  | succ i ih =>
    rw [rP]
    refine Nat.xor_lt_two_pow (ih (by omega)) (nsel_lt _ _ _ ?_)
    rw [Nat.shiftLeft_eq]
    have : 2 ^ i ≤ 2 ^ 7 := Nat.pow_le_pow_right (by omega) (by omega)
    calc a * 2 ^ i ≤ 255 * 2 ^ 7 := Nat.mul_le_mul (by omega) this
      _ < 2 ^ 15 := by decide
theorem rR_lt (p k : Nat) (hp : p < 2 ^ 15) (hk : k ≤ 7) : rR p k < 2 ^ 15 := by
  induction k with
  | zero => exact hp
  | succ k ih =>
    rw [rR]
    refine Nat.xor_lt_two_pow (ih (by omega)) (nsel_lt _ _ _ ?_)
    rw [Nat.shiftLeft_eq]
    have : 2 ^ (6 - k) ≤ 2 ^ 6 := Nat.pow_le_pow_right (by omega) (by omega)
    calc 283 * 2 ^ (6 - k) ≤ 283 * 2 ^ 6 := Nat.mul_le_mul (by omega) this
      _ < 2 ^ 15 := by decide
/-- The reference's product. -/
def rmul (a b : UInt8) : UInt8 := UInt8.ofNat (rR (rP a.toNat b.toNat 8) 7)
theorem ofNat_xor8 (x y : Nat) : UInt8.ofNat (x ^^^ y) = UInt8.ofNat x ^^^ UInt8.ofNat y := by
  apply UInt8.toNat_inj.1
  rw [UInt8.toNat_xor, UInt8.toNat_ofNat', UInt8.toNat_ofNat', UInt8.toNat_ofNat']
  exact Nat.xor_mod_two_pow
theorem rmul_eq (a b : UInt8) : rmul a b = gf a b := by
  have l : ∀ b, Lin fun a => rmul a b := fun b x y => by
    show UInt8.ofNat (rR (rP (x ^^^ y).toNat b.toNat 8) 7) = _
    rw [UInt8.toNat_xor, rP_lin_l, rR_lin, ofNat_xor8]
    rfl
  have r : ∀ a, Lin fun b => rmul a b := fun a x y => by
    show UInt8.ofNat (rR (rP a.toNat (x ^^^ y).toNat 8) 7) = _
    rw [UInt8.toNat_xor, rP_lin_r, rR_lin, ofNat_xor8]
    rfl
  refine lin_ext (f := fun a => rmul a b) (g := fun a => gf a b) (l b) (lin_l b) ?_ a
  refine ⟨?_, ?_, ?_, ?_, ?_, ?_, ?_, ?_⟩ <;> exact lin_ext (f := fun b => rmul _ b) (r _) (lin_r _) (by decide +kernel) b
/-- The reference's inverse: the first byte whose product is 1. -/
theorem first_inv (a : UInt8) (h : a ≠ 0) (b : UInt8) (hb : gf a b = 1) : b = ginv a := ginv_of a b hb

/-! ### Bits of 64-bit integers -/
open Go.RowKit in
theorem ofInt_64 (x : Nat) : BitVec.ofInt 64 (x : Int) = BitVec.ofNat 64 x := by
  apply BitVec.eq_of_toNat_eq
  rw [BitVec.toNat_ofInt, BitVec.toNat_ofNat]
  omega
theorem wrap_64 (x : Nat) (h : x < 2 ^ 63) : IntKind.i64.wrap (x : Int) = (x : Int) := by
  rw [IntKind.wrap_i64]
  omega
theorem x64 (x y : Nat) (hx : x < 2 ^ 62) (hy : y < 2 ^ 62) : bits .xor .i64 (x : Int) (y : Int) = ((x ^^^ y : Nat) : Int) := by
  show IntKind.i64.wrap ((BitVec.ofInt 64 (x : Int) ^^^ BitVec.ofInt 64 (y : Int)).toNat : Int) = _
  have hxy := Nat.xor_lt_two_pow hx hy
  rw [ofInt_64, ofInt_64, BitVec.toNat_xor, BitVec.toNat_ofNat, BitVec.toNat_ofNat, Nat.mod_eq_of_lt (by omega), Nat.mod_eq_of_lt (by omega), wrap_64 _ (by omega)]
theorem a64 (x y : Nat) (hx : x < 2 ^ 62) (hy : y < 2 ^ 62) : bits .and .i64 (x : Int) (y : Int) = ((x &&& y : Nat) : Int) := by
  show IntKind.i64.wrap ((BitVec.ofInt 64 (x : Int) &&& BitVec.ofInt 64 (y : Int)).toNat : Int) = _
  have hxy := Nat.and_lt_two_pow x hy
  rw [ofInt_64, ofInt_64, BitVec.toNat_and, BitVec.toNat_ofNat, BitVec.toNat_ofNat, Nat.mod_eq_of_lt (by omega), Nat.mod_eq_of_lt (by omega), wrap_64 _ (by omega)]
/-- A bit, as the walk asks for it. -/
theorem bit64 (x i : Nat) (hx : x < 2 ^ 62) : bits .and .i64 ((x : Int) / (2 : Int) ^ i) 1 = if x.testBit i then 1 else 0 := by
  have e : (x : Int) / (2 : Int) ^ i = ((x / 2 ^ i : Nat) : Int) := by
    rw [Int.natCast_ediv, Int.natCast_pow]
    rfl
  have h1 : x / 2 ^ i < 2 ^ 62 := Nat.lt_of_le_of_lt (Nat.div_le_self _ _) hx
  rw [e, show (1 : Int) = ((1 : Nat) : Int) from rfl, a64 _ 1 h1 (by omega), Nat.and_one_is_mod]
  have t : x.testBit i = decide (x / 2 ^ i % 2 = 1) := Nat.testBit_eq_decide_div_mod_eq
  rw [t]
  by_cases h : x / 2 ^ i % 2 = 1
  · simp [h]
  · have h0 : x / 2 ^ i % 2 = 0 := by omega
    simp [h0]
end Go.Proofs.Ytnfgmgkdkfeekaa
/-
  The reference's products of the field, by a contract.
-/
namespace Go.Proofs.Ytnfgmgkdkfeekaa
open Go.RowKit
set_option linter.unusedVariables false
set_option linter.unusedSimpArgs false

theorem sh64 (x j : Nat) (hx : x < 512) (hj : j ≤ 8) : wrap64 ((x : Int) * 2 ^ j) = ((x <<< j : Nat) : Int) := by
  have h1 : 2 ^ j ≤ 2 ^ 8 := Nat.pow_le_pow_right (by omega) hj
  have h2 : x * 2 ^ j ≤ 511 * 2 ^ 8 := Nat.mul_le_mul (by omega) h1
  have e : (x : Int) * 2 ^ j = ((x * 2 ^ j : Nat) : Int) := by
    rw [Int.natCast_mul, Int.natCast_pow]
    rfl
  rw [e, Nat.shiftLeft_eq]
  unfold wrap64
  omega
theorem shl_lt (x j : Nat) (hx : x < 512) (hj : j ≤ 8) : x <<< j < 4611686018427387904 := by
  rw [Nat.shiftLeft_eq]
  have : 2 ^ j ≤ 2 ^ 8 := Nat.pow_le_pow_right (by omega) hj
  have h2 : x * 2 ^ j ≤ 511 * 2 ^ 8 := Nat.mul_le_mul (by omega) this
  omega
set_option maxHeartbeats 1000000 in
set_option maxRecDepth 100000 in
theorem rgmul_any (w : World) (a b : UInt8) : Calls Try.prog 33 #[.int .u8 (a.toNat : Int), .int .u8 (b.toNat : Int)] w fun e w' => e = .returned (.int .u8 ((gf a b).toNat : Int)) ∧ w = w' := by
  have ha := byte_lt a
  have hb := byte_lt b
  have ha' : (a.toNat : Int) < 256 := by omega
  have hb' : (b.toNat : Int) < 256 := by omega
  have HA := kept ha
  have HB := kept hb
  clear ha hb
  go_enter Try.func33, Try.ntmps33
  go_wp2_with fail
  go_loop [5, 6] (fun p i => ∃ j : Nat, j ≤ 8 ∧ i = .int .i64 j ∧ p = .int .i64 (rP a.toNat b.toNat j : Nat)) (fun _ i => 8 - (intOf i).toNat)
  case atStart => exact ⟨0, Nat.zero_le _, rfl, rfl⟩
  case round =>
    obtain ⟨j, hj, rfl, rfl⟩ := hrel
    have hp : rP a.toNat b.toNat j < 32768 := rP_lt a.toNat b.toNat j HA.out hj
    have hs : rP a.toNat b.toNat (j + 1) = rP a.toNat b.toNat j ^^^ nsel (b.toNat.testBit j) (a.toNat <<< j) := rfl
    by_cases hlt : j < 8
    · obtain ⟨P, hP⟩ : ∃ P, rP a.toNat b.toNat j = P := ⟨_, rfl⟩
      rw [hP] at hp hs
      rw [hP]
      by_cases hbit : b.toNat.testBit j = true
      · have hb1 := bit64 b.toNat j (by have := HB.out; omega)
        rw [if_pos hbit] at hb1
        rw [hbit] at hs
        have hsh := sh64 a.toNat j (by have := HA.out; omega) (by omega)
        have hxx := x64 P (a.toNat <<< j) (by omega) (shl_lt _ _ (by have := HA.out; omega) (by omega))
        have HS := kept (show rP a.toNat b.toNat (j + 1) = P ^^^ (a.toNat <<< j) from hs)
        generalize a.toNat <<< j = S at hsh hxx HS
        generalize hq : P ^^^ S = Q at hxx HS
        clear hs hP hbit hq hp
        go_wp2
        go_round
        case rel => exact ⟨j + 1, by omega, by go_num, by rw [HS.out]⟩
        case measure => simp [intOf]; omega
      · have hb1 := bit64 b.toNat j (by have := HB.out; omega)
        rw [if_neg hbit] at hb1
        rw [Bool.not_eq_true] at hbit
        rw [hbit] at hs
        have HS := kept (show rP a.toNat b.toNat (j + 1) = P by rw [hs]; simp [nsel])
        clear hs hP hbit hp
        go_wp2
        go_round
        case rel => exact ⟨j + 1, by omega, by go_num, by rw [HS.out]⟩
        case measure => simp [intOf]; omega
    · obtain rfl : j = 8 := by omega
      obtain ⟨P, hP⟩ : ∃ P, rP a.toNat b.toNat 8 = P := ⟨_, rfl⟩
      rw [hP] at hp
      rw [hP]
      have HPP := kept hp
      have HG := kept (show UInt8.ofNat (rR P 7) = gf a b by rw [← hP]; exact rmul_eq a b)
      clear hP hs hp hlt hj
      go_wp2_with fail
      go_loop [5, 7] (fun p i => ∃ k : Nat, 7 ≤ k ∧ k ≤ 14 ∧ i = .int .i64 (k : Int) ∧ p = .int .i64 (rR P (14 - k) : Nat)) (fun _ i => (intOf i).toNat)
      case atStart => exact ⟨14, by omega, by omega, rfl, rfl⟩
      case round =>
        obtain ⟨k, hk1, hk2, rfl, rfl⟩ := hrel
        by_cases hlt : 8 ≤ k
        · have hp : rR P (14 - k) < 32768 := rR_lt P (14 - k) HPP.out (by omega)
          have hs : rR P (14 - (k - 1)) = rR P (14 - k) ^^^ nsel ((rR P (14 - k)).testBit k) (283 <<< (k - 8)) := by
            have e : 14 - (k - 1) = (14 - k) + 1 := by omega
            rw [e, rR, show 14 - (14 - k) = k by omega, show 6 - (14 - k) = k - 8 by omega]
          have hd : (k : Int) - 8 = ((k - 8 : Nat) : Int) := by omega
          have hk8 : (8 : Int) ≤ (k : Int) := by omega
          have hk14 : (k : Int) ≤ 14 := by omega
          have hsh : wrap64 ((283 : Int) * 2 ^ (k - 8)) = ((283 <<< (k - 8) : Nat) : Int) := sh64 283 (k - 8) (by omega) (by omega)
          have hsl := shl_lt 283 (k - 8) (by omega) (by omega)
          have hd8 : k - 8 ≤ 6 := by omega
          obtain ⟨R, hR⟩ : ∃ R, rR P (14 - k) = R := ⟨_, rfl⟩
          rw [hR] at hp hs
          rw [hR]
          by_cases hbit : R.testBit k = true
          · have hb1 := bit64 R k (by omega)
            rw [if_pos hbit] at hb1
            rw [hbit] at hs
            have hxx := x64 R (283 <<< (k - 8)) (by omega) hsl
            have HS := kept (show rR P (14 - (k - 1)) = R ^^^ (283 <<< (k - 8)) from hs)
            generalize 283 <<< (k - 8) = S at hsh hxx HS
            generalize k - 8 = d at hd hsh hd8
            generalize hq : R ^^^ S = Q at hxx HS
            have HD8 := kept hd8
            clear hs hR hbit hq hp hsl hd8
            go_wp2
            go_round
            case rel => exact ⟨k - 1, by omega, by omega, by go_num, by rw [HS.out]⟩
            case measure => simp [intOf]; omega
          · have hb1 := bit64 R k (by omega)
            rw [if_neg hbit] at hb1
            rw [Bool.not_eq_true] at hbit
            rw [hbit] at hs
            have HS := kept (show rR P (14 - (k - 1)) = R by rw [hs]; simp [nsel])
            clear hs hR hbit hp hsl hsh hd hd8
            go_wp2
            go_round
            case rel => exact ⟨k - 1, by omega, by omega, by go_num, by rw [HS.out]⟩
            case measure => simp [intOf]; omega
        · obtain rfl : k = 7 := by omega
          have hp : rR P 7 < 32768 := rR_lt P 7 HPP.out (by omega)
          obtain ⟨R, hR⟩ : ∃ R, rR P (14 - 7) = R := ⟨_, rfl⟩
          have hR7 : rR P 7 = R := hR
          rw [hR7] at hp HG
          rw [hR]
          have hout : (R : Int) % 256 = ((gf a b).toNat : Int) := by
            rw [← HG.out, UInt8.toNat_ofNat']
            omega
          have HOUT := kept hout
          clear hout hR hR7 hlt
          go_wp2
          go_ret
          exact ⟨congrArg (fun z => Ending.returned (.int .u8 z)) HOUT.out, rfl⟩
end Go.Proofs.Ytnfgmgkdkfeekaa
/-
  The second part of the reference's substitution, by a contract.
-/
namespace Go.Proofs.Ytnfgmgkdkfeekaa
open Go.RowKit
set_option linter.unusedVariables false
set_option linter.unusedSimpArgs false

def nb (x i : Nat) : Nat := if x.testBit i then 1 else 0
theorem nb_le (x i : Nat) : nb x i ≤ 1 := by unfold nb; split <;> omega
/-- The sum of a bit of 99, one of b, and the first m of the four others. -/
def rX (b i : Nat) : Nat → Nat
  | 0 => nb 99 i + nb b i
  | m + 1 => rX b i m + nb b ((i + (m + 4)) % 8)
def rO (b : Nat) : Nat → Nat
  | 0 => 0
  | i + 1 => rO b i + (rX b i 4 % 2) * 2 ^ i
theorem rX_le (b i m : Nat) : rX b i m ≤ m + 2 := by
  induction m with
  | zero => have := nb_le 99 i; have := nb_le b i; rw [rX]; omega
  | succ m ih => have := nb_le b ((i + (m + 4)) % 8); rw [rX]; omega
theorem rO_lt (b i : Nat) : rO b i < 2 ^ i := by
  induction i with
  | zero => exact Nat.one_pos
  | succ i ih =>
    rw [rO, Nat.pow_succ]
    have : (rX b i 4 % 2) * 2 ^ i ≤ 1 * 2 ^ i := Nat.mul_le_mul_right _ (by omega)
    omega
theorem rO_gaff (b : UInt8) : UInt8.ofNat (rO b.toNat 8) = gaff b := of_all (P := fun b => UInt8.ofNat (rO b.toNat 8) = gaff b) (by decide +kernel) b
theorem bitn (x i : Nat) (hx : x < 2 ^ 62) : bits .and .i64 ((x : Int) / (2 : Int) ^ i) 1 = ((nb x i : Nat) : Int) := by
  rw [bit64 x i hx]
  unfold nb
  split <;> rfl
theorem add_part (O Z : Nat) (hO : O < 256) (hZ : Z ≤ 128) : wrap64 ((O : Int) + (Z : Int)) = ((O + Z : Nat) : Int) := by
  unfold wrap64
  omega
set_option maxHeartbeats 1000000 in
set_option maxRecDepth 100000 in
theorem raff_any (w : World) (b : UInt8) : Calls Try.prog 34 #[.int .i64 (b.toNat : Int)] w fun e w' => e = .returned (.int .u8 ((gaff b).toNat : Int)) ∧ w = w' := by
  have hb := byte_lt b
  have hb' : (b.toNat : Int) < 256 := by omega
  have HB := kept hb
  clear hb
  go_enter Try.func34, Try.ntmps34
  go_wp2_with fail
  go_loop [3, 4] (fun o i => ∃ j : Nat, j ≤ 8 ∧ i = .int .i64 j ∧ o = .int .i64 (rO b.toNat j : Nat)) (fun _ i => 8 - (intOf i).toNat)
  case atStart => exact ⟨0, Nat.zero_le _, rfl, rfl⟩
  case round =>
    obtain ⟨j, hj, rfl, rfl⟩ := hrel
    by_cases hlt : j < 8
    · have hp : rO b.toNat j < 256 := Nat.lt_of_lt_of_le (rO_lt b.toNat j) (show 2 ^ j ≤ 2 ^ 8 from Nat.pow_le_pow_right (by omega) (by omega))
      have HS := kept (show rO b.toNat (j + 1) = rO b.toNat j + (rX b.toNat j 4 % 2) * 2 ^ j from rfl)
      have h99 : bits .and .i64 ((99 : Int) / (2 : Int) ^ j) 1 = ((nb 99 j : Nat) : Int) := bitn 99 j (by omega)
      have hbb := bitn b.toNat j (by have := HB.out; omega)
      have l99 := nb_le 99 j
      have lbb := nb_le b.toNat j
      have HX := kept (show rX b.toNat j 0 = nb 99 j + nb b.toNat j from rfl)
      generalize nb 99 j = c99 at h99 l99 HX
      generalize nb b.toNat j = cb at hbb lbb HX
      generalize rO b.toNat j = O at hp HS
      go_wp2_with fail
      go_loop [5, 6] (fun x k => ∃ m : Nat, m ≤ 4 ∧ k = .int .i64 ((m + 4 : Nat) : Int) ∧ x = .int .i64 (rX b.toNat j m : Nat)) (fun _ k => 8 - (intOf k).toNat)
      case atStart => exact ⟨0, by omega, rfl, by rw [HX.out]; go_num⟩
      case round =>
        obtain ⟨m, hm, rfl, rfl⟩ := hrel
        have hx := rX_le b.toNat j m
        obtain ⟨X, hX⟩ : ∃ X, rX b.toNat j m = X := ⟨_, rfl⟩
        rw [hX] at hx
        rw [hX]
        by_cases hl : m < 4
        · have h1 := bitn b.toNat ((j + (m + 4)) % 8) (by have := HB.out; omega)
          have l1 := nb_le b.toNat ((j + (m + 4)) % 8)
          have hs : rX b.toNat j (m + 1) = X + nb b.toNat ((j + (m + 4)) % 8) := by rw [← hX]; rfl
          have HX1 := kept hs
          have H1 := kept h1
          clear hs h1
          generalize nb b.toNat ((j + (m + 4)) % 8) = C at l1 HX1 H1
          go_wp2
          go_round
          case rel => exact ⟨m + 1, by omega, by go_num, by rw [HX1.out, H1.out]; congr 1; unfold wrap64; omega⟩
          case measure => simp [intOf]; omega
        · obtain rfl : m = 4 := by omega
          have HXX := kept hX
          rw [hX] at HS
          clear HX hX
          have hj2 : 2 ^ j ≤ 2 ^ 7 := Nat.pow_le_pow_right (by omega) (by omega)
          have hm2 : X % 2 * 2 ^ j ≤ 1 * 2 ^ 7 := Nat.mul_le_mul (by omega) hj2
          have hw : wrap64 (((X % 2 : Nat) : Int) * 2 ^ j) = ((X % 2 * 2 ^ j : Nat) : Int) := by
            have e : ((X % 2 : Nat) : Int) * 2 ^ j = ((X % 2 * 2 ^ j : Nat) : Int) := by
              rw [Int.natCast_mul, Int.natCast_pow]
              rfl
            rw [e]
            unfold wrap64
            omega
          have HW := kept (show wrap64 ((O : Int) + wrap64 ((X : Int) % 2 * 2 ^ j)) = ((O + X % 2 * 2 ^ j : Nat) : Int) by
            rw [show (X : Int) % 2 = ((X % 2 : Nat) : Int) by omega, hw]
            exact add_part O _ hp (Nat.le_trans hm2 (by decide)))
          clear hw hm2 hj2
          go_wp2
          go_round
          case rel => exact ⟨j + 1, by omega, by go_num, by rw [HW.out, HS.out]⟩
          case measure => simp [intOf]; omega
    · obtain rfl : j = 8 := by omega
      have hO := rO_lt b.toNat 8
      have HG := kept (rO_gaff b)
      generalize rO b.toNat 8 = O at hO HG
      have HOUT := kept (show (O : Int) = ((gaff b).toNat : Int) by
        rw [← HG.out, UInt8.toNat_ofNat']
        omega)
      clear HG
      go_wp2
      go_ret
      exact ⟨congrArg (fun z => Ending.returned (.int .u8 z)) HOUT.out, rfl⟩
end Go.Proofs.Ytnfgmgkdkfeekaa
/-
  The table of substitutions: the powers of 3 are all bytes but 0. No function of the program is named here.
-/
namespace Go.Proofs.Ytnfgmgkdkfeekaa
set_option linter.unusedVariables false

def pws : Nat → UInt8 → List UInt8
  | 0, _ => []
  | n + 1, x => x :: pws n (gf x 3)
def pw3 : List UInt8 := [1, 3, 5, 15, 17, 51, 85, 255, 26, 46, 114, 150, 161, 248, 19, 53, 95, 225, 56, 72, 216, 115, 149, 164, 247, 2, 6, 10, 30, 34, 102, 170, 229, 52, 92, 228, 55, 89, 235, 38, 106, 190, 217, 112, 144, 171, 230, 49, 83, 245, 4, 12, 20, 60, 68, 204, 79, 209, 104, 184, 211, 110, 178, 205, 76, 212, 103, 169, 224, 59, 77, 215, 98, 166, 241, 8, 24, 40, 120, 136, 131, 158, 185, 208, 107, 189, 220, 127, 129, 152, 179, 206, 73, 219, 118, 154, 181, 196, 87, 249, 16, 48, 80, 240, 11, 29, 39, 105, 187, 214, 97, 163, 254, 25, 43, 125, 135, 146, 173, 236, 47, 113, 147, 174, 233, 32, 96, 160, 251, 22, 58, 78, 210, 109, 183, 194, 93, 231, 50, 86, 250, 21, 63, 65, 195, 94, 226, 61, 71, 201, 64, 192, 91, 237, 44, 116, 156, 191, 218, 117, 159, 186, 213, 100, 172, 239, 42, 126, 130, 157, 188, 223, 122, 142, 137, 128, 155, 182, 193, 88, 232, 35, 101, 175, 234, 37, 111, 177, 200, 67, 197, 84, 252, 31, 33, 99, 165, 244, 7, 9, 27, 45, 119, 153, 176, 203, 70, 202, 69, 207, 74, 222, 121, 139, 134, 145, 168, 227, 62, 66, 198, 81, 243, 14, 18, 54, 90, 238, 41, 123, 141, 140, 143, 138, 133, 148, 167, 242, 13, 23, 57, 75, 221, 124, 132, 151, 162, 253, 28, 36, 108, 180, 199, 82, 246]
set_option maxRecDepth 100000 in
theorem pws_eq : pws 255 1 = pw3 := by decide +kernel
set_option maxRecDepth 100000 in
theorem pw3_all : ∀ b : Nat, b < 256 → b ≠ 0 → UInt8.ofNat b ∈ pw3 := by decide +kernel
theorem pws_mem (n : Nat) (m : Nat) (b : UInt8) (h : b ∈ pws n (gpow 3 m)) : ∃ k, k < m + n ∧ gpow 3 k = b := by
  induction n generalizing m with
  | zero => simp [pws] at h
  | succ n ih =>
    rw [pws, List.mem_cons] at h
    rcases h with h | h
    · exact ⟨m, by omega, h.symm⟩
    · obtain ⟨k, h1, h2⟩ := ih (m + 1) h
      exact ⟨k, by omega, h2⟩
theorem pow3_all (b : UInt8) (h : b ≠ 0) : ∃ k, k < 255 ∧ gpow 3 k = b := by
  have h0 : b.toNat ≠ 0 := fun e => h (UInt8.toNat_inj.1 e)
  have hm := pw3_all b.toNat (UInt8.toNat_lt b) h0
  rw [UInt8.ofNat_toNat, ← pws_eq] at hm
  obtain ⟨k, h1, h2⟩ := pws_mem 255 0 b hm
  exact ⟨k, by omega, h2⟩
/-- What the table of powers holds behind n rounds. -/
def pwF (n : Nat) : Nat → UInt8 := fun j => if j < n then gpow 3 j else 0
/-- What the table of substitutions holds behind n rounds. -/
def bxF : Nat → Nat → UInt8
  | 0 => fun j => if j = 0 then gaff 0 else 0
  | n + 1 => fun j => if j = (gpow 3 n).toNat then gaff (gpow 3 (255 - n)) else bxF n j
theorem bxF_succ (n j : Nat) : bxF (n + 1) j = if j = (gpow 3 n).toNat then gaff (gpow 3 (255 - n)) else bxF n j := rfl
theorem inv_pow3 (n : Nat) (h : n ≤ 255) : gpow 3 (255 - n) = ginv (gpow 3 n) := by
  refine ginv_of _ _ ?_
  rw [← gpow_add, show n + (255 - n) = 255 by omega]
  exact gpow_255 3 (by decide)
theorem bxF_old (n j : Nat) (hn : n ≤ 256) (h : ∃ m, m < n ∧ (gpow 3 m).toNat = j) : bxF n j = gsub (UInt8.ofNat j) := by
  induction n with
  | zero => obtain ⟨m, hm, _⟩ := h; omega
  | succ n ih =>
    rw [bxF_succ]
    by_cases e : j = (gpow 3 n).toNat
    · rw [if_pos e, e, UInt8.ofNat_toNat, inv_pow3 n (by omega)]
      rfl
    · rw [if_neg e]
      obtain ⟨m, hm, hj⟩ := h
      refine ih (by omega) ⟨m, ?_, hj⟩
      by_cases e' : m = n
      · subst e'; exact absurd hj.symm e
      · omega
theorem bxF_zero (n : Nat) : bxF n 0 = gaff 0 := by
  induction n with
  | zero => rfl
  | succ n ih =>
    rw [bxF_succ, if_neg, ih]
    intro e
    exact gpow_ne 3 n (by decide) (UInt8.toNat_inj.1 e.symm)
theorem bxF_all (j : Nat) (hj : j < 256) : bxF 256 j = gsub (UInt8.ofNat j) := by
  by_cases h : j = 0
  · subst h
    rw [bxF_zero]
    show gaff 0 = gaff (ginv 0)
    rw [ginv_zero]
  · obtain ⟨k, h1, h2⟩ := pow3_all (UInt8.ofNat j) (by
      intro e
      have := congrArg UInt8.toNat e
      rw [UInt8.toNat_ofNat'] at this
      have h0 : (0 : UInt8).toNat = 0 := rfl
      omega)
    refine bxF_old 256 j (by omega) ⟨k, by omega, ?_⟩
    rw [h2, UInt8.toNat_ofNat']
    omega
end Go.Proofs.Ytnfgmgkdkfeekaa
namespace Go.Proofs.Ytnfgmgkdkfeekaa
open Go.RowKit
set_option linter.unusedVariables false

theorem zeros_b (n : Nat) : (Array.replicate n (Value.int .u8 0)) = gA n (fun _ => bv 0) := by
  apply Array.ext_getElem?
  intro j
  by_cases h : j < n
  · rw [gA_at _ _ h]; simp [h]; rfl
  · rw [Array.getElem?_eq_none (by simp; omega), Array.getElem?_eq_none (by rw [gA_size]; omega)]
/-- An array of bytes. -/
def bA (n : Nat) (f : Nat → UInt8) : Array Value := gA n fun j => bv (f j)
theorem bA_size (n : Nat) (f : Nat → UInt8) : (bA n f).size = n := gA_size _ _
theorem bA_at (n : Nat) (f : Nat → UInt8) {j : Nat} (h : j < n) : (bA n f)[j]? = some (.int .u8 ((f j).toNat : Int)) := gA_at _ _ h
theorem bA_ext {n : Nat} {f g : Nat → UInt8} (h : ∀ j, j < n → f j = g j) : bA n f = bA n g := gA_ext fun j hj => by rw [h j hj]
theorem bA_one (n : Nat) (f : Nat → UInt8) : (bA n f).all (·.oneCell') = true := by
  rw [Array.all_eq_true_iff_forall_mem]
  intro v hv
  have hv' : v ∈ (List.range n).map (fun j => bv (f j)) := by simpa [bA, gA] using hv
  obtain ⟨i, _, rfl⟩ := List.mem_map.1 hv'
  rfl
theorem bA_zero (n : Nat) : (Array.replicate n (Value.int .u8 0)) = bA n (fun _ => 0) := zeros_b n
theorem Blk.putB {w : World} {g : Nat} {t : TypeId} {n : Nat} {f f' : Nat → UInt8} (h : Blk w g t (bA n f)) (i : Nat) (x : UInt8) (hf : ∀ j, j < n → f' j = if j = i then x else f j) : Blk (w.setCell ⟨g, i, none⟩ (.int .u8 (x.toNat : Int))) g t (bA n f') := by
  refine h.putG i (bv x) fun j hj => ?_
  show bv (f' j) = _
  rw [hf j hj]
  split <;> rfl
end Go.Proofs.Ytnfgmgkdkfeekaa
