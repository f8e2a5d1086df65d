/-
  The reference's Same, of two slices that hold the same bytes.
-/
import Derived.Test.YtcjbplgjjhenkaaDoorSm1
import Derived.WalkSpells
import Derived.WalkLawsBesides
import Derived.BigQuiet
import Derived.Deep.QuietTactic
import Derived.Deep.OwnRows
import Derived.Deep.MidRow
import Derived.RegionTactic
import Derived.BigRegion
import Derived.Lib.Hide
import Derived.IntWalk
import Derived.Deep.Onto
/-
  Bytes and lists of bytes in memory: small laws that the texts of several stages share. No function of the program is named here.
-/
namespace Go.Proofs.YtcjbplgjjhenkaaDoor
open Go.RowKit
set_option linter.unusedVariables false

/-- A fact that the walk shall not look into. -/
structure Kept (p : Prop) : Prop where
  out : p
theorem kept {p : Prop} (h : p) : Kept p := ⟨h⟩
theorem u8_info : (Tryd.prog.info? 5).map (fun i => (i.zero, i.size, i.bytes)) = some (some (.int .u8 0), 1, 1) := by kernel_rfl
theorem u8_size : (Tryd.prog.info? 5).map (·.size) = some 1 := by kernel_rfl
theorem ofNat_toNat (n : Nat) : (UInt8.ofNat (n % 256)).toNat = n % 256 := by
  rw [UInt8.toNat_ofNat']
  omega
theorem pow8 (k : Nat) : (2 : Nat) ^ (8 * k) = 256 ^ k := by rw [Nat.pow_mul]
theorem digit (j x : Nat) : ((x : Int) / 2 ^ (8 * j) % 256) = (((UInt8.ofNat (x / 256 ^ j % 256)).toNat : Nat) : Int) := by
  rw [ofNat_toNat, ← pow8, Int.natCast_emod, Int.natCast_ediv, Int.natCast_pow]
  rfl
theorem own_of_blk {w : World} {g B : Nat} {l : List UInt8} (h : Blk w g 5 (l.map bv).toArray) (hB : B ≤ g) (hl : l.length ≤ 140737488355328) : Own w B (.slice (some ⟨g, 0, none⟩) l.length l.length) l :=
  ⟨by simp, .inr ⟨g, l.length, _, rfl, hB, h, Nat.le_refl _, by unfold maxLen; omega, by simp, by rw [Nat.mul_one]; exact List.take_of_length_le (by simp)⟩⟩
theorem own_head {w : World} {B : Nat} {A : Option Addr} {n c : Nat} {l : List UInt8} (h : Own w B (.slice A n c) l) : Own w B (.slice A 0 c) [] := by
  obtain ⟨h1, h2⟩ := h
  rcases h2 with ⟨hv, hn⟩ | ⟨g, cap, cur, hv, hg, hh, hnc, hcm, hsz, ht⟩
  · injection hv with e1 e2 e3
    subst e1 e3
    exact Own.nil_ _ _
  · injection hv with e1 e2 e3
    subst e1 e3
    exact ⟨by simp, .inr ⟨g, _, cur, rfl, hg, hh, Nat.zero_le _, hcm, hsz, by simp⟩⟩
theorem mem_lit {w : World} {l : List UInt8} {cs : Array Value} (h : cs = (l.map bv).toArray) : Mem (w.alloc (.cells cs 5)) w.heap.size (some ⟨w.heap.size, 0, none⟩) l := by
  subst h
  refine .inr ⟨0, rfl, fun j b hj => ?_⟩
  rw [(Blk.new w 5 (l.map bv).toArray).cell]
  simp [hj, bv]
theorem Own.mem {w : World} {B : Nat} {A : Option Addr} {n c : Nat} {l : List UInt8} (h : Own w B (.slice A n c) l) : n = l.length ∧ ∃ q, Mem w q A l := by
  obtain ⟨A', q, c', hv, _, _, hm, _⟩ := h.form
  injection hv with e1 e2 e3
  subst e1
  exact ⟨e2, q, hm⟩
theorem Blk.drewN_ {W : World} {g : Nat} {t : TypeId} {cs : Array Value} (h : Blk W g t cs) (n : Nat) : Blk (W.drewN n) g t cs := h
theorem Blk.drew_ {W : World} {g : Nat} {t : TypeId} {cs : Array Value} (h : Blk W g t cs) : Blk W.drew g t cs := h
/-- A call that leaves the world as it is, as an arm of go_quiet wants it. -/
theorem quiet_eq {P : Program} {f : FuncId} {args : Array Value} {w : World} {n : Nat} {v : Value}
    (h : Calls P f args (w.drewN n) fun e w' => e = .returned v ∧ w.drewN n = w') : Calls P f args (w.drewN n) fun e w'' => e = .returned v ∧ ∃ m, w'' = w.drewN m :=
  h.mono fun _ _ ⟨he, hm⟩ => ⟨he, n, hm.symm⟩
/-- One step more. -/
theorem below_next {w w1 w2 : World} (h : Below w.heap.size w w1) (k : Below w1.heap.size w1 w2) : Below w.heap.size w w2 := h.trans (k.mono h.size)

/-! ### Arrays whose cells are given by a function -/
def gA (n : Nat) (f : Nat → Value) : Array Value := ((List.range n).map f).toArray
theorem gA_size (n : Nat) (f : Nat → Value) : (gA n f).size = n := by simp [gA]
theorem gA_at (n : Nat) (f : Nat → Value) {j : Nat} (h : j < n) : (gA n f)[j]? = some (f j) := by simp [gA, h]
theorem gA_ext {n : Nat} {f g : Nat → Value} (h : ∀ j, j < n → f j = g j) : gA n f = gA n g := by
  unfold gA
  congr 1
  apply List.map_congr_left
  intro j hj
  exact h j (List.mem_range.1 hj)
theorem gA_set (n : Nat) (f : Nat → Value) (i : Nat) (x : Value) : (gA n f).setIfInBounds i x = gA n (fun j => if j = i then x else f j) := by
  apply Array.ext_getElem?
  intro j
  rw [Array.getElem?_setIfInBounds, gA_size]
  by_cases hj : j < n
  · rw [gA_at n f hj, gA_at n (fun j => if j = i then x else f j) hj]
    by_cases e : i = j
    · subst e; simp [hj]
    · rw [if_neg e, if_neg (Ne.symm e)]
  · rw [Array.getElem?_eq_none (by rw [gA_size]; omega), Array.getElem?_eq_none (by rw [gA_size]; omega)]
    split
    · split
      · omega
      · rfl
    · rfl
theorem gA_list (l : List UInt8) : (l.map bv).toArray = gA l.length (fun j => bv (l.getD j 0)) := by
  apply Array.ext_getElem?
  intro j
  by_cases hj : j < l.length
  · rw [gA_at _ _ hj]
    simp [hj]
  · rw [Array.getElem?_eq_none (by simpa using hj), Array.getElem?_eq_none (by rw [gA_size]; omega)]
theorem gA_map (n : Nat) (f : Nat → UInt8) : (((List.range n).map f).map bv).toArray = gA n (fun j => bv (f j)) := by
  unfold gA
  rw [List.map_map]
  rfl
theorem madeCells_gA (v : Value) (n : Nat) : madeCells #[v] n = gA n (fun _ => v) := by
  rw [← Array.toList_inj, toList_madeCells_one]
  unfold gA
  apply List.ext_getElem?
  intro j
  by_cases h : j < n <;> simp [h]
theorem Blk.putG {w : World} {g : Nat} {t : TypeId} {n : Nat} {f f' : Nat → Value} (h : Blk w g t (gA n f)) (i : Nat) (x : Value) (hf : ∀ j, j < n → f' j = if j = i then x else f j) : Blk (w.setCell ⟨g, i, none⟩ x) g t (gA n f') := by
  have := h.put i x
  rw [gA_set] at this
  rw [gA_ext hf]
  exact this

/-- An array value read at a place. -/
theorem run_index_agg {P : Program} (t e : TypeId) (n : Nat) (ht : P.underlying t = some (.array n e)) (hi : (P.info? e).map (·.size) = some 1) (de : TypeDesc) (hd : P.underlying e = some de)
    (hna : (match de with | .struct _ | .array _ _ => true | _ => false) = false) (cs : Array Value) (k : Nat) (v : Value) (hk : cs[k]? = some v) (hkn : k < n) (w : World) :
    (Instr.index t (.agg cs) (.int .i64 (k : Int))).run P w = .ok v w := by
  cases hq : P.info? e with
  | none => simp [hq] at hi
  | some i =>
    have hs : i.size = 1 := by simpa [hq] using hi
    have hagg : (isAgg e).run P w = .ok false w := by
      unfold isAgg
      rw [Sem.run_bind, run_underlying hd w]
      cases de <;> simp_all
    simp [Instr.index, asIntOf, run_underlying ht, hkn, sizeOf, typeInfo, hq, hs, part, hagg, hk]

/-! ### Lists of byte slices -/
/-- At address A (of block q) lie slices of bytes, which read as L. -/
def MemM (w : World) (q : Nat) (A : Option Addr) (L : List (List UInt8)) : Prop :=
  L = [] ∨ ∃ o, A = some ⟨q, o, none⟩ ∧ ∀ j l, L[j]? = some l → ∃ A' q' c', w.cell? ⟨q, o + j, none⟩ = some (.slice A' l.length c') ∧ Mem w q' A' l ∧ l.length ≤ c'
theorem MemM.at_ {w : World} {q : Nat} {A : Option Addr} {L : List (List UInt8)} {j : Nat} (h : MemM w q A L) (hj : j < L.length) :
    ∃ o A' q' c', A = some ⟨q, o, none⟩ ∧ w.cell? ⟨q, o + j, none⟩ = some (.slice A' (L[j]'hj).length c') ∧ Mem w q' A' (L[j]'hj) ∧ (L[j]'hj).length ≤ c' := by
  rcases h with rfl | ⟨o, ho, hc⟩
  · simp at hj
  · obtain ⟨A', q', c', h1, h2, h3⟩ := hc j _ (List.getElem?_eq_getElem hj)
    exact ⟨o, A', q', c', ho, h1, h2, h3⟩
theorem MemM.below0 {w w' : World} {q : Nat} {A : Option Addr} {L : List (List UInt8)} (h : MemM w q A L) (hb : Below w.heap.size w w') : MemM w' q A L := by
  rcases h with rfl | ⟨o, ho, hc⟩
  · exact .inl rfl
  · refine .inr ⟨o, ho, fun j l hj => ?_⟩
    obtain ⟨A', q', c', h1, h2, h3⟩ := hc j l hj
    exact ⟨A', q', c', (hb.cell (p := ⟨q, o + j, none⟩) (World.block_lt_of_cell? w _ h1)).trans h1, h2.below0 hb, h3⟩
/-- The bytes of a slice lie in an old block. -/
theorem Mem.old {w : World} {q : Nat} {A : Option Addr} {l : List UInt8} (h : Mem w q A l) {g : Nat} (hg : w.heap.size ≤ g) : ∃ q', q' ≠ g ∧ Mem w q' A l := by
  by_cases e : l = []
  · subst e
    exact ⟨g + 1, by omega, .inl rfl⟩
  · have := h.lt e
    exact ⟨q, by omega, h⟩
theorem sum_take_le (L : List (List UInt8)) (j : Nat) : ((L.take j).map List.length).sum ≤ (L.map List.length).sum := by
  have h : L.map List.length = (L.take j).map List.length ++ (L.drop j).map List.length := by rw [← List.map_append, List.take_append_drop]
  rw [h, List.sum_append]
  omega
theorem sum_take_succ (L : List (List UInt8)) (j : Nat) (h : j < L.length) : ((L.take (j + 1)).map List.length).sum = ((L.take j).map List.length).sum + (L[j]'h).length := by
  rw [List.take_succ_eq_append_getElem h, List.map_append, List.sum_append, List.map_singleton, List.sum_singleton]
theorem flatten_take_succ (L : List (List UInt8)) (j : Nat) (h : j < L.length) : (L.take (j + 1)).flatten = (L.take j).flatten ++ L[j]'h := by
  rw [List.take_succ_eq_append_getElem h, List.flatten_append, List.flatten_singleton]
theorem flatten_len (L : List (List UInt8)) : L.flatten.length = (L.map List.length).sum := by
  rw [List.length_flatten]
end Go.Proofs.YtcjbplgjjhenkaaDoor
/-
  Words of 32 bits: what the chapter of package sha says, as plain functions; how the walk spells sums, shifts and bits of such words.
-/
namespace Go.Proofs.YtcjbplgjjhenkaaDoor
open Go.RowKit
set_option linter.unusedVariables false

abbrev Wd := BitVec 32
def wi (x : Wd) : Int := (x.toNat : Int)
def wv (x : Wd) : Value := .int .u32 (wi x)
theorem wi_lo (x : Wd) : 0 ≤ wi x := by unfold wi; omega
theorem wi_hi (x : Wd) : wi x < 4294967296 := by unfold wi; have := x.isLt; omega
theorem wd_lt (x : Wd) : x.toNat < 4294967296 := x.isLt
theorem ofInt_wd (x : Wd) : BitVec.ofInt 32 (x.toNat : Int) = x := by simp
theorem wrap_wd (x : Wd) : IntKind.u32.wrap (x.toNat : Int) = (x.toNat : Int) := by
  rw [IntKind.wrap_u32]
  have := wd_lt x
  omega
theorem b_or (x y : Wd) : bits .or .u32 (wi x) (wi y) = wi (x ||| y) := by
  show IntKind.u32.wrap ((BitVec.ofInt 32 (x.toNat : Int) ||| BitVec.ofInt 32 (y.toNat : Int)).toNat : Int) = _
  rw [ofInt_wd, ofInt_wd, wrap_wd]
  rfl
theorem b_xor (x y : Wd) : bits .xor .u32 (wi x) (wi y) = wi (x ^^^ y) := by
  show IntKind.u32.wrap ((BitVec.ofInt 32 (x.toNat : Int) ^^^ BitVec.ofInt 32 (y.toNat : Int)).toNat : Int) = _
  rw [ofInt_wd, ofInt_wd, wrap_wd]
  rfl
theorem b_and (x y : Wd) : bits .and .u32 (wi x) (wi y) = wi (x &&& y) := by
  show IntKind.u32.wrap ((BitVec.ofInt 32 (x.toNat : Int) &&& BitVec.ofInt 32 (y.toNat : Int)).toNat : Int) = _
  rw [ofInt_wd, ofInt_wd, wrap_wd]
  rfl
theorem b_shr (x : Wd) (n : Nat) : wi x / (2 ^ n : Nat) = wi (x >>> n) := by
  unfold wi
  rw [BitVec.toNat_ushiftRight, Nat.shiftRight_eq_div_pow]
  rfl
theorem b_shl (x : Wd) (n : Nat) : wi x * (2 ^ n : Nat) % 4294967296 = wi (x <<< n) := by
  unfold wi
  rw [BitVec.toNat_shiftLeft, Nat.shiftLeft_eq]
  rfl
theorem b_add (x y : Wd) : (wi x + wi y) % 4294967296 = wi (x + y) := by
  unfold wi
  rw [BitVec.toNat_add]
  rfl
theorem b_not (x : Wd) : bits .xor .u32 IntKind.u32.max (wi x) = wi (~~~x) := by
  have e : IntKind.u32.max = wi (BitVec.allOnes 32) := by decide
  rw [e, b_xor, BitVec.allOnes_xor]
theorem b_shr3 (x : Wd) : wi x / (8 : Int) = wi (x >>> 3) := by rw [← b_shr x 3]; rfl
theorem b_shr10 (x : Wd) : wi x / (1024 : Int) = wi (x >>> 10) := by rw [← b_shr x 10]; rfl
theorem b_add4 (a b c d : Wd) : (wi a + wi b + wi c + wi d) % 4294967296 = wi (a + b + c + d) := by
  rw [← b_add, ← b_add, ← b_add]
  omega
theorem b_add5 (a b c d e : Wd) : (wi a + wi b + wi c + wi d + wi e) % 4294967296 = wi (a + b + c + d + e) := by
  rw [← b_add, ← b_add, ← b_add, ← b_add]
  omega
theorem b_or8 (x : Wd) (b : UInt8) : bits .or .u32 (wi x * 256 % 4294967296) (b.toNat : Int) = wi (x * 256 + BitVec.ofNat 32 b.toNat) := by
  have hb := byte_lt b
  have hx := wd_lt x
  have e1 : wi x * (256 : Int) % (4294967296 : Int) = wi (x <<< 8) := by
    rw [← b_shl x 8]
    rfl
  have e2 : (b.toNat : Int) = wi (BitVec.ofNat 32 b.toNat) := by
    unfold wi
    rw [BitVec.toNat_ofNat, Nat.mod_eq_of_lt (by omega)]
  rw [e2]
  rw [e1, b_or]
  congr 1
  apply BitVec.eq_of_toNat_eq
  rw [BitVec.toNat_or, BitVec.toNat_add, BitVec.toNat_mul, BitVec.toNat_shiftLeft, BitVec.toNat_ofNat, Nat.mod_eq_of_lt (show b.toNat < 2 ^ 32 by omega)]
  have e3 : x.toNat <<< 8 % 2 ^ 32 = (x.toNat % 2 ^ 24) <<< 8 := by
    rw [Nat.shiftLeft_eq, Nat.shiftLeft_eq]
    omega
  rw [e3, ← Nat.shiftLeft_add_eq_or_of_lt (show b.toNat < 2 ^ 8 by omega), Nat.shiftLeft_eq]
  show _ = (x.toNat * (256#32).toNat % 2 ^ 32 + b.toNat) % 2 ^ 32
  rw [show (256#32).toNat = 256 from rfl]
  omega
def rotr (n : Nat) (x : Wd) : Wd := (x >>> n) ||| (x <<< (32 - n))
theorem b_rotr (n : Nat) (x : Wd) : bits .or .u32 (wi x / (2 ^ n : Nat)) (wi x * (2 ^ (32 - n) : Nat) % 4294967296) = wi (rotr n x) := by
  rw [b_shr, b_shl, b_or]
  rfl
def sg0 (x : Wd) : Wd := rotr 7 x ^^^ rotr 18 x ^^^ (x >>> 3)
def sg1 (x : Wd) : Wd := rotr 17 x ^^^ rotr 19 x ^^^ (x >>> 10)
def Sg1 (e : Wd) : Wd := rotr 6 e ^^^ rotr 11 e ^^^ rotr 25 e
def Sg0 (a : Wd) : Wd := rotr 2 a ^^^ rotr 13 a ^^^ rotr 22 a
def chW (e f g : Wd) : Wd := (e &&& f) ^^^ (~~~e &&& g)
def majW (a b c : Wd) : Wd := (a &&& b) ^^^ (a &&& c) ^^^ (b &&& c)
structure St where
  (a b c d e f g h : Wd)
def stA (s : St) : Array Value := #[wv s.a, wv s.b, wv s.c, wv s.d, wv s.e, wv s.f, wv s.g, wv s.h]
def stepT (k w : Wd) (s : St) : Wd := s.h + Sg1 s.e + chW s.e s.f s.g + k + w
def stepU (s : St) : Wd := Sg0 s.a + majW s.a s.b s.c
def step (k w : Wd) (s : St) : St := ⟨stepT k w s + stepU s, s.a, s.b, s.c, s.d + stepT k w s, s.e, s.f, s.g⟩
def addS (s t : St) : St := ⟨s.a + t.a, s.b + t.b, s.c + t.c, s.d + t.d, s.e + t.e, s.f + t.f, s.g + t.g, s.h + t.h⟩
/-- The words of a block: 16 of them, then each one out of those before it. -/
def nextW (l : List Wd) : Wd := l.getD (l.length - 16) 0 + sg0 (l.getD (l.length - 15) 0) + l.getD (l.length - 7) 0 + sg1 (l.getD (l.length - 2) 0)
def sched (l : List Wd) : Nat → List Wd
  | 0 => l
  | n + 1 => sched l n ++ [nextW (sched l n)]
theorem sched_length (l : List Wd) (n : Nat) : (sched l n).length = l.length + n := by
  induction n with
  | zero => rfl
  | succ n ih => rw [sched, List.length_append, ih]; rfl
/-- The word of four bytes, one byte after the other. -/
def pw (l : List UInt8) (i : Nat) : Nat → Wd
  | 0 => 0
  | k + 1 => pw l i k * 256 + BitVec.ofNat 32 (l.getD (4 * i + k) 0).toNat
def wd (l : List UInt8) (i : Nat) : Wd := pw l i 4
def words (b : List UInt8) : List Wd := (List.range 16).map (wd b)
def SW (b : List UInt8) (j : Nat) : Wd := (sched (words b) 48).getD j 0
theorem getD_left (a b : List Wd) (j : Nat) (h : j < a.length) : (a ++ b).getD j 0 = a.getD j 0 := by
  simp [List.getD, List.getElem?_append_left h]
theorem getD_right (a b : List Wd) (j : Nat) (h : a.length ≤ j) : (a ++ b).getD j 0 = b.getD (j - a.length) 0 := by
  simp [List.getD, List.getElem?_append_right h]
theorem sched_get (l : List Wd) (n m j : Nat) (h : j < l.length + n) (hm : n ≤ m) : (sched l m).getD j 0 = (sched l n).getD j 0 := by
  induction m with
  | zero => obtain rfl : n = 0 := by omega
            rfl
  | succ m ih =>
    by_cases e : n = m + 1
    · subst e; rfl
    · rw [sched, getD_left _ _ _ (by rw [sched_length]; omega)]
      exact ih (by omega)
theorem words_length (b : List UInt8) : (words b).length = 16 := by simp [words]
theorem SW_low (b : List UInt8) (j : Nat) (h : j < 16) : SW b j = wd b j := by
  unfold SW
  rw [sched_get (words b) 0 48 j (by rw [words_length]; omega) (by omega)]
  show (words b).getD j 0 = _
  simp [words, List.getD, h]
theorem SW_high (b : List UInt8) (k : Nat) (h : k < 48) : SW b (k + 16) = SW b k + sg0 (SW b (k + 1)) + SW b (k + 9) + sg1 (SW b (k + 14)) := by
  have hl := words_length b
  have e : (sched (words b) 48).getD (k + 16) 0 = nextW (sched (words b) k) := by
    rw [sched_get (words b) (k + 1) 48 (k + 16) (by omega) (by omega), sched, getD_right _ _ _ (by rw [sched_length]; omega)]
    rw [sched_length, hl, show k + 16 - (16 + k) = 0 by omega]
    rfl
  have g : ∀ j, j < 16 + k → (sched (words b) k).getD j 0 = SW b j := fun j hj => (sched_get (words b) k 48 j (by omega) (by omega)).symm
  unfold SW at *
  rw [e]
  unfold nextW
  rw [sched_length, hl, show 16 + k - 16 = k by omega, show 16 + k - 15 = k + 1 by omega, show 16 + k - 7 = k + 9 by omega, show 16 + k - 2 = k + 14 by omega]
  rw [g k (by omega), g (k + 1) (by omega), g (k + 9) (by omega), g (k + 14) (by omega)]
def kList : List Wd := [0x428a2f98, 0x71374491, 0xb5c0fbcf, 0xe9b5dba5, 0x3956c25b, 0x59f111f1, 0x923f82a4, 0xab1c5ed5, 0xd807aa98, 0x12835b01, 0x243185be, 0x550c7dc3, 0x72be5d74, 0x80deb1fe, 0x9bdc06a7, 0xc19bf174,
  0xe49b69c1, 0xefbe4786, 0x0fc19dc6, 0x240ca1cc, 0x2de92c6f, 0x4a7484aa, 0x5cb0a9dc, 0x76f988da, 0x983e5152, 0xa831c66d, 0xb00327c8, 0xbf597fc7, 0xc6e00bf3, 0xd5a79147, 0x06ca6351, 0x14292967,
  0x27b70a85, 0x2e1b2138, 0x4d2c6dfc, 0x53380d13, 0x650a7354, 0x766a0abb, 0x81c2c92e, 0x92722c85, 0xa2bfe8a1, 0xa81a664b, 0xc24b8b70, 0xc76c51a3, 0xd192e819, 0xd6990624, 0xf40e3585, 0x106aa070,
  0x19a4c116, 0x1e376c08, 0x2748774c, 0x34b0bcb5, 0x391c0cb3, 0x4ed8aa4a, 0x5b9cca4f, 0x682e6ff3, 0x748f82ee, 0x78a5636f, 0x84c87814, 0x8cc70208, 0x90befffa, 0xa4506ceb, 0xbef9a3f7, 0xc67178f2]
/-- The state after i rounds. -/
def rounds (ks ws : List Wd) (s : St) : Nat → St
  | 0 => s
  | n + 1 => step (ks.getD n 0) (ws.getD n 0) (rounds ks ws s n)
def blockS (ks : List Wd) (s : St) (b : List UInt8) : St := addS (rounds ks (sched (words b) 48) s 64) s
def startS : St := ⟨0x6a09e667, 0xbb67ae85, 0x3c6ef372, 0xa54ff53a, 0x510e527f, 0x9b05688c, 0x1f83d9ab, 0x5be0cd19⟩
def abcB : List UInt8 := [97, 98, 99, 128] ++ List.replicate 59 0 ++ [24]
theorem abc_test : (blockS kList startS abcB).a = 0xba7816bf := by decide +kernel
end Go.Proofs.YtcjbplgjjhenkaaDoor
/-
  Arrays of words in memory: what a block of 64 words, of 8 words holds.
-/
namespace Go.Proofs.YtcjbplgjjhenkaaDoor
open Go.RowKit
set_option linter.unusedVariables false

def wA (f : Nat → Wd) : Array Value := ((List.range 64).map fun j => wv (f j)).toArray
theorem wA_at (f : Nat → Wd) {j : Nat} (h : j < 64) : (wA f)[j]? = some (.int .u32 (wi (f j))) := by
  simp [wA, wv, h]
theorem wA_ext {f g : Nat → Wd} (h : ∀ j, j < 64 → f j = g j) : wA f = wA g := by
  unfold wA
  congr 1
  apply List.map_congr_left
  intro j hj
  rw [h j (List.mem_range.1 hj)]
theorem wA_size (f : Nat → Wd) : (wA f).size = 64 := by simp [wA]
theorem wA_set (f : Nat → Wd) (i : Nat) (x : Wd) : (wA f).setIfInBounds i (wv x) = wA (fun j => if j = i then x else f j) := by
  have h1 : (wA f).size = 64 := wA_size f
  apply Array.ext
  · rw [Array.size_setIfInBounds, wA_size, wA_size]
  · intro j hj1 hj2
    have hj : j < 64 := by rw [wA_size] at hj2; exact hj2
    have g1 : (wA f)[j]? = some (wv (f j)) := wA_at f hj
    have g2 : (wA fun j => if j = i then x else f j)[j]? = some (wv (if j = i then x else f j)) := wA_at _ hj
    rw [Array.getElem?_eq_getElem (by omega)] at g1 g2
    rw [Option.some.inj g2, Array.getElem_setIfInBounds (by rw [Array.size_setIfInBounds] at hj1; exact hj1)]
    by_cases e : i = j
    · rw [if_pos e, if_pos e.symm]
    · rw [if_neg e, if_neg (Ne.symm e)]
      exact Option.some.inj g1
theorem zeros64 : (Array.replicate 64 (Value.int .u32 0)) = wA (fun _ => 0) := by rfl

def F1 (l : List UInt8) (i : Nat) : Nat → Wd := fun j => if j < i then wd l j else 0
def F2 (l : List UInt8) (i k : Nat) : Nat → Wd := fun j => if j < i then wd l j else if j = i then pw l i k else 0
theorem F2_zero (l : List UInt8) (i : Nat) : wA (F2 l i 0) = wA (F1 l i) := wA_ext fun j _ => by
  unfold F2 F1
  split
  · rfl
  · split <;> rfl
theorem F2_four (l : List UInt8) (i : Nat) : wA (F2 l i 4) = wA (F1 l (i + 1)) := wA_ext fun j _ => by
  unfold F2 F1
  by_cases h : j < i
  · rw [if_pos h, if_pos (by omega)]
  · by_cases e : j = i
    · subst e
      rw [if_neg h, if_pos rfl, if_pos (by omega)]
      rfl
    · rw [if_neg h, if_neg e, if_neg (by omega)]
theorem F2_self (l : List UInt8) (i k : Nat) : F2 l i k i = pw l i k := by
  unfold F2
  rw [if_neg (by omega), if_pos rfl]
theorem F2_set (l : List UInt8) (i k : Nat) : (wA (F2 l i k)).setIfInBounds i (wv (pw l i k * 256 + BitVec.ofNat 32 (l.getD (4 * i + k) 0).toNat)) = wA (F2 l i (k + 1)) := by
  rw [wA_set]
  refine wA_ext fun j _ => ?_
  unfold F2
  by_cases e : j = i
  · subst e
    rw [if_pos rfl, if_neg (by omega), if_pos rfl]
    rfl
  · rw [if_neg e, if_neg e, if_neg e]
theorem pw_num (x : Wd) (b : UInt8) : wi (x * 256 + BitVec.ofNat 32 b.toNat) = (wi x * 256 + b.toNat) % 4294967296 := by
  unfold wi
  have := byte_lt b
  rw [BitVec.toNat_add, BitVec.toNat_mul]
  simp
def F3 (l : List UInt8) (n : Nat) : Nat → Wd := fun j => if j < n then SW l j else 0
theorem F3_start (l : List UInt8) : wA (F1 l 16) = wA (F3 l 16) := wA_ext fun j _ => by
  unfold F1 F3
  by_cases h : j < 16
  · rw [if_pos h, if_pos h, SW_low l j h]
  · rw [if_neg h, if_neg h]
theorem F3_at (l : List UInt8) (n j : Nat) (h : j < n) : F3 l n j = SW l j := if_pos h
theorem F3_set (l : List UInt8) (n : Nat) : (wA (F3 l n)).setIfInBounds n (wv (SW l n)) = wA (F3 l (n + 1)) := by
  rw [wA_set]
  refine wA_ext fun j _ => ?_
  unfold F3
  by_cases e : j = n
  · subst e
    rw [if_pos rfl, if_pos (by omega)]
  · rw [if_neg e]
    by_cases h : j < n
    · rw [if_pos h, if_pos (by omega)]
    · rw [if_neg h, if_neg (by omega)]
theorem F3_all (l : List UInt8) : wA (F3 l 64) = wA (SW l) := wA_ext fun j h => if_pos h
theorem stA_size (s : St) : (stA s).size = 8 := rfl

theorem st_shift (q : St) (x y : Wd) : (((((((((stA q).setIfInBounds 7 (wv q.g)).setIfInBounds 6 (wv q.f)).setIfInBounds 5 (wv q.e)).setIfInBounds 4 (wv q.d)).setIfInBounds 3 (wv q.c)).setIfInBounds 2 (wv q.b)).setIfInBounds 1 (wv q.a)).setIfInBounds 4 (wv x)).setIfInBounds 0 (wv y) = #[wv y, wv q.a, wv q.b, wv q.c, wv x, wv q.e, wv q.f, wv q.g] := by
  simp [stA]
theorem st_sum (s q : St) : ((((((((stA q).setIfInBounds 0 (wv (q.a + s.a))).setIfInBounds 1 (wv (q.b + s.b))).setIfInBounds 2 (wv (q.c + s.c))).setIfInBounds 3 (wv (q.d + s.d))).setIfInBounds 4 (wv (q.e + s.e))).setIfInBounds 5 (wv (q.f + s.f))).setIfInBounds 6 (wv (q.g + s.g))).setIfInBounds 7 (wv (q.h + s.h)) = stA (addS q s) := by
  simp [stA, addS]
theorem Blk.shifted {W : World} {g : Nat} {t : TypeId} {q : St} (x y : Wd) (h : Blk W g t (stA q)) :
    Blk (((((((((W.setCell ⟨g, 7, none⟩ (wv q.g)).setCell ⟨g, 6, none⟩ (wv q.f)).setCell ⟨g, 5, none⟩ (wv q.e)).setCell ⟨g, 4, none⟩ (wv q.d)).setCell ⟨g, 3, none⟩ (wv q.c)).setCell ⟨g, 2, none⟩ (wv q.b)).setCell ⟨g, 1, none⟩ (wv q.a)).setCell ⟨g, 4, none⟩ (wv x)).setCell ⟨g, 0, none⟩ (wv y)) g t #[wv y, wv q.a, wv q.b, wv q.c, wv x, wv q.e, wv q.f, wv q.g] := by
  rw [← st_shift q x y]
  exact ((((((((h.put 7 _).put 6 _).put 5 _).put 4 _).put 3 _).put 2 _).put 1 _).put 4 _).put 0 _
theorem Blk.summed {W : World} {g : Nat} {t : TypeId} {q : St} (s : St) (h : Blk W g t (stA q)) :
    Blk ((((((((W.setCell ⟨g, 0, none⟩ (wv (q.a + s.a))).setCell ⟨g, 1, none⟩ (wv (q.b + s.b))).setCell ⟨g, 2, none⟩ (wv (q.c + s.c))).setCell ⟨g, 3, none⟩ (wv (q.d + s.d))).setCell ⟨g, 4, none⟩ (wv (q.e + s.e))).setCell ⟨g, 5, none⟩ (wv (q.f + s.f))).setCell ⟨g, 6, none⟩ (wv (q.g + s.g))).setCell ⟨g, 7, none⟩ (wv (q.h + s.h))) g t (stA (addS q s)) := by
  rw [← st_sum s q]
  exact (((((((h.put 0 _).put 1 _).put 2 _).put 3 _).put 4 _).put 5 _).put 6 _).put 7 _
def stF (s : St) : Nat → Wd
  | 0 => s.a
  | 1 => s.b
  | 2 => s.c
  | 3 => s.d
  | 4 => s.e
  | 5 => s.f
  | 6 => s.g
  | _ => s.h
def v8 (f : Nat → Wd) : Array Value := ((List.range 8).map fun j => wv (f j)).toArray
theorem v8_st (s : St) : stA s = v8 (stF s) := rfl
theorem v8_at (f : Nat → Wd) {j : Nat} (h : j < 8) : (v8 f)[j]? = some (.int .u32 (wi (f j))) := by
  simp [v8, wv, h]
theorem v8_size (f : Nat → Wd) : (v8 f).size = 8 := by simp [v8]
theorem v8_ext {f g : Nat → Wd} (h : ∀ j, j < 8 → f j = g j) : v8 f = v8 g := by
  unfold v8
  congr 1
  apply List.map_congr_left
  intro j hj
  rw [h j (List.mem_range.1 hj)]
theorem v8_set (f : Nat → Wd) (i : Nat) (x : Wd) : (v8 f).setIfInBounds i (wv x) = v8 (fun j => if j = i then x else f j) := by
  have h1 : (v8 f).size = 8 := v8_size f
  apply Array.ext
  · rw [Array.size_setIfInBounds, v8_size, v8_size]
  · intro j hj1 hj2
    have hj : j < 8 := by rw [v8_size] at hj2; exact hj2
    have g1 : (v8 f)[j]? = some (wv (f j)) := v8_at f hj
    have g2 : (v8 fun j => if j = i then x else f j)[j]? = some (wv (if j = i then x else f j)) := v8_at _ hj
    rw [Array.getElem?_eq_getElem (by omega)] at g1 g2
    rw [Option.some.inj g2, Array.getElem_setIfInBounds (by rw [Array.size_setIfInBounds] at hj1; exact hj1)]
    by_cases e : i = j
    · rw [if_pos e, if_pos e.symm]
    · rw [if_neg e, if_neg (Ne.symm e)]
      exact Option.some.inj g1
def sumF (q s : St) (n : Nat) : Nat → Wd := fun j => if j < n then stF q j + stF s j else stF q j
theorem sumF_start (q s : St) : v8 (sumF q s 0) = stA q := by rw [v8_st]; exact v8_ext fun j _ => if_neg (by omega)
theorem sumF_end (q s : St) : v8 (sumF q s 8) = stA (addS q s) := by
  rw [v8_st]
  refine v8_ext fun j h => ?_
  unfold sumF
  rw [if_pos h]
  match j, h with
  | 0, _ => rfl
  | 1, _ => rfl
  | 2, _ => rfl
  | 3, _ => rfl
  | 4, _ => rfl
  | 5, _ => rfl
  | 6, _ => rfl
  | 7, _ => rfl
theorem sumF_at (q s : St) (n : Nat) : sumF q s n n = stF q n := if_neg (by omega)
theorem sumF_set (q s : St) (n : Nat) : (v8 (sumF q s n)).setIfInBounds n (wv (stF q n + stF s n)) = v8 (sumF q s (n + 1)) := by
  rw [v8_set]
  refine v8_ext fun j _ => ?_
  unfold sumF
  by_cases e : j = n
  · subst e
    rw [if_pos rfl, if_pos (by omega)]
  · rw [if_neg e]
    by_cases h : j < n
    · rw [if_pos h, if_pos (by omega)]
    · rw [if_neg h, if_neg (by omega)]
theorem put_word8 {W : World} {g i : Nat} {t : TypeId} {f f' : Nat → Wd} {x : Wd} {z : Int} (h : Blk W g t (v8 f)) (hz : z = wi x) (hf : (v8 f).setIfInBounds i (wv x) = v8 f') : Blk (W.setCell ⟨g, i, none⟩ (.int .u32 z)) g t (v8 f') := by
  subst hz
  rw [← hf]
  exact h.put i _
/-- The first four blocks that a call of Block makes: the state, the block, the constants, the result's variable. -/
structure Env (w : World) (s : St) (l : List UInt8) (ks : List Wd) (wr : World) : Prop where
  bel : Below w.heap.size w wr
  b0 : Blk wr w.heap.size 77 (stA s)
  b1 : Blk wr (w.heap.size + 1) 67 (l.map bv).toArray
  b2 : Blk wr (w.heap.size + 1 + 1) 79 (ks.map wv).toArray
  b3 : Blk wr (w.heap.size + 1 + 1 + 1) 77 (Array.replicate 8 (.int .u32 0))
section
variable {w wr : World} {s : St} {l : List UInt8} {ks : List Wd}
theorem Env.drew (h : Env w s l ks wr) : Env w s l ks wr.drew := ⟨⟨h.bel.os, h.bel.tape, h.bel.output, h.bel.size, h.bel.block⟩, h.b0, h.b1, h.b2, h.b3⟩
theorem Env.drewN (h : Env w s l ks wr) (n : Nat) : Env w s l ks (wr.drewN n) := ⟨below_drewN h.bel n, h.b0, h.b1, h.b2, h.b3⟩
theorem Env.set (h : Env w s l ks wr) {g : Nat} (hg : w.heap.size + 4 ≤ g) (i : Nat) (u : Value) : Env w s l ks (wr.setCell ⟨g, i, none⟩ u) :=
  ⟨h.bel.setCell (by show w.heap.size ≤ g; omega) u, h.b0.far (by show w.heap.size ≠ g; omega) u, h.b1.far (by show w.heap.size + 1 ≠ g; omega) u, h.b2.far (by show w.heap.size + 1 + 1 ≠ g; omega) u, h.b3.far (by show w.heap.size + 1 + 1 + 1 ≠ g; omega) u⟩
theorem Env.alloc (h : Env w s l ks wr) (o : Obj) : Env w s l ks (wr.alloc o) := ⟨h.bel.alloc h.bel.size o, h.b0.alloc o, h.b1.alloc o, h.b2.alloc o, h.b3.alloc o⟩
theorem env_start (w : World) (s : St) (l : List UInt8) (ks : List Wd) (zs : Array Value) (hz : zs = wA (fun _ => 0)) :
    Env w s l ks (((((w.alloc (.cells (stA s) 77)).alloc (.cells (l.map bv).toArray 67)).alloc (.cells (ks.map wv).toArray 79)).alloc (.cells (Array.replicate 8 (.int .u32 0)) 77)).alloc (.cells zs 79)) ∧
    Blk (((((w.alloc (.cells (stA s) 77)).alloc (.cells (l.map bv).toArray 67)).alloc (.cells (ks.map wv).toArray 79)).alloc (.cells (Array.replicate 8 (.int .u32 0)) 77)).alloc (.cells zs 79)) (w.heap.size + 1 + 1 + 1 + 1) 79 (wA (F1 l 0)) := by
  have hz' : zs = wA (F1 l 0) := hz.trans (wA_ext fun j _ => by unfold F1; rw [if_neg (by omega)])
  subst hz'
  have n0 := Blk.new w 77 (stA s)
  have n1 := Blk.new (w.alloc (.cells (stA s) 77)) 67 (l.map bv).toArray
  have n2 := Blk.new ((w.alloc (.cells (stA s) 77)).alloc (.cells (l.map bv).toArray 67)) 79 (ks.map wv).toArray
  have n3 := Blk.new (((w.alloc (.cells (stA s) 77)).alloc (.cells (l.map bv).toArray 67)).alloc (.cells (ks.map wv).toArray 79)) 77 (Array.replicate 8 (.int .u32 0))
  have n4 := Blk.new ((((w.alloc (.cells (stA s) 77)).alloc (.cells (l.map bv).toArray 67)).alloc (.cells (ks.map wv).toArray 79)).alloc (.cells (Array.replicate 8 (.int .u32 0)) 77)) 79 (wA (F1 l 0))
  simp only [World.size_alloc] at n1 n2 n3 n4
  refine ⟨⟨(((((Below.refl _ _).alloc (Nat.le_refl _) _).alloc (by simp) _).alloc (by simp; omega) _).alloc (by simp; omega) _).alloc (by simp; omega) _, (((n0.alloc _).alloc _).alloc _).alloc _, ((n1.alloc _).alloc _).alloc _, (n2.alloc _).alloc _, n3.alloc _⟩, n4⟩
end
end Go.Proofs.YtcjbplgjjhenkaaDoor
/-
  The field of 256 elements, as plain functions on bytes: products, inverses, powers; that products are linear, do not depend on the order, and have inverses. No function of the program is named here.
-/
namespace Go.Proofs.YtcjbplgjjhenkaaDoor
set_option linter.unusedVariables false

/-! ### Bits of bytes -/
def gbit (b : UInt8) (i : Nat) : Bool := b.toNat.testBit i
def gsel (c : Bool) (x : UInt8) : UInt8 := if c then x else 0
theorem gsel_xor (c d : Bool) (x : UInt8) : gsel (c ^^ d) x = gsel c x ^^^ gsel d x := by
  cases c <;> cases d <;> simp [gsel]
theorem gsel_lin (c : Bool) (x y : UInt8) : gsel c (x ^^^ y) = gsel c x ^^^ gsel c y := by
  cases c <;> simp [gsel]
theorem gbit_xor (a b : UInt8) (i : Nat) : gbit (a ^^^ b) i = (gbit a i ^^ gbit b i) := by
  unfold gbit
  rw [UInt8.toNat_xor, Nat.testBit_xor]
theorem xor4 (a b c d : UInt8) : (a ^^^ b) ^^^ (c ^^^ d) = (a ^^^ c) ^^^ (b ^^^ d) := by
  rw [UInt8.xor_assoc, UInt8.xor_assoc]
  congr 1
  rw [← UInt8.xor_assoc, ← UInt8.xor_assoc, UInt8.xor_comm b c]
/-- Twice a byte. -/
def xt (a : UInt8) : UInt8 := (a <<< 1) ^^^ gsel (gbit a 7) 27
theorem shl_lin (a b : UInt8) : (a ^^^ b) <<< 1 = (a <<< 1) ^^^ (b <<< 1) := by
  apply UInt8.toBitVec_inj.1
  simp only [UInt8.toBitVec_shiftLeft, UInt8.toBitVec_xor]
  exact BitVec.shiftLeft_xor_distrib _ _ _
theorem xt_lin (a b : UInt8) : xt (a ^^^ b) = xt a ^^^ xt b := by
  unfold xt
  rw [shl_lin, gbit_xor, gsel_xor, xor4]
/-- The product of two bytes: the sum of the multiples of a by the bits of b. -/
def gf (a b : UInt8) : UInt8 :=
  ((gsel (gbit b 0) a ^^^ gsel (gbit b 1) (xt a)) ^^^ (gsel (gbit b 2) (xt (xt a)) ^^^ gsel (gbit b 3) (xt (xt (xt a))))) ^^^
  ((gsel (gbit b 4) (xt (xt (xt (xt a)))) ^^^ gsel (gbit b 5) (xt (xt (xt (xt (xt a)))))) ^^^ (gsel (gbit b 6) (xt (xt (xt (xt (xt (xt a)))))) ^^^ gsel (gbit b 7) (xt (xt (xt (xt (xt (xt (xt a)))))))))
theorem gf_lin_r (a b c : UInt8) : gf a (b ^^^ c) = gf a b ^^^ gf a c := by
  unfold gf
  simp only [gbit_xor, gsel_xor]
  generalize gsel (gbit b 0) a = b0, gsel (gbit c 0) a = c0
  rw [xor4 b0 c0, xor4 (gsel (gbit b 2) _) , xor4 (gsel (gbit b 4) _), xor4 (gsel (gbit b 6) _), xor4 (b0 ^^^ _), xor4 (gsel (gbit b 4) _ ^^^ _), xor4]
theorem gf_lin_l (a b c : UInt8) : gf (a ^^^ b) c = gf a c ^^^ gf b c := by
  unfold gf
  simp only [xt_lin, gsel_lin]
  generalize gsel (gbit c 0) a = b0, gsel (gbit c 0) b = c0
  rw [xor4 b0 c0, xor4 (gsel (gbit c 2) _) , xor4 (gsel (gbit c 4) _), xor4 (gsel (gbit c 6) _), xor4 (b0 ^^^ _), xor4 (gsel (gbit c 4) _ ^^^ _), xor4]

/-! ### What is linear is known by eight values -/
def Lin (f : UInt8 → UInt8) : Prop := ∀ a b, f (a ^^^ b) = f a ^^^ f b
def parts8 (a : UInt8) : UInt8 := ((gsel (gbit a 0) 1 ^^^ gsel (gbit a 1) 2) ^^^ (gsel (gbit a 2) 4 ^^^ gsel (gbit a 3) 8)) ^^^ ((gsel (gbit a 4) 16 ^^^ gsel (gbit a 5) 32) ^^^ (gsel (gbit a 6) 64 ^^^ gsel (gbit a 7) 128))
theorem of_all {P : UInt8 → Prop} (h : ∀ n : Nat, n < 256 → P (UInt8.ofNat n)) (a : UInt8) : P a := by
  have := h a.toNat (UInt8.toNat_lt a)
  rwa [UInt8.ofNat_toNat] at this
theorem parts8_eq (a : UInt8) : parts8 a = a := of_all (P := fun a => parts8 a = a) (by decide +kernel) a
theorem Lin.zero {f : UInt8 → UInt8} (h : Lin f) : f 0 = 0 := by
  have h1 := h 0 0
  rw [UInt8.xor_self] at h1
  rw [h1, UInt8.xor_self]
theorem Lin.sel {f : UInt8 → UInt8} (h : Lin f) (c : Bool) (x : UInt8) : f (gsel c x) = gsel c (f x) := by
  cases c
  · exact h.zero
  · rfl
theorem lin_ext {f g : UInt8 → UInt8} (hf : Lin f) (hg : Lin g) (h : f 1 = g 1 ∧ f 2 = g 2 ∧ f 4 = g 4 ∧ f 8 = g 8 ∧ f 16 = g 16 ∧ f 32 = g 32 ∧ f 64 = g 64 ∧ f 128 = g 128) (a : UInt8) : f a = g a := by
  obtain ⟨h1, h2, h4, h8, h16, h32, h64, h128⟩ := h
  rw [← parts8_eq a]
  unfold parts8
  rw [hf, hf, hf, hf, hf, hf, hf, hg, hg, hg, hg, hg, hg, hg]
  simp only [hf.sel, hg.sel, h1, h2, h4, h8, h16, h32, h64, h128]
theorem lin_l (b : UInt8) : Lin (fun a => gf a b) := fun x y => gf_lin_l x y b
theorem lin_r (a : UInt8) : Lin (fun b => gf a b) := fun x y => gf_lin_r a x y
theorem Lin.comp {f g : UInt8 → UInt8} (hf : Lin f) (hg : Lin g) : Lin (fun a => f (g a)) := fun x y => by
  show f (g (x ^^^ y)) = _
  rw [hg, hf]
theorem gf_comm (a b : UInt8) : gf a b = gf b a := by
  refine lin_ext (f := fun a => gf a b) (g := fun a => gf b a) (lin_l b) (lin_r b) ?_ a
  refine ⟨?_, ?_, ?_, ?_, ?_, ?_, ?_, ?_⟩ <;> exact lin_ext (lin_r _) (lin_l _) (by decide +kernel) b
theorem gf_assoc (a b c : UInt8) : gf (gf a b) c = gf a (gf b c) := by
  refine lin_ext (f := fun a => gf (gf a b) c) (g := fun a => gf a (gf b c)) ((lin_l c).comp (lin_l b)) (lin_l _) ?_ a
  refine ⟨?_, ?_, ?_, ?_, ?_, ?_, ?_, ?_⟩ <;>
    (refine lin_ext (f := fun b => gf (gf _ b) c) (g := fun b => gf _ (gf b c)) ((lin_l c).comp (lin_r _)) ((lin_r _).comp (lin_l c)) ?_ b
     refine ⟨?_, ?_, ?_, ?_, ?_, ?_, ?_, ?_⟩ <;> exact lin_ext (f := fun c => gf _ c) (g := fun c => gf _ (gf _ c)) (lin_r _) ((lin_r _).comp (lin_r _)) (by decide +kernel) c)
theorem gf_one (a : UInt8) : gf a 1 = a := lin_ext (f := fun a => gf a 1) (g := fun a => a) (lin_l 1) (fun _ _ => rfl) (by decide +kernel) a
theorem gf_one_l (a : UInt8) : gf 1 a = a := by rw [gf_comm, gf_one]
theorem gf_zero (a : UInt8) : gf a 0 = 0 := (lin_r a).zero
theorem gf_zero_l (a : UInt8) : gf 0 a = 0 := (lin_l a).zero
end Go.Proofs.YtcjbplgjjhenkaaDoor
/-
  The field of 256 elements: powers, inverses, the substitution, as plain functions on bytes.
-/
namespace Go.Proofs.YtcjbplgjjhenkaaDoor
set_option linter.unusedVariables false

theorem gf_swap (a b c d : UInt8) : gf (gf a b) (gf c d) = gf (gf a c) (gf b d) := by
  rw [gf_assoc, gf_assoc]
  congr 1
  rw [← gf_assoc, ← gf_assoc, gf_comm b c]
/-! ### Powers -/
def gpow (a : UInt8) : Nat → UInt8
  | 0 => 1
  | n + 1 => gf (gpow a n) a
theorem gpow_add (a : UInt8) (m n : Nat) : gpow a (m + n) = gf (gpow a m) (gpow a n) := by
  induction n with
  | zero => exact (gf_one _).symm
  | succ n ih => rw [← Nat.add_assoc, gpow, ih, gpow, gf_assoc]
theorem gpow_mul (a b : UInt8) (n : Nat) : gpow (gf a b) n = gf (gpow a n) (gpow b n) := by
  induction n with
  | zero => exact (gf_one _).symm
  | succ n ih => rw [gpow, gpow, gpow, ih, gf_swap]
theorem gpow_one (n : Nat) : gpow 1 n = 1 := by
  induction n with
  | zero => rfl
  | succ n ih => rw [gpow, ih, gf_one]
theorem gpow_pow (a : UInt8) (m n : Nat) : gpow (gpow a m) n = gpow a (m * n) := by
  induction n with
  | zero => rfl
  | succ n ih => rw [gpow, ih, Nat.mul_succ, gpow_add]
theorem gpow_zero_l (n : Nat) (h : 0 < n) : gpow 0 n = 0 := by
  cases n with
  | zero => omega
  | succ n => rw [gpow, gf_zero]
/-- Powers by squares. -/
def sq (a : UInt8) : UInt8 := gf a a
def inv8 (a : UInt8) : UInt8 :=
  gf (gf (gf (sq a) (sq (sq a))) (gf (sq (sq (sq a))) (sq (sq (sq (sq a)))))) (gf (gf (sq (sq (sq (sq (sq a))))) (sq (sq (sq (sq (sq (sq a))))))) (sq (sq (sq (sq (sq (sq (sq a))))))))
theorem sq_pow (a : UInt8) (n : Nat) : sq (gpow a n) = gpow a (n + n) := (gpow_add a n n).symm
theorem inv8_pow (a : UInt8) : inv8 a = gpow a 254 := by
  have h1 : gpow a 1 = a := gf_one_l a
  unfold inv8
  have h : ∀ n, sq (gpow a n) = gpow a (n + n) := sq_pow a
  conv => lhs; rw [← h1]
  simp only [h, ← gpow_add]
/-- The inverse of a byte; that of 0 is 0. -/
def ginv (a : UInt8) : UInt8 := gpow a 254
theorem ginv_eq (a : UInt8) : ginv a = inv8 a := (inv8_pow a).symm
theorem ginv_zero : ginv 0 = 0 := gpow_zero_l 254 (by omega)
theorem gf_ginv (a : UInt8) (h : a ≠ 0) : gf a (ginv a) = 1 := by
  rw [ginv_eq]
  exact of_all (P := fun a => a ≠ 0 → gf a (inv8 a) = 1) (by decide +kernel) a h
theorem gf_ginv_zero (a : UInt8) : gf a (ginv a) = if a = 0 then 0 else 1 := by
  split
  · rename_i h; subst h; exact gf_zero_l _
  · rename_i h; exact gf_ginv a h
theorem gpow_255 (a : UInt8) (h : a ≠ 0) : gpow a 255 = 1 := by
  show gf (gpow a 254) a = 1
  rw [gf_comm]
  exact gf_ginv a h
theorem gf_cancel (a b c : UInt8) (h : a ≠ 0) (e : gf a b = gf a c) : b = c := by
  have := congrArg (gf (ginv a)) e
  rw [← gf_assoc, ← gf_assoc, gf_comm (ginv a) a, gf_ginv a h, gf_one_l, gf_one_l] at this
  exact this
theorem ginv_of (a b : UInt8) (h : gf a b = 1) : b = ginv a := by
  have ha : a ≠ 0 := by
    rintro rfl
    rw [gf_zero_l] at h
    exact absurd h (by decide)
  exact gf_cancel a b (ginv a) ha (by rw [h, gf_ginv a ha])
theorem ginv_ne (a : UInt8) (h : a ≠ 0) : ginv a ≠ 0 := by
  intro e
  have := gf_ginv a h
  rw [e, gf_zero] at this
  exact absurd this (by decide)
theorem ginv_ginv (a : UInt8) : ginv (ginv a) = a := by
  by_cases h : a = 0
  · subst h; rw [ginv_zero, ginv_zero]
  · exact (ginv_of (ginv a) a (by rw [gf_comm]; exact gf_ginv a h)).symm
theorem ginv_gf (a b : UInt8) : ginv (gf a b) = gf (ginv a) (ginv b) := gpow_mul a b 254
theorem gf_ne (a b : UInt8) (ha : a ≠ 0) (hb : b ≠ 0) : gf a b ≠ 0 := by
  intro e
  exact hb (gf_cancel a b 0 ha (by rw [e, gf_zero]))
theorem gpow_ne (a : UInt8) (n : Nat) (h : a ≠ 0) : gpow a n ≠ 0 := by
  induction n with
  | zero => exact (by decide : (1 : UInt8) ≠ 0)
  | succ n ih => exact gf_ne _ _ ih h
theorem gpow_mod (a : UInt8) (n : Nat) (h : a ≠ 0) : gpow a n = gpow a (n % 255) := by
  conv => lhs; rw [← Nat.div_add_mod n 255]
  rw [gpow_add, ← gpow_pow, gpow_255 a h, gpow_one, gf_one_l]
/-- Powers with any number. -/
def gpowZ (a : UInt8) (z : Int) : UInt8 := if z < 0 then gpow (ginv a) (-z).toNat else gpow a z.toNat
theorem gpow_ginv (a : UInt8) (m n : Nat) (h : a ≠ 0) : gf (gpow a (m + n)) (gpow (ginv a) n) = gpow a m := by
  rw [gpow_add, gf_assoc, ← gpow_mul, gf_ginv a h, gpow_one, gf_one]
theorem gpowZ_add (a : UInt8) (y z : Int) (h : a ≠ 0) : gf (gpowZ a y) (gpowZ a z) = gpowZ a (y + z) := by
  unfold gpowZ
  have hi := ginv_ne a h
  have key : ∀ (b : UInt8) (p q : Nat), b ≠ 0 → gf (gpow b p) (gpow (ginv b) q) = if p < q then gpow (ginv b) (q - p) else gpow b (p - q) := by
    intro b p q hb
    split
    · rename_i hpq
      have e := gpow_ginv (ginv b) (q - p) p (ginv_ne b hb)
      rw [ginv_ginv, show q - p + p = q by omega] at e
      rw [gf_comm]
      exact e
    · have e := gpow_ginv b (p - q) q hb
      rw [show p - q + q = p by omega] at e
      exact e
  by_cases h1 : y < 0
  · by_cases h2 : z < 0
    · rw [if_pos h1, if_pos h2, if_pos (by omega), ← gpow_add]
      congr 1
      omega
    · rw [if_pos h1, if_neg h2, gf_comm, key a _ _ h]
      split
      · rw [if_pos (by omega)]; congr 1; omega
      · rw [if_neg (by omega)]; congr 1; omega
  · by_cases h2 : z < 0
    · rw [if_neg h1, if_pos h2, key a _ _ h]
      split
      · rw [if_pos (by omega)]; congr 1; omega
      · rw [if_neg (by omega)]; congr 1; omega
    · rw [if_neg h1, if_neg h2, if_neg (by omega), ← gpow_add]
      congr 1
      omega
theorem gpowZ_255 (a : UInt8) (h : a ≠ 0) : gpowZ a 255 = 1 := gpow_255 a h

/-! ### The substitution -/
def gxb (b : UInt8) (i : Nat) : Bool := gbit b i ^^ gbit b ((i + 4) % 8) ^^ gbit b ((i + 5) % 8) ^^ gbit b ((i + 6) % 8) ^^ gbit b ((i + 7) % 8) ^^ Nat.testBit 99 i
def byteOf (f : Nat → Bool) : UInt8 := ((gsel (f 0) 1 ^^^ gsel (f 1) 2) ^^^ (gsel (f 2) 4 ^^^ gsel (f 3) 8)) ^^^ ((gsel (f 4) 16 ^^^ gsel (f 5) 32) ^^^ (gsel (f 6) 64 ^^^ gsel (f 7) 128))
/-- The second part of a substitution, and what leads back from it. -/
def gaff (b : UInt8) : UInt8 := byteOf (gxb b)
def gunaff (s : UInt8) : UInt8 := byteOf fun i => gbit s ((i + 2) % 8) ^^ gbit s ((i + 5) % 8) ^^ gbit s ((i + 7) % 8) ^^ Nat.testBit 5 i
theorem gunaff_gaff (b : UInt8) : gunaff (gaff b) = b := of_all (P := fun b => gunaff (gaff b) = b) (by decide +kernel) b
theorem gaff_gunaff (b : UInt8) : gaff (gunaff b) = b := of_all (P := fun b => gaff (gunaff b) = b) (by decide +kernel) b
def gsub (a : UInt8) : UInt8 := gaff (ginv a)
def gunsub (s : UInt8) : UInt8 := ginv (gunaff s)
theorem gunsub_gsub (a : UInt8) : gunsub (gsub a) = a := by unfold gunsub gsub; rw [gunaff_gaff, ginv_ginv]
theorem gsub_gunsub (a : UInt8) : gsub (gunsub a) = a := by unfold gunsub gsub; rw [ginv_ginv, gaff_gunaff]
theorem gf_awake : gf 0x57 0x83 = 0xc1 ∧ inv8 0x53 = 0xca ∧ gaff (inv8 0x53) = 0xed := by decide +kernel
end Go.Proofs.YtcjbplgjjhenkaaDoor
/-
  The reference's way to a product: the sum of shifted bytes, then the division by 283: it is the product of the field.
-/
namespace Go.Proofs.YtcjbplgjjhenkaaDoor
set_option linter.unusedVariables false

def nsel (c : Bool) (x : Nat) : Nat := if c then x else 0
theorem nsel_xor (c d : Bool) (x : Nat) : nsel (c ^^ d) x = nsel c x ^^^ nsel d x := by
  cases c <;> cases d <;> simp [nsel]
theorem nsel_lin (c : Bool) (x y : Nat) : nsel c (x ^^^ y) = nsel c x ^^^ nsel c y := by
  cases c <;> simp [nsel]
theorem nxor4 (a b c d : Nat) : (a ^^^ b) ^^^ (c ^^^ d) = (a ^^^ c) ^^^ (b ^^^ d) := by
  rw [Nat.xor_assoc, Nat.xor_assoc]
  congr 1
  rw [← Nat.xor_assoc, ← Nat.xor_assoc, Nat.xor_comm b c]
/-- The first i terms of the sum. -/
def rP (a b : Nat) : Nat → Nat
  | 0 => 0
  | i + 1 => rP a b i ^^^ nsel (b.testBit i) (a <<< i)
/-- The remainder behind k steps of the division. -/
def rR (p : Nat) : Nat → Nat
  | 0 => p
  | k + 1 => rR p k ^^^ nsel ((rR p k).testBit (14 - k)) (283 <<< (6 - k))
theorem rP_lin_l (a c b i : Nat) : rP (a ^^^ c) b i = rP a b i ^^^ rP c b i := by
  induction i with
  | zero => simp [rP]
  | succ i ih => rw [rP, rP, rP, ih, Nat.shiftLeft_xor_distrib, nsel_lin, nxor4]
theorem rP_lin_r (a b c i : Nat) : rP a (b ^^^ c) i = rP a b i ^^^ rP a c i := by
  induction i with
  | zero => simp [rP]
  | succ i ih => rw [rP, rP, rP, ih, Nat.testBit_xor, nsel_xor, nxor4]
theorem rR_lin (p q k : Nat) : rR (p ^^^ q) k = rR p k ^^^ rR q k := by
  induction k with
  | zero => rfl
  | succ k ih => rw [rR, rR, rR, ih, Nat.testBit_xor, nsel_xor, nxor4]
theorem nsel_lt (c : Bool) (x n : Nat) (h : x < 2 ^ n) : nsel c x < 2 ^ n := by
  cases c
  · exact Nat.two_pow_pos n
  · exact h
theorem rP_lt (a b i : Nat) (ha : a < 256) (hi : i ≤ 8) : rP a b i < 2 ^ 15 := by
  induction i with
  | zero => exact Nat.two_pow_pos 15
  | succ i ih =>
    rw [rP]
    refine Nat.xor_lt_two_pow (ih (by omega)) (nsel_lt _ _ _ ?_)
    rw [Nat.shiftLeft_eq]
    have : 2 ^ i ≤ 2 ^ 7 := Nat.pow_le_pow_right (by omega) (by omega)
    calc a * 2 ^ i ≤ 255 * 2 ^ 7 := Nat.mul_le_mul (by omega) this
      _ < 2 ^ 15 := by decide
theorem rR_lt (p k : Nat) (hp : p < 2 ^ 15) (hk : k ≤ 7) : rR p k < 2 ^ 15 := by
  induction k with
  | zero => exact hp
  | succ k ih =>
    rw [rR]
    refine Nat.xor_lt_two_pow (ih (by omega)) (nsel_lt _ _ _ ?_)
    rw [Nat.shiftLeft_eq]
    have : 2 ^ (6 - k) ≤ 2 ^ 6 := Nat.pow_le_pow_right (by omega) (by omega)
    calc 283 * 2 ^ (6 - k) ≤ 283 * 2 ^ 6 := Nat.mul_le_mul (by omega) this
      _ < 2 ^ 15 := by decide
/-- The reference's product. -/
def rmul (a b : UInt8) : UInt8 := UInt8.ofNat (rR (rP a.toNat b.toNat 8) 7)
theorem ofNat_xor8 (x y : Nat) : UInt8.ofNat (x ^^^ y) = UInt8.ofNat x ^^^ UInt8.ofNat y := by
  apply UInt8.toNat_inj.1
  rw [UInt8.toNat_xor, UInt8.toNat_ofNat', UInt8.toNat_ofNat', UInt8.toNat_ofNat']
  exact Nat.xor_mod_two_pow
theorem rmul_eq (a b : UInt8) : rmul a b = gf a b := by
  have l : ∀ b, Lin fun a => rmul a b := fun b x y => by
    show UInt8.ofNat (rR (rP (x ^^^ y).toNat b.toNat 8) 7) = _
    rw [UInt8.toNat_xor, rP_lin_l, rR_lin, ofNat_xor8]
    rfl
  have r : ∀ a, Lin fun b => rmul a b := fun a x y => by
    show UInt8.ofNat (rR (rP a.toNat (x ^^^ y).toNat 8) 7) = _
    rw [UInt8.toNat_xor, rP_lin_r, rR_lin, ofNat_xor8]
    rfl
  refine lin_ext (f := fun a => rmul a b) (g := fun a => gf a b) (l b) (lin_l b) ?_ a
  refine ⟨?_, ?_, ?_, ?_, ?_, ?_, ?_, ?_⟩ <;> exact lin_ext (f := fun b => rmul _ b) (r _) (lin_r _) (by decide +kernel) b
/-- The reference's inverse: the first byte whose product is 1. -/
theorem first_inv (a : UInt8) (h : a ≠ 0) (b : UInt8) (hb : gf a b = 1) : b = ginv a := ginv_of a b hb

/-! ### Bits of 64-bit integers -/
open Go.RowKit in
theorem ofInt_64 (x : Nat) : BitVec.ofInt 64 (x : Int) = BitVec.ofNat 64 x := by
  apply BitVec.eq_of_toNat_eq
  rw [BitVec.toNat_ofInt, BitVec.toNat_ofNat]
  omega
theorem wrap_64 (x : Nat) (h : x < 2 ^ 63) : IntKind.i64.wrap (x : Int) = (x : Int) := by
  rw [IntKind.wrap_i64]
  omega
theorem x64 (x y : Nat) (hx : x < 2 ^ 62) (hy : y < 2 ^ 62) : bits .xor .i64 (x : Int) (y : Int) = ((x ^^^ y : Nat) : Int) := by
  show IntKind.i64.wrap ((BitVec.ofInt 64 (x : Int) ^^^ BitVec.ofInt 64 (y : Int)).toNat : Int) = _
  have hxy := Nat.xor_lt_two_pow hx hy
  rw [ofInt_64, ofInt_64, BitVec.toNat_xor, BitVec.toNat_ofNat, BitVec.toNat_ofNat, Nat.mod_eq_of_lt (by omega), Nat.mod_eq_of_lt (by omega), wrap_64 _ (by omega)]
theorem a64 (x y : Nat) (hx : x < 2 ^ 62) (hy : y < 2 ^ 62) : bits .and .i64 (x : Int) (y : Int) = ((x &&& y : Nat) : Int) := by
  show IntKind.i64.wrap ((BitVec.ofInt 64 (x : Int) &&& BitVec.ofInt 64 (y : Int)).toNat : Int) = _
  have hxy := Nat.and_lt_two_pow x hy
  rw [ofInt_64, ofInt_64, BitVec.toNat_and, BitVec.toNat_ofNat, BitVec.toNat_ofNat, Nat.mod_eq_of_lt (by omega), Nat.mod_eq_of_lt (by omega), wrap_64 _ (by omega)]
/-- A bit, as the walk asks for it. -/
theorem bit64 (x i : Nat) (hx : x < 2 ^ 62) : bits .and .i64 ((x : Int) / (2 : Int) ^ i) 1 = if x.testBit i then 1 else 0 := by
  have e : (x : Int) / (2 : Int) ^ i = ((x / 2 ^ i : Nat) : Int) := by
    rw [Int.natCast_ediv, Int.natCast_pow]
    rfl
  have h1 : x / 2 ^ i < 2 ^ 62 := Nat.lt_of_le_of_lt (Nat.div_le_self _ _) hx
  rw [e, show (1 : Int) = ((1 : Nat) : Int) from rfl, a64 _ 1 h1 (by omega), Nat.and_one_is_mod]
  have t : x.testBit i = decide (x / 2 ^ i % 2 = 1) := Nat.testBit_eq_decide_div_mod_eq
  rw [t]
  by_cases h : x / 2 ^ i % 2 = 1
  · simp [h]
  · have h0 : x / 2 ^ i % 2 = 0 := by omega
    simp [h0]
end Go.Proofs.YtcjbplgjjhenkaaDoor
/-
  The reference's products of the field, by a contract.
-/
namespace Go.Proofs.YtcjbplgjjhenkaaDoor
open Go.RowKit
set_option linter.unusedVariables false
set_option linter.unusedSimpArgs false

theorem sh64 (x j : Nat) (hx : x < 512) (hj : j ≤ 8) : wrap64 ((x : Int) * 2 ^ j) = ((x <<< j : Nat) : Int) := by
  have h1 : 2 ^ j ≤ 2 ^ 8 := Nat.pow_le_pow_right (by omega) hj
  have h2 : x * 2 ^ j ≤ 511 * 2 ^ 8 := Nat.mul_le_mul (by omega) h1
  have e : (x : Int) * 2 ^ j = ((x * 2 ^ j : Nat) : Int) := by
    rw [Int.natCast_mul, Int.natCast_pow]
    rfl
  rw [e, Nat.shiftLeft_eq]
  unfold wrap64
  omega
theorem shl_lt (x j : Nat) (hx : x < 512) (hj : j ≤ 8) : x <<< j < 4611686018427387904 := by
  rw [Nat.shiftLeft_eq]
  have : 2 ^ j ≤ 2 ^ 8 := Nat.pow_le_pow_right (by omega) hj
  have h2 : x * 2 ^ j ≤ 511 * 2 ^ 8 := Nat.mul_le_mul (by omega) this
  omega
set_option maxHeartbeats 1000000 in
set_option maxRecDepth 100000 in
theorem rgmul_any (w : World) (a b : UInt8) : Calls Tryd.prog 60 #[.int .u8 (a.toNat : Int), .int .u8 (b.toNat : Int)] w fun e w' => e = .returned (.int .u8 ((gf a b).toNat : Int)) ∧ w = w' := by
  have ha := byte_lt a
  have hb := byte_lt b
  have ha' : (a.toNat : Int) < 256 := by omega
  have hb' : (b.toNat : Int) < 256 := by omega
  have HA := kept ha
  have HB := kept hb
  clear ha hb
  go_enter Tryd.func60, Tryd.ntmps60
  go_wp2_with fail
  go_loop [5, 6] (fun p i => ∃ j : Nat, j ≤ 8 ∧ i = .int .i64 j ∧ p = .int .i64 (rP a.toNat b.toNat j : Nat)) (fun _ i => 8 - (intOf i).toNat)
  case atStart => exact ⟨0, Nat.zero_le _, rfl, rfl⟩
  case round =>
    obtain ⟨j, hj, rfl, rfl⟩ := hrel
    have hp : rP a.toNat b.toNat j < 32768 := rP_lt a.toNat b.toNat j HA.out hj
    have hs : rP a.toNat b.toNat (j + 1) = rP a.toNat b.toNat j ^^^ nsel (b.toNat.testBit j) (a.toNat <<< j) := rfl
    by_cases hlt : j < 8
    · obtain ⟨P, hP⟩ : ∃ P, rP a.toNat b.toNat j = P := ⟨_, rfl⟩
      rw [hP] at hp hs
      rw [hP]
      by_cases hbit : b.toNat.testBit j = true
      · have hb1 := bit64 b.toNat j (by have := HB.out; omega)
        rw [if_pos hbit] at hb1
        rw [hbit] at hs
        have hsh := sh64 a.toNat j (by have := HA.out; omega) (by omega)
        have hxx := x64 P (a.toNat <<< j) (by omega) (shl_lt _ _ (by have := HA.out; omega) (by omega))
        have HS := kept (show rP a.toNat b.toNat (j + 1) = P ^^^ (a.toNat <<< j) from hs)
        generalize a.toNat <<< j = S at hsh hxx HS
        generalize hq : P ^^^ S = Q at hxx HS
        clear hs hP hbit hq hp
        go_wp2
        go_round
        case rel => exact ⟨j + 1, by omega, by go_num, by rw [HS.out]⟩
        case measure => simp [intOf]; omega
      · have hb1 := bit64 b.toNat j (by have := HB.out; omega)
        rw [if_neg hbit] at hb1
        rw [Bool.not_eq_true] at hbit
        rw [hbit] at hs
        have HS := kept (show rP a.toNat b.toNat (j + 1) = P by rw [hs]; simp [nsel])
        clear hs hP hbit hp
        go_wp2
        go_round
        case rel => exact ⟨j + 1, by omega, by go_num, by rw [HS.out]⟩
        case measure => simp [intOf]; omega
    · obtain rfl : j = 8 := by omega
      obtain ⟨P, hP⟩ : ∃ P, rP a.toNat b.toNat 8 = P := ⟨_, rfl⟩
      rw [hP] at hp
      rw [hP]
      have HPP := kept hp
      have HG := kept (show UInt8.ofNat (rR P 7) = gf a b by rw [← hP]; exact rmul_eq a b)
      clear hP hs hp hlt hj
      go_wp2_with fail
      go_loop [5, 7] (fun p i => ∃ k : Nat, 7 ≤ k ∧ k ≤ 14 ∧ i = .int .i64 (k : Int) ∧ p = .int .i64 (rR P (14 - k) : Nat)) (fun _ i => (intOf i).toNat)
      case atStart => exact ⟨14, by omega, by omega, rfl, rfl⟩
      case round =>
        obtain ⟨k, hk1, hk2, rfl, rfl⟩ := hrel
        by_cases hlt : 8 ≤ k
        · have hp : rR P (14 - k) < 32768 := rR_lt P (14 - k) HPP.out (by omega)
          have hs : rR P (14 - (k - 1)) = rR P (14 - k) ^^^ nsel ((rR P (14 - k)).testBit k) (283 <<< (k - 8)) := by
            have e : 14 - (k - 1) = (14 - k) + 1 := by omega
            rw [e, rR, show 14 - (14 - k) = k by omega, show 6 - (14 - k) = k - 8 by omega]
          have hd : (k : Int) - 8 = ((k - 8 : Nat) : Int) := by omega
          have hk8 : (8 : Int) ≤ (k : Int) := by omega
          have hk14 : (k : Int) ≤ 14 := by omega
          have hsh : wrap64 ((283 : Int) * 2 ^ (k - 8)) = ((283 <<< (k - 8) : Nat) : Int) := sh64 283 (k - 8) (by omega) (by omega)
          have hsl := shl_lt 283 (k - 8) (by omega) (by omega)
          have hd8 : k - 8 ≤ 6 := by omega
          obtain ⟨R, hR⟩ : ∃ R, rR P (14 - k) = R := ⟨_, rfl⟩
          rw [hR] at hp hs
          rw [hR]
          by_cases hbit : R.testBit k = true
          · have hb1 := bit64 R k (by omega)
            rw [if_pos hbit] at hb1
            rw [hbit] at hs
            have hxx := x64 R (283 <<< (k - 8)) (by omega) hsl
            have HS := kept (show rR P (14 - (k - 1)) = R ^^^ (283 <<< (k - 8)) from hs)
            generalize 283 <<< (k - 8) = S at hsh hxx HS
            generalize k - 8 = d at hd hsh hd8
            generalize hq : R ^^^ S = Q at hxx HS
            have HD8 := kept hd8
            clear hs hR hbit hq hp hsl hd8
            go_wp2
            go_round
            case rel => exact ⟨k - 1, by omega, by omega, by go_num, by rw [HS.out]⟩
            case measure => simp [intOf]; omega
          · have hb1 := bit64 R k (by omega)
            rw [if_neg hbit] at hb1
            rw [Bool.not_eq_true] at hbit
            rw [hbit] at hs
            have HS := kept (show rR P (14 - (k - 1)) = R by rw [hs]; simp [nsel])
            clear hs hR hbit hp hsl hsh hd hd8
            go_wp2
            go_round
            case rel => exact ⟨k - 1, by omega, by omega, by go_num, by rw [HS.out]⟩
            case measure => simp [intOf]; omega
        · obtain rfl : k = 7 := by omega
          have hp : rR P 7 < 32768 := rR_lt P 7 HPP.out (by omega)
          obtain ⟨R, hR⟩ : ∃ R, rR P (14 - 7) = R := ⟨_, rfl⟩
          have hR7 : rR P 7 = R := hR
          rw [hR7] at hp HG
          rw [hR]
          have hout : (R : Int) % 256 = ((gf a b).toNat : Int) := by
            rw [← HG.out, UInt8.toNat_ofNat']
            omega
          have HOUT := kept hout
          clear hout hR hR7 hlt
          go_wp2
          go_ret
          exact ⟨congrArg (fun z => Ending.returned (.int .u8 z)) HOUT.out, rfl⟩
end Go.Proofs.YtcjbplgjjhenkaaDoor
/-
  The second part of the reference's substitution, by a contract.
-/
namespace Go.Proofs.YtcjbplgjjhenkaaDoor
open Go.RowKit
set_option linter.unusedVariables false
set_option linter.unusedSimpArgs false

def nb (x i : Nat) : Nat := if x.testBit i then 1 else 0
theorem nb_le (x i : Nat) : nb x i ≤ 1 := by unfold nb; split <;> omega
/-- The sum of a bit of 99, one of b, and the first m of the four others. -/
def rX (b i : Nat) : Nat → Nat
  | 0 => nb 99 i + nb b i
  | m + 1 => rX b i m + nb b ((i + (m + 4)) % 8)
def rO (b : Nat) : Nat → Nat
  | 0 => 0
  | i + 1 => rO b i + (rX b i 4 % 2) * 2 ^ i
theorem rX_le (b i m : Nat) : rX b i m ≤ m + 2 := by
  induction m with
  | zero => have := nb_le 99 i; have := nb_le b i; rw [rX]; omega
  | succ m ih => have := nb_le b ((i + (m + 4)) % 8); rw [rX]; omega
theorem rO_lt (b i : Nat) : rO b i < 2 ^ i := by
  induction i with
  | zero => exact Nat.one_pos
  | succ i ih =>
    rw [rO, Nat.pow_succ]
    have : (rX b i 4 % 2) * 2 ^ i ≤ 1 * 2 ^ i := Nat.mul_le_mul_right _ (by omega)
    omega
theorem rO_gaff (b : UInt8) : UInt8.ofNat (rO b.toNat 8) = gaff b := of_all (P := fun b => UInt8.ofNat (rO b.toNat 8) = gaff b) (by decide +kernel) b
theorem bitn (x i : Nat) (hx : x < 2 ^ 62) : bits .and .i64 ((x : Int) / (2 : Int) ^ i) 1 = ((nb x i : Nat) : Int) := by
  rw [bit64 x i hx]
  unfold nb
  split <;> rfl
theorem add_part (O Z : Nat) (hO : O < 256) (hZ : Z ≤ 128) : wrap64 ((O : Int) + (Z : Int)) = ((O + Z : Nat) : Int) := by
  unfold wrap64
  omega
set_option maxHeartbeats 1000000 in
set_option maxRecDepth 100000 in
theorem raff_any (w : World) (b : UInt8) : Calls Tryd.prog 61 #[.int .i64 (b.toNat : Int)] w fun e w' => e = .returned (.int .u8 ((gaff b).toNat : Int)) ∧ w = w' := by
  have hb := byte_lt b
  have hb' : (b.toNat : Int) < 256 := by omega
  have HB := kept hb
  clear hb
  go_enter Tryd.func61, Tryd.ntmps61
  go_wp2_with fail
  go_loop [3, 4] (fun o i => ∃ j : Nat, j ≤ 8 ∧ i = .int .i64 j ∧ o = .int .i64 (rO b.toNat j : Nat)) (fun _ i => 8 - (intOf i).toNat)
  case atStart => exact ⟨0, Nat.zero_le _, rfl, rfl⟩
  case round =>
    obtain ⟨j, hj, rfl, rfl⟩ := hrel
    by_cases hlt : j < 8
    · have hp : rO b.toNat j < 256 := Nat.lt_of_lt_of_le (rO_lt b.toNat j) (show 2 ^ j ≤ 2 ^ 8 from Nat.pow_le_pow_right (by omega) (by omega))
      have HS := kept (show rO b.toNat (j + 1) = rO b.toNat j + (rX b.toNat j 4 % 2) * 2 ^ j from rfl)
      have h99 : bits .and .i64 ((99 : Int) / (2 : Int) ^ j) 1 = ((nb 99 j : Nat) : Int) := bitn 99 j (by omega)
      have hbb := bitn b.toNat j (by have := HB.out; omega)
      have l99 := nb_le 99 j
      have lbb := nb_le b.toNat j
      have HX := kept (show rX b.toNat j 0 = nb 99 j + nb b.toNat j from rfl)
      generalize nb 99 j = c99 at h99 l99 HX
      generalize nb b.toNat j = cb at hbb lbb HX
      generalize rO b.toNat j = O at hp HS
      go_wp2_with fail
      go_loop [5, 6] (fun x k => ∃ m : Nat, m ≤ 4 ∧ k = .int .i64 ((m + 4 : Nat) : Int) ∧ x = .int .i64 (rX b.toNat j m : Nat)) (fun _ k => 8 - (intOf k).toNat)
      case atStart => exact ⟨0, by omega, rfl, by rw [HX.out]; go_num⟩
      case round =>
        obtain ⟨m, hm, rfl, rfl⟩ := hrel
        have hx := rX_le b.toNat j m
        obtain ⟨X, hX⟩ : ∃ X, rX b.toNat j m = X := ⟨_, rfl⟩
        rw [hX] at hx
        rw [hX]
        by_cases hl : m < 4
        · have h1 := bitn b.toNat ((j + (m + 4)) % 8) (by have := HB.out; omega)
          have l1 := nb_le b.toNat ((j + (m + 4)) % 8)
          have hs : rX b.toNat j (m + 1) = X + nb b.toNat ((j + (m + 4)) % 8) := by rw [← hX]; rfl
          have HX1 := kept hs
          have H1 := kept h1
          clear hs h1
          generalize nb b.toNat ((j + (m + 4)) % 8) = C at l1 HX1 H1
          go_wp2
          go_round
          case rel => exact ⟨m + 1, by omega, by go_num, by rw [HX1.out, H1.out]; congr 1; unfold wrap64; omega⟩
          case measure => simp [intOf]; omega
        · obtain rfl : m = 4 := by omega
          have HXX := kept hX
          rw [hX] at HS
          clear HX hX
          have hj2 : 2 ^ j ≤ 2 ^ 7 := Nat.pow_le_pow_right (by omega) (by omega)
          have hm2 : X % 2 * 2 ^ j ≤ 1 * 2 ^ 7 := Nat.mul_le_mul (by omega) hj2
          have hw : wrap64 (((X % 2 : Nat) : Int) * 2 ^ j) = ((X % 2 * 2 ^ j : Nat) : Int) := by
            have e : ((X % 2 : Nat) : Int) * 2 ^ j = ((X % 2 * 2 ^ j : Nat) : Int) := by
              rw [Int.natCast_mul, Int.natCast_pow]
              rfl
            rw [e]
            unfold wrap64
            omega
          have HW := kept (show wrap64 ((O : Int) + wrap64 ((X : Int) % 2 * 2 ^ j)) = ((O + X % 2 * 2 ^ j : Nat) : Int) by
            rw [show (X : Int) % 2 = ((X % 2 : Nat) : Int) by omega, hw]
            exact add_part O _ hp (Nat.le_trans hm2 (by decide)))
          clear hw hm2 hj2
          go_wp2
          go_round
          case rel => exact ⟨j + 1, by omega, by go_num, by rw [HW.out, HS.out]⟩
          case measure => simp [intOf]; omega
    · obtain rfl : j = 8 := by omega
      have hO := rO_lt b.toNat 8
      have HG := kept (rO_gaff b)
      generalize rO b.toNat 8 = O at hO HG
      have HOUT := kept (show (O : Int) = ((gaff b).toNat : Int) by
        rw [← HG.out, UInt8.toNat_ofNat']
        omega)
      clear HG
      go_wp2
      go_ret
      exact ⟨congrArg (fun z => Ending.returned (.int .u8 z)) HOUT.out, rfl⟩
end Go.Proofs.YtcjbplgjjhenkaaDoor
/-
  The table of substitutions: the powers of 3 are all bytes but 0. No function of the program is named here.
-/
namespace Go.Proofs.YtcjbplgjjhenkaaDoor
set_option linter.unusedVariables false

def pws : Nat → UInt8 → List UInt8
  | 0, _ => []
  | n + 1, x => x :: pws n (gf x 3)
def pw3 : List UInt8 := [1, 3, 5, 15, 17, 51, 85, 255, 26, 46, 114, 150, 161, 248, 19, 53, 95, 225, 56, 72, 216, 115, 149, 164, 247, 2, 6, 10, 30, 34, 102, 170, 229, 52, 92, 228, 55, 89, 235, 38, 106, 190, 217, 112, 144, 171, 230, 49, 83, 245, 4, 12, 20, 60, 68, 204, 79, 209, 104, 184, 211, 110, 178, 205, 76, 212, 103, 169, 224, 59, 77, 215, 98, 166, 241, 8, 24, 40, 120, 136, 131, 158, 185, 208, 107, 189, 220, 127, 129, 152, 179, 206, 73, 219, 118, 154, 181, 196, 87, 249, 16, 48, 80, 240, 11, 29, 39, 105, 187, 214, 97, 163, 254, 25, 43, 125, 135, 146, 173, 236, 47, 113, 147, 174, 233, 32, 96, 160, 251, 22, 58, 78, 210, 109, 183, 194, 93, 231, 50, 86, 250, 21, 63, 65, 195, 94, 226, 61, 71, 201, 64, 192, 91, 237, 44, 116, 156, 191, 218, 117, 159, 186, 213, 100, 172, 239, 42, 126, 130, 157, 188, 223, 122, 142, 137, 128, 155, 182, 193, 88, 232, 35, 101, 175, 234, 37, 111, 177, 200, 67, 197, 84, 252, 31, 33, 99, 165, 244, 7, 9, 27, 45, 119, 153, 176, 203, 70, 202, 69, 207, 74, 222, 121, 139, 134, 145, 168, 227, 62, 66, 198, 81, 243, 14, 18, 54, 90, 238, 41, 123, 141, 140, 143, 138, 133, 148, 167, 242, 13, 23, 57, 75, 221, 124, 132, 151, 162, 253, 28, 36, 108, 180, 199, 82, 246]
set_option maxRecDepth 100000 in
theorem pws_eq : pws 255 1 = pw3 := by decide +kernel
set_option maxRecDepth 100000 in
theorem pw3_all : ∀ b : Nat, b < 256 → b ≠ 0 → UInt8.ofNat b ∈ pw3 := by decide +kernel
theorem pws_mem (n : Nat) (m : Nat) (b : UInt8) (h : b ∈ pws n (gpow 3 m)) : ∃ k, k < m + n ∧ gpow 3 k = b := by
  induction n generalizing m with
  | zero => simp [pws] at h
  | succ n ih =>
    rw [pws, List.mem_cons] at h
    rcases h with h | h
    · exact ⟨m, by omega, h.symm⟩
    · obtain ⟨k, h1, h2⟩ := ih (m + 1) h
      exact ⟨k, by omega, h2⟩
theorem pow3_all (b : UInt8) (h : b ≠ 0) : ∃ k, k < 255 ∧ gpow 3 k = b := by
  have h0 : b.toNat ≠ 0 := fun e => h (UInt8.toNat_inj.1 e)
  have hm := pw3_all b.toNat (UInt8.toNat_lt b) h0
  rw [UInt8.ofNat_toNat, ← pws_eq] at hm
  obtain ⟨k, h1, h2⟩ := pws_mem 255 0 b hm
  exact ⟨k, by omega, h2⟩
/-- What the table of powers holds behind n rounds. -/
def pwF (n : Nat) : Nat → UInt8 := fun j => if j < n then gpow 3 j else 0
/-- What the table of substitutions holds behind n rounds. -/
def bxF : Nat → Nat → UInt8
  | 0 => fun j => if j = 0 then gaff 0 else 0
  | n + 1 => fun j => if j = (gpow 3 n).toNat then gaff (gpow 3 (255 - n)) else bxF n j
theorem bxF_succ (n j : Nat) : bxF (n + 1) j = if j = (gpow 3 n).toNat then gaff (gpow 3 (255 - n)) else bxF n j := rfl
theorem inv_pow3 (n : Nat) (h : n ≤ 255) : gpow 3 (255 - n) = ginv (gpow 3 n) := by
  refine ginv_of _ _ ?_
  rw [← gpow_add, show n + (255 - n) = 255 by omega]
  exact gpow_255 3 (by decide)
theorem bxF_old (n j : Nat) (hn : n ≤ 256) (h : ∃ m, m < n ∧ (gpow 3 m).toNat = j) : bxF n j = gsub (UInt8.ofNat j) := by
  induction n with
  | zero => obtain ⟨m, hm, _⟩ := h; omega
  | succ n ih =>
    rw [bxF_succ]
    by_cases e : j = (gpow 3 n).toNat
    · rw [if_pos e, e, UInt8.ofNat_toNat, inv_pow3 n (by omega)]
      rfl
    · rw [if_neg e]
      obtain ⟨m, hm, hj⟩ := h
      refine ih (by omega) ⟨m, ?_, hj⟩
      by_cases e' : m = n
      · subst e'; exact absurd hj.symm e
      · omega
theorem bxF_zero (n : Nat) : bxF n 0 = gaff 0 := by
  induction n with
  | zero => rfl
  | succ n ih =>
    rw [bxF_succ, if_neg, ih]
    intro e
    exact gpow_ne 3 n (by decide) (UInt8.toNat_inj.1 e.symm)
theorem bxF_all (j : Nat) (hj : j < 256) : bxF 256 j = gsub (UInt8.ofNat j) := by
  by_cases h : j = 0
  · subst h
    rw [bxF_zero]
    show gaff 0 = gaff (ginv 0)
    rw [ginv_zero]
  · obtain ⟨k, h1, h2⟩ := pow3_all (UInt8.ofNat j) (by
      intro e
      have := congrArg UInt8.toNat e
      rw [UInt8.toNat_ofNat'] at this
      have h0 : (0 : UInt8).toNat = 0 := rfl
      omega)
    refine bxF_old 256 j (by omega) ⟨k, by omega, ?_⟩
    rw [h2, UInt8.toNat_ofNat']
    omega
end Go.Proofs.YtcjbplgjjhenkaaDoor
/-
  Arrays of bytes whose cells are given by a function. No function of the program is named here.
-/
namespace Go.Proofs.YtcjbplgjjhenkaaDoor
open Go.RowKit
set_option linter.unusedVariables false

theorem zeros_b (n : Nat) : (Array.replicate n (Value.int .u8 0)) = gA n (fun _ => bv 0) := by
  apply Array.ext_getElem?
  intro j
  by_cases h : j < n
  · rw [gA_at _ _ h]; simp [h]; rfl
  · rw [Array.getElem?_eq_none (by simp; omega), Array.getElem?_eq_none (by rw [gA_size]; omega)]
/-- An array of bytes. -/
def bA (n : Nat) (f : Nat → UInt8) : Array Value := gA n fun j => bv (f j)
theorem bA_size (n : Nat) (f : Nat → UInt8) : (bA n f).size = n := gA_size _ _
theorem bA_at (n : Nat) (f : Nat → UInt8) {j : Nat} (h : j < n) : (bA n f)[j]? = some (.int .u8 ((f j).toNat : Int)) := gA_at _ _ h
theorem bA_ext {n : Nat} {f g : Nat → UInt8} (h : ∀ j, j < n → f j = g j) : bA n f = bA n g := gA_ext fun j hj => by rw [h j hj]
theorem bA_one (n : Nat) (f : Nat → UInt8) : (bA n f).all (·.oneCell') = true := by
  rw [Array.all_eq_true_iff_forall_mem]
  intro v hv
  have hv' : v ∈ (List.range n).map (fun j => bv (f j)) := by simpa [bA, gA] using hv
  obtain ⟨i, _, rfl⟩ := List.mem_map.1 hv'
  rfl
theorem bA_zero (n : Nat) : (Array.replicate n (Value.int .u8 0)) = bA n (fun _ => 0) := zeros_b n
theorem Blk.putB {w : World} {g : Nat} {t : TypeId} {n : Nat} {f f' : Nat → UInt8} (h : Blk w g t (bA n f)) (i : Nat) (x : UInt8) (hf : ∀ j, j < n → f' j = if j = i then x else f j) : Blk (w.setCell ⟨g, i, none⟩ (.int .u8 (x.toNat : Int))) g t (bA n f') := by
  refine h.putG i (bv x) fun j hj => ?_
  show bv (f' j) = _
  rw [hf j hj]
  split <;> rfl
end Go.Proofs.YtcjbplgjjhenkaaDoor
/-
  What the laws of package field say in plain mathematics: sums of four products, products in another order, powers. No function of the program is named here.
-/
namespace Go.Proofs.YtcjbplgjjhenkaaDoor
open Go.RowKit
set_option linter.unusedVariables false

/-- The sum of the four products of bytes with the same index. -/
def gdot (a b : Nat → UInt8) : UInt8 := ((gf (a 0) (b 0) ^^^ gf (a 1) (b 1)) ^^^ gf (a 2) (b 2)) ^^^ gf (a 3) (b 3)
theorem gdot_comm (a b : Nat → UInt8) : gdot b a = gdot a b := by
  unfold gdot
  rw [gf_comm (b 0), gf_comm (b 1), gf_comm (b 2), gf_comm (b 3)]
/-- The first products of a sum of four. -/
def gdots (a b : Nat → UInt8) : Nat → UInt8
  | 0 => 0
  | k + 1 => gdots a b k ^^^ gf (a k) (b k)
theorem gdots_four (a b : Nat → UInt8) : gdots a b 4 = gdot a b := by
  show (((0 ^^^ _) ^^^ _) ^^^ _) ^^^ _ = _
  rw [UInt8.zero_xor]
  rfl
theorem gf_last (a b c : UInt8) : gf (gf c a) b = gf (gf a b) c := by
  rw [gf_comm (gf a b) c, gf_assoc]
def arr4 (x0 x1 x2 x3 : UInt8) : Nat → UInt8 := fun j => if j = 0 then x0 else if j = 1 then x1 else if j = 2 then x2 else x3
theorem arr4_eq (x0 x1 x2 x3 : UInt8) : bA 4 (arr4 x0 x1 x2 x3) = #[.int .u8 (x0.toNat : Int), .int .u8 (x1.toNat : Int), .int .u8 (x2.toNat : Int), .int .u8 (x3.toNat : Int)] := rfl
theorem gpowZ_mod (a : UInt8) (h : a ≠ 0) (z : Int) : gpowZ a z = gpow a (z % 255).toNat := by
  have h1 : ∀ k : Nat, gpowZ a (255 * (k : Int)) = 1 := by
    intro k
    unfold gpowZ
    rw [if_neg (by omega)]
    have e : (255 * (k : Int)).toNat = 255 * k := by omega
    rw [e, ← gpow_pow, gpow_255 a h, gpow_one]
  have h2 : ∀ k : Int, gpowZ a (255 * k) = 1 := by
    intro k
    rcases Int.le_total 0 k with hk | hk
    · obtain ⟨n, rfl⟩ := Int.eq_ofNat_of_zero_le hk
      exact h1 n
    · obtain ⟨n, hn⟩ := Int.eq_ofNat_of_zero_le (show 0 ≤ -k by omega)
      have e := gpowZ_add a (255 * k) (255 * (n : Int)) h
      rw [h1 n, show 255 * k + 255 * (n : Int) = 0 by omega, gf_one] at e
      rw [e]
      rfl
  have e := gpowZ_add a (z % 255) (255 * (z / 255)) h
  rw [h2, gf_one, Int.emod_add_mul_ediv] at e
  rw [← e]
  unfold gpowZ
  rw [if_neg (by omega)]
theorem fld_awake : gf 0x57 0x83 = 0xc1 ∧ ginv 0x53 = 0xca ∧ gsub 0x53 = 0xed ∧ gunsub 0xed = 0x53 := by
  have h := gf_awake
  have h2 : ginv 0x53 = 0xca := by rw [ginv_eq]; exact h.2.1
  have h3 : gsub 0x53 = 0xed := by unfold gsub; rw [ginv_eq]; exact h.2.2
  exact ⟨h.1, h2, h3, by rw [← h3, gunsub_gsub]⟩
theorem dot_awake : gdot (arr4 1 2 0 0) (arr4 5 1 9 9) = 7 := by
  unfold gdot arr4
  decide +kernel
/-- The exclusive or, not looked into. -/
def gxr (a b : UInt8) : UInt8 := a ^^^ b
theorem gx8 (a b : UInt8) : bits .xor .u8 (a.toNat : Int) (b.toNat : Int) = ((gxr a b).toNat : Int) := by
  show _ = ((a ^^^ b).toNat : Int)
  show IntKind.u8.wrap ((BitVec.ofInt 8 (a.toNat : Int) ^^^ BitVec.ofInt 8 (b.toNat : Int)).toNat : Int) = _
  have e : ∀ c : UInt8, BitVec.ofInt 8 (c.toNat : Int) = BitVec.ofNat 8 c.toNat := fun c => by
    apply BitVec.eq_of_toNat_eq
    rw [BitVec.toNat_ofInt, BitVec.toNat_ofNat]
    omega
  have ha := byte_lt a
  have hb := byte_lt b
  have hx := byte_lt (a ^^^ b)
  rw [e, e, BitVec.toNat_xor, BitVec.toNat_ofNat, BitVec.toNat_ofNat, Nat.mod_eq_of_lt ha, Nat.mod_eq_of_lt hb, UInt8.toNat_xor]
  rw [UInt8.toNat_xor] at hx
  show ((a.toNat ^^^ b.toNat : Nat) : Int) % 256 = _
  omega
theorem gxr_eq (a b : UInt8) : gxr a b = a ^^^ b := rfl
theorem gf_gxr (a b c : UInt8) : gf a (gxr b c) = gxr (gf a b) (gf a c) := gf_lin_r a b c
theorem gdots_gxr (a b : Nat → UInt8) (k : Nat) : gdots a b (k + 1) = gxr (gdots a b k) (gf (a k) (b k)) := rfl
end Go.Proofs.YtcjbplgjjhenkaaDoor
/-
  Twice a byte and products of two bytes, as the program finds them, by contracts.
-/
namespace Go.Proofs.YtcjbplgjjhenkaaDoor
open Go.RowKit
set_option linter.unusedVariables false
set_option linter.unusedSimpArgs false

theorem dbl_l (a : UInt8) : (a.toNat : Int) * (2 : Int) % (256 : Int) = ((a <<< 1 : UInt8).toNat : Int) := by
  have h := of_all (P := fun a => a.toNat * 2 % 256 = (a <<< 1 : UInt8).toNat) (by decide +kernel) a
  omega
theorem dbl_r (a : UInt8) : (a.toNat : Int) / (128 : Int) * (27 : Int) = ((gsel (gbit a 7) 27 : UInt8).toNat : Int) := by
  have h := of_all (P := fun a => a.toNat / 128 * 27 = (gsel (gbit a 7) 27 : UInt8).toNat) (by decide +kernel) a
  omega
theorem half_u8 (a : UInt8) : (a.toNat : Int) / (2 : Int) = ((a >>> 1 : UInt8).toNat : Int) := by
  have h := of_all (P := fun a => a.toNat / 2 = (a >>> 1 : UInt8).toNat) (by decide +kernel) a
  omega
theorem and_one (a : UInt8) : bits .and .u8 (a.toNat : Int) 1 = if gbit a 0 then 1 else 0 := by
  have h : ∀ n : Nat, n < 256 → bits .and .u8 (n : Int) 1 = if gbit (UInt8.ofNat n) 0 then 1 else 0 := by decide +kernel
  have := h a.toNat (byte_lt a)
  rwa [UInt8.ofNat_toNat] at this
/-- A product by the last bit and the others. -/
theorem gf_step (a b : UInt8) : gf a b = gsel (gbit b 0) a ^^^ gf (xt a) (b >>> 1) := by
  have l2 : Lin fun a => gsel (gbit b 0) a ^^^ gf (xt a) (b >>> 1) := fun x y => by
    show gsel (gbit b 0) (x ^^^ y) ^^^ gf (xt (x ^^^ y)) (b >>> 1) = _
    rw [gsel_lin, xt_lin, gf_lin_l, xor4]
  refine lin_ext (f := fun a => gf a b) (g := fun a => gsel (gbit b 0) a ^^^ gf (xt a) (b >>> 1)) (lin_l b) l2 ?_ a
  refine ⟨?_, ?_, ?_, ?_, ?_, ?_, ?_, ?_⟩ <;> exact of_all (P := fun b => gf _ b = gsel (gbit b 0) _ ^^^ gf (xt _) (b >>> 1)) (by decide +kernel) b
set_option maxHeartbeats 1000000 in
theorem fdbl_any (w : World) (a : UInt8) : Calls Tryd.prog 84 #[.int .u8 (a.toNat : Int)] w fun e w' => e = .returned (.int .u8 ((xt a).toNat : Int)) ∧ w = w' := by
  have ha := byte_lt a
  have HX := kept (show bits .xor .u8 ((a.toNat : Int) * (2 : Int) % (256 : Int)) ((a.toNat : Int) / (128 : Int) * (27 : Int)) = ((xt a).toNat : Int) by rw [dbl_l, dbl_r, gx8]; rfl)
  go_enter Tryd.func84, Tryd.ntmps84
  go_wp2
  go_ret
  exact ⟨congrArg (fun z => Ending.returned (.int .u8 z)) HX.out, rfl⟩
set_option maxHeartbeats 1000000 in
theorem fprod_any (w : World) (a b : UInt8) : Calls Tryd.prog 79 #[.int .u8 (a.toNat : Int), .int .u8 (b.toNat : Int)] w fun e w' => e = .returned (.int .u8 ((gf a b).toNat : Int)) ∧ w = w' := by
  obtain ⟨r, hr⟩ : ∃ r, gf a b = r := ⟨_, rfl⟩
  rw [hr]
  have HR := kept hr
  clear hr
  go_enter Tryd.func79, Tryd.ntmps79
  go_wp2_with fail
  go_loop [0, 1, 5] (fun x y z => ∃ p q s : UInt8, x = .int .u8 (p.toNat : Int) ∧ y = .int .u8 (q.toNat : Int) ∧ z = .int .u8 (s.toNat : Int) ∧ Kept (gxr s (gf p q) = r)) (fun _ y _ => (intOf y).toNat)
  case atStart => exact ⟨a, b, 0, rfl, rfl, rfl, kept (by rw [HR.out]; exact UInt8.zero_xor)⟩
  case round =>
    obtain ⟨p, q, s, rfl, rfl, rfl, HS⟩ := hrel
    have hp := byte_lt p
    have hq := byte_lt q
    have hs := byte_lt s
    by_cases h0 : 0 < q.toNat
    · have h0' : (0 : Int) < (q.toNat : Int) := by omega
      have hh := half_u8 q
      have ha := and_one q
      have HN := kept (gf_step p q)
      have HHN := kept (show (q >>> 1 : UInt8).toNat < q.toNat by have := hh; omega)
      have HHE := kept hh
      by_cases hb : gbit q 0 = true
      · rw [if_pos hb] at ha
        rw [hb] at HN
        have hx := gx8 s p
        have HA := kept (show gxr (gxr s p) (gf (xt p) (q >>> 1)) = r by
          rw [← HS.out, HN.out]
          show (s ^^^ p) ^^^ _ = s ^^^ (p ^^^ _)
          rw [UInt8.xor_assoc])
        clear hh hb HN
        generalize gxr s p = t at hx HA
        go_wp2_with fail
        refine (fdbl_any w p).mono ?_
        rintro e w' ⟨rfl, rfl⟩
        go_wp2
        go_round
        case rel => exact ⟨xt p, q >>> 1, t, rfl, congrArg (Value.int .u8) HHE.out, rfl, HA⟩
        case measure => have := HHN.out; have := HHE.out; simp [intOf]; omega
      · rw [if_neg hb] at ha
        rw [Bool.not_eq_true] at hb
        rw [hb] at HN
        have hx := gx8 s 0
        have HA := kept (show gxr s (gf (xt p) (q >>> 1)) = r by
          rw [← HS.out, HN.out]
          show _ = s ^^^ (0 ^^^ _)
          rw [UInt8.zero_xor]
          rfl)
        rw [show gxr s 0 = s from UInt8.xor_zero] at hx
        have HX0 := kept hx
        clear hh hb HN hx
        go_wp2_with fail
        refine (fdbl_any w p).mono ?_
        rintro e w' ⟨rfl, rfl⟩
        go_wp2
        go_round
        case rel => exact ⟨xt p, q >>> 1, s, rfl, congrArg (Value.int .u8) HHE.out, congrArg (Value.int .u8) HX0.out, HA⟩
        case measure => have := HHN.out; have := HHE.out; simp [intOf]; omega
    · have hz : q.toNat = 0 := by omega
      obtain rfl : q = 0 := UInt8.toNat_inj.1 hz
      have HE := kept (show s = r by rw [← HS.out, gf_zero]; exact UInt8.xor_zero.symm)
      clear h0 hz hq HS
      go_wp2
      go_ret
      exact ⟨congrArg (fun z : UInt8 => Ending.returned (.int .u8 (z.toNat : Int))) HE.out, rfl⟩
end Go.Proofs.YtcjbplgjjhenkaaDoor
/-
  Rotations of a byte, as the library finds them, by a contract; sums of five of them and of three, as plain functions.
-/
namespace Go.Proofs.YtcjbplgjjhenkaaDoor
open Go.RowKit
set_option linter.unusedVariables false
set_option linter.unusedSimpArgs false

/-- A byte rotated to the left by k bits. -/
def rotB (a : UInt8) (k : Nat) : UInt8 := UInt8.ofNat (a.toNat * 2 ^ k % 256 ||| a.toNat / 2 ^ (8 - k))
theorem rotB_num : ∀ k : Nat, k < 8 → ∀ n : Nat, n < 256 → bits .or .u8 ((n : Int) * (2 : Int) ^ k % (256 : Int)) ((n : Int) / (2 : Int) ^ (8 - k)) = ((rotB (UInt8.ofNat n) k).toNat : Int) := by decide +kernel
theorem rotB_bits (a : UInt8) (k : Nat) (hk : k < 8) : bits .or .u8 ((a.toNat : Int) * (2 : Int) ^ k % (256 : Int)) ((a.toNat : Int) / (2 : Int) ^ (8 - k)) = ((rotB a k).toNat : Int) := by
  have h := rotB_num k hk a.toNat (byte_lt a)
  rwa [UInt8.ofNat_toNat] at h
theorem and_seven : ∀ k : Nat, k < 8 → bits .and .u64 (k : Int) 7 = (k : Int) := by decide +kernel
set_option maxHeartbeats 1000000 in
theorem frot8_any (w : World) (a : UInt8) (k : Nat) (hk : k < 8) : Calls Tryd.prog 85 #[.int .u8 (a.toNat : Int), .int .i64 (k : Int)] w fun e w' => e = .returned (.int .u8 ((rotB a k).toNat : Int)) ∧ w = w' := by
  have ha := byte_lt a
  have hk' : (k : Int) % 18446744073709551616 = k := by omega
  have hk2 := and_seven k hk
  have HR := kept (rotB_bits a k hk)
  go_enter Tryd.func85, Tryd.ntmps85
  go_wp2
  go_ret
  exact ⟨congrArg (fun z => Ending.returned (.int .u8 z)) HR.out, rfl⟩
/-- The sum of the first rotations of a list. -/
def rotS (a : UInt8) (L : List Nat) : UInt8 := L.foldl (fun s k => gxr s (rotB a k)) 0
theorem rotS_sub (a : UInt8) : gxr (rotS a [0, 1, 2, 3, 4]) 99 = gaff a := of_all (P := fun a => gxr (rotS a [0, 1, 2, 3, 4]) 99 = gaff a) (by decide +kernel) a
theorem rotS_unsub (a : UInt8) : rotS (gxr a 99) [1, 3, 6] = gunaff a := of_all (P := fun a => rotS (gxr a 99) [1, 3, 6] = gunaff a) (by decide +kernel) a
theorem rotS_take (a : UInt8) (L : List Nat) (n : Nat) (h : n < L.length) : rotS a (L.take (n + 1)) = gxr (rotS a (L.take n)) (rotB a L[n]) := by
  unfold rotS
  rw [List.take_succ_eq_append_getElem h, List.foldl_append]
  rfl
end Go.Proofs.YtcjbplgjjhenkaaDoor
/-
  Powers, as the program finds them, by a contract.
-/
namespace Go.Proofs.YtcjbplgjjhenkaaDoor
open Go.RowKit
set_option linter.unusedVariables false
set_option linter.unusedSimpArgs false

/-- A power by the last bit of its number and the others. -/
theorem gpow_half (a : UInt8) (n : Nat) : gpow a n = gf (if n % 2 = 1 then a else 1) (gpow (gf a a) (n / 2)) := by
  have h1 : gf a a = gpow a 2 := by
    show _ = gf (gf 1 a) a
    rw [gf_one_l]
  rw [h1, gpow_pow]
  by_cases h : n % 2 = 1
  · rw [if_pos h]
    conv => lhs; rw [show n = 1 + 2 * (n / 2) by omega, gpow_add]
    rw [show gpow a 1 = a from gf_one_l a]
  · rw [if_neg h, gf_one_l, show 2 * (n / 2) = n by omega]
theorem and_one64 (n : Nat) (h : n < 256) : bits .and .i64 (n : Int) 1 = ((n % 2 : Nat) : Int) := by
  rw [show (1 : Int) = ((1 : Nat) : Int) from rfl, a64 n 1 (by omega) (by omega), Nat.and_one_is_mod]
set_option maxHeartbeats 1000000 in
theorem fpow_any (w : World) (a : UInt8) (n : Int) (h1 : -1048576 ≤ n) (h2 : n ≤ 1048576) : Calls Tryd.prog 71 #[.int .u8 (a.toNat : Int), .int .i64 n] w fun e w' => e = .returned (.int .u8 ((gpowZ a n).toNat : Int)) ∧ Below w.heap.size w w' := by
  have hb := byte_lt a
  by_cases h0 : n = 0
  · subst h0
    rw [show gpowZ a 0 = 1 from rfl, show ((1 : UInt8).toNat : Int) = 1 from rfl]
    go_enter Tryd.func71, Tryd.ntmps71
    go_wp2
    go_ret
    exact ⟨rfl, Below.refl _ _⟩
  have hz0 : (n == 0) = false := by rw [beq_eq_false_iff_ne]; exact h0
  by_cases ha : a = 0
  · subst ha
    have hp : gpowZ 0 n = 0 := by
      unfold gpowZ
      split
      · rw [ginv_zero, gpow_zero_l _ (by omega)]
      · rw [gpow_zero_l _ (by omega)]
    rw [hp, show ((0 : UInt8).toNat : Int) = 0 from rfl]
    clear hb hp
    go_enter Tryd.func71, Tryd.ntmps71
    go_wp2
    go_ret
    exact ⟨rfl, Below.refl _ _⟩
  have hza : ((a.toNat : Int) == 0) = false := by
    rw [beq_eq_false_iff_ne]
    exact fun e => ha (UInt8.toNat_inj.1 (by show a.toNat = 0; omega))
  have hr := gpowZ_mod a ha n
  have hm : (wrap64 (n.tmod 255 + 255)).tmod 255 = ((n % 255).toNat : Int) := by
    have e1 : -255 < n.tmod 255 ∧ n.tmod 255 < 255 ∧ (n.tmod 255 + 255) % 255 = n % 255 := by
      rw [Int.tmod_eq_emod]
      split
      · omega
      · rw [show ((255 : Int).natAbs : Int) = 255 from rfl]
        omega
    have e2 : wrap64 (n.tmod 255 + 255) = n.tmod 255 + 255 := by unfold wrap64; omega
    rw [e2, Int.tmod_eq_emod_of_nonneg (by omega)]
    omega
  have hk : (n % 255).toNat < 255 := by omega
  rw [hr]
  generalize (n % 255).toNat = k at hm hk
  generalize hq : gpow a k = r
  have HR := kept hq
  clear hr hq ha
  go_enter Tryd.func71, Tryd.ntmps71
  go_wp2_with fail
  go_loop [0, 1, 5] (fun x y z => ∃ (p s : UInt8) (m : Nat), m < 255 ∧ x = .int .u8 (p.toNat : Int) ∧ y = .int .i64 (m : Int) ∧ z = .int .u8 (s.toNat : Int) ∧ Kept (gf s (gpow p m) = r)) (fun _ y _ => (intOf y).toNat)
  case atStart => exact ⟨a, 1, k, hk, rfl, rfl, rfl, kept (by rw [gf_one_l]; exact HR.out)⟩
  case round =>
    obtain ⟨p, s, m, hm2, rfl, rfl, rfl, HS⟩ := hrel
    clear hm hz0 hza HR hk h1 h2
    by_cases hpos : 0 < m
    · have hp0 : (0 : Int) < (m : Int) := by omega
      have hbit := and_one64 m (by omega)
      have HG := kept (gpow_half p m)
      have HHALF := kept (show (m : Int) / (2 : Int) = ((m / 2 : Nat) : Int) by omega)
      by_cases ho : m % 2 = 1
      · rw [ho] at hbit
        have HN := kept (show gf (gf s p) (gpow (gf p p) (m / 2)) = r by rw [← HS.out, HG.out, if_pos ho, gf_assoc])
        clear HG ho
        go_wp2_with fail
        refine (fprod_any w s p).mono ?_
        rintro e w' ⟨rfl, rfl⟩
        go_wp2_with fail
        refine (fprod_any w p p).mono ?_
        rintro e w' ⟨rfl, rfl⟩
        go_wp2
        go_round
        case rel => exact ⟨gf p p, gf s p, m / 2, by omega, rfl, congrArg (Value.int .i64) HHALF.out, rfl, HN⟩
        case measure => simp [intOf]; omega
      · rw [show m % 2 = 0 by omega] at hbit
        have HN := kept (show gf s (gpow (gf p p) (m / 2)) = r by rw [← HS.out, HG.out, if_neg ho, gf_one_l])
        clear HG ho
        go_wp2_with fail
        refine (fprod_any w p p).mono ?_
        rintro e w' ⟨rfl, rfl⟩
        go_wp2
        go_round
        case rel => exact ⟨gf p p, s, m / 2, by omega, rfl, congrArg (Value.int .i64) HHALF.out, rfl, HN⟩
        case measure => simp [intOf]; omega
    · obtain rfl : m = 0 := by omega
      have HE := kept (show s = r by rw [← HS.out]; exact (gf_one s).symm)
      clear HS hm2 hpos
      go_wp2
      go_ret
      exact ⟨congrArg (fun z : UInt8 => Ending.returned (.int .u8 (z.toNat : Int))) HE.out, Below.refl _ _⟩
end Go.Proofs.YtcjbplgjjhenkaaDoor
/-
  Slices of the call's own: a store into them, a read, a whole row stored elsewhere. No function of the program is named here.
-/
namespace Go.Proofs.YtcjbplgjjhenkaaDoor
open Go.RowKit
set_option linter.unusedVariables false

theorem Own.row {w : World} {B : Nat} {v : Value} {l : List UInt8} (h : Own w B v l) {g : Nat} (hg : g < B) (ds : Array Value) : Own (w.setRow g ds) B v l :=
  h.keep fun k hk => setRow_other w g k ds (by have := (World.ownsRow.lt h k hk).1; omega)
/-- A byte stored into a slice of the call's own. -/
theorem own_set {w : World} {B n c q : Nat} {l : List UInt8} (h : Own w B (.slice (some ⟨q, 0, none⟩) n c) l) (i : Nat) (x : UInt8) (hi : i < l.length) : Own (w.setCell ⟨q, i, none⟩ (.int .u8 (x.toNat : Int))) B (.slice (some ⟨q, 0, none⟩) n c) (l.set i x) := by
  obtain ⟨h1, h2⟩ := h
  refine ⟨by simp, ?_⟩
  rcases h2 with ⟨hv, hn⟩ | ⟨g, cap, cur, hv, hg, hh, hnc, hcm, hsz, ht⟩
  · cases hv
  · injection hv with e1 e2 e3
    injection e1 with e1
    injection e1 with e1 _ _
    subst e1 e2 e3
    refine .inr ⟨q, c, cur.setIfInBounds i (bv x), by simp, hg, (Blk.put (w := w) (g := q) hh i (bv x)), by simpa using hnc, hcm, by simpa using hsz, ?_⟩
    rw [Array.toList_setIfInBounds, List.length_set, List.take_set, ht, List.map_set]
/-- What a place of a slice of the call's own holds, and that it may be written. -/
theorem own_at {w : World} {B n c q : Nat} {l : List UInt8} (h : Own w B (.slice (some ⟨q, 0, none⟩) n c) l) (i : Nat) (hi : i < l.length) : w.cell? ⟨q, i, none⟩ = some (.int .u8 ((l[i]'hi).toNat : Int)) ∧ w.frozen? ⟨q, i, none⟩ = false ∧ B ≤ q := by
  obtain ⟨A, q', c', hv, _, _, hm, hf, _⟩ := h.form
  injection hv with e1 e2 e3
  have hne : l ≠ [] := fun e => by subst e; simp at hi
  obtain ⟨hB, hA, hfz⟩ := hf hne
  rw [← e1] at hA
  injection hA with hA
  injection hA with hA _ _
  subst hA
  refine ⟨?_, hfz i, hB⟩
  rw [← e1] at hm
  obtain ⟨o, ho, hc⟩ := hm.at_ hi
  injection ho with ho
  injection ho with _ ho _
  subst ho
  rw [Nat.zero_add] at hc
  exact hc
/-- A whole row read, under a guard. -/
theorem wpList_load_row_w {P : Program} {ops : Array Oper} {rest : List Oper} {o : Oper} {a : Act} {w : World} {Q : Exit → Act → World → Prop} (hw : Region.wanted o (yielded ops a.tmps) = true) (ty : TypeId) (x : Operand) (ho : o.op = .load ty x)
    (g : Nat) (hx : a.eval x = .pointer (some ⟨g, 0, none⟩)) (t : TypeId) (cs : Array Value) (fr : Nat × Nat) (d : TypeDesc) (hg : w.heap[g]? = some (.cells cs t fr))
    (hu : P.underlying ty = some d) (hd : (match d with | .struct _ | .array _ _ => true | _ => false) = true) (hi : (P.info? ty).map (·.size) = some cs.size)
    (h : wpList P ops Q rest (a.put o.dst (.agg cs)) w) : wpList P ops Q (o :: rest) a w :=
  wpList_step fun K hK => by
    rw [if_pos hw]
    exact wp_load_row ty x ho g hx t cs fr d hg hu hd hi (hK _ _ h)
end Go.Proofs.YtcjbplgjjhenkaaDoor
/-
  bytes.Clone, by a contract.
-/
namespace Go.Proofs.YtcjbplgjjhenkaaDoor
open Go.RowKit
set_option linter.unusedVariables false
set_option linter.unusedSimpArgs false

theorem eql_nil_bytes (w : World) (a : Option Addr) (n c n' c' : Nat) : (binOp .eql 24 (.slice a n c) (.slice none n' c')).run Tryd.prog w = .ok (.bool a.isNone) w := Lib.run_eql_slice_nil w _ _ a n c n' c' Tryd.underlying24
theorem clone_any (w : World) (q : Nat) (A : Option Addr) (n c : Nat) (l : List UInt8) (hn : n = l.length) (hm : Mem w q A l) (hl : l.length ≤ 140737488355328) :
    Calls Tryd.prog 33 #[.slice A n c] w fun e w' => ∃ v, e = .returned v ∧ Own w' w.heap.size v l ∧ Below w.heap.size w w' := by
  subst hn
  obtain ⟨i0, hi0, hz0, hs0, hb0⟩ := info_parts u8_info
  have hnil := eql_nil_bytes
  cases A with
  | none =>
    have hn : l = [] := by
      rcases hm with h | ⟨o, h, _⟩
      · exact h
      · cases h
    subst hn
    go_enter Tryd.func33, Tryd.ntmps33
    go_wp2
    go_ret
    exact ⟨_, rfl, Own.nil_ _ _, Below.refl _ _⟩
  | some ad =>
    have ho : Own (w.alloc (.cells #[] 5)) w.heap.size (.slice (some ⟨w.heap.size, 0, none⟩) 0 0) [] := World.ownsRow_made w #[] 0 (Nat.le_refl _) (by unfold maxLen; omega) (by simp)
    have hm' := hm.alloc (.cells #[] 5)
    go_enter Tryd.func33, Tryd.ntmps33
    go_wp2_with (first | (at_builtin; refine wpList_append_bytes rfl _ _ 24 rfl w.heap.size i0 Tryd.underlying24 hi0 hz0 hs0 hb0 (.slice (some ⟨w.heap.size, 0, none⟩) 0 0) [] rfl ho q (some ad) l.length c l rfl rfl hm' (by simpa using hl) (by simp) ?_; intro v1 w1 hown1 hg1))
    go_ret
    exact ⟨_, rfl, hown1, ((Below.refl _ _).alloc (Nat.le_refl _) _).grown hg1 (by simp) (by simp [Value.ownBlock])⟩
end Go.Proofs.YtcjbplgjjhenkaaDoor
/-
  slices.Grow and slices.Concat over bytes, and package wire's Join, by contracts.
-/
namespace Go.Proofs.YtcjbplgjjhenkaaDoor
open Go.RowKit
set_option linter.unusedVariables false
set_option linter.unusedSimpArgs false

theorem grow_nil (w : World) (n : Nat) (hn : n ≤ 140737488355328) : Calls Tryd.prog 41 #[.slice none 0 0, .int .i64 n] w fun e w' => ∃ v, e = .returned v ∧ Own w' w.heap.size v [] ∧ Below w.heap.size w w' := by
  have h5 : Tryd.t5.bytes = 1 := by kernel_rfl
  by_cases h0 : n = 0
  · subst h0
    go_enter Tryd.func41, Tryd.ntmps41
    go_wp2_with fail
    go_ret
    exact ⟨_, rfl, Own.nil_ _ _, Below.refl _ _⟩
  · have hp : 0 < n := by omega
    have hnc := nextslicecap_zero hp
    go_enter Tryd.func41, Tryd.ntmps41
    go_wp2_with fail
    go_ret
    have h1 := grownCap_ge w n 0 5
    have h2 := grownCap_le_maxLen w n 0 5 (by unfold maxLen; omega)
    refine ⟨_, rfl, ?_, ((Below.refl _ _).alloc (Nat.le_refl _) _).drew⟩
    show Own _ _ (.slice _ 0 (grownCap w n 0 5)) _
    refine ⟨by simp, .inr ⟨w.heap.size, grownCap w n 0 5, _, rfl, Nat.le_refl _, heap_alloc_new w _, Nat.zero_le _, h2, ?_, by simp⟩⟩
    rw [Array.size_append, size_zeroCells, size_zeroCells]
    show n * 1 + (grownCap w n 0 5 - n) * 1 = _
    omega

theorem concat_any (w : World) (q : Nat) (A : Option Addr) (n c : Nat) (L : List (List UInt8)) (hn : n = L.length) (hm : MemM w q A L) (hL : L.length ≤ 9223372036854775807) (hs : (L.map List.length).sum ≤ 140737488355328) :
    Calls Tryd.prog 29 #[.slice A n c] w fun e w' => ∃ v, e = .returned v ∧ Own w' w.heap.size v L.flatten ∧ Below w.heap.size w w' := by
  subst hn
  go_enter Tryd.func29, Tryd.ntmps29
  go_wp2_with fail
  go_loop [3, 11] (fun t i => ∃ j : Nat, j ≤ L.length ∧ i = .int .i64 j ∧ t = .int .i64 ((L.take j).map List.length).sum) (fun _ i => L.length - (intOf i).toNat)
  case atStart => exact ⟨0, Nat.zero_le _, rfl, by simp⟩
  case round =>
    obtain ⟨j, hj, rfl, rfl⟩ := hrel
    by_cases hlt : j < L.length
    · obtain ⟨o, A', q', c', rfl, hc, _, _⟩ := hm.at_ hlt
      have hle := sum_take_le L (j + 1)
      have hsu := sum_take_succ L j hlt
      generalize hS : ((L.take j).map List.length).sum = S at *
      generalize hS1 : ((L.take (j + 1)).map List.length).sum = S1 at *
      generalize hl : (L[j]'hlt) = lj at *
      have hb : S + lj.length ≤ 140737488355328 := by omega
      have HSU := Lib.hid hsu
      have HS := Lib.hid hS
      have HS1 := Lib.hid hS1
      have HL := Lib.hid hl
      clear hsu hS hS1 hl
      go_wp2
      go_round
      case rel => exact ⟨j + 1, by omega, by go_num, by rw [HS1.out, HSU.out]; go_num⟩
      case measure => simp [intOf]; omega
    · have e : L.take j = L := List.take_of_length_le (by omega)
      have hs' : ((L.take j).map List.length).sum ≤ 140737488355328 := by rw [e]; exact hs
      generalize ((L.take j).map List.length).sum = S at *
      have HE := Lib.hid e
      clear e
      go_wp2_with (first | (go_at_call 41; refine (grow_nil _ S hs').mono ?_; rintro e w1 ⟨v0, rfl, hown0, hb0⟩))
      obtain ⟨i0, hi0, hz0, hs0, hbb0⟩ := info_parts u8_info
      go_loopw [6, 27] (fun v i wr => ∃ j : Nat, j ≤ L.length ∧ i = .int .i64 j ∧ Own wr w.heap.size v (L.take j).flatten ∧ Below w.heap.size w wr) (fun _ i _ => L.length - (intOf i).toNat)
      case atStart => exact ⟨0, Nat.zero_le _, rfl, by simpa using hown0, hb0⟩
      case round =>
        obtain ⟨j, hj, rfl, hown, hbw⟩ := hrel
        by_cases hlt : j < L.length
        · obtain ⟨o, A', q', c', rfl, hc, hmj, _⟩ := (hm.below0 hbw).at_ hlt
          have hfl := flatten_take_succ L j hlt
          have hln := congrArg List.length hfl
          rw [List.length_append, flatten_len, flatten_len] at hln
          have hle := sum_take_le L (j + 1)
          have hb : (L.take j).flatten.length + (L[j]'hlt).length ≤ 140737488355328 := by rw [flatten_len]; omega
          generalize (L.take j).flatten = F at *
          generalize hl : (L[j]'hlt) = lj at *
          have HFL := Lib.hid hfl
          have HL := Lib.hid hl
          clear hfl hln hl hm
          go_wp2_with (first | (at_builtin; refine wpList_append_bytes rfl _ _ 24 rfl w.heap.size i0 Tryd.underlying24 hi0 hz0 hs0 hbb0 _ F rfl hown q' A' lj.length c' lj rfl rfl hmj hb hbw.size ?_; intro v1 w2 hown1 hg1))
          have hbw2 : Below w.heap.size w w2 := hbw.grown hg1 hbw.size (fun k hk => (World.ownsRow.lt hown k hk).1)
          go_wp2
          go_roundw
          case rel => exact ⟨j + 1, by omega, by go_num, by rw [HFL.out]; exact hown1, hbw2⟩
          case measure => simp [intOf]; omega
        · have e : L.take j = L := List.take_of_length_le (by omega)
          rw [e] at hown
          go_wp2
          go_ret
          exact ⟨_, rfl, hown, hbw⟩

theorem join_any (w : World) (q : Nat) (A : Option Addr) (n c : Nat) (L : List (List UInt8)) (hn : n = L.length) (hm : MemM w q A L) (hL : L.length ≤ 9223372036854775807) (hs : (L.map List.length).sum ≤ 140737488355328) :
    Calls Tryd.prog 19 #[.slice A n c] w fun e w' => ∃ v, e = .returned v ∧ Own w' w.heap.size v L.flatten ∧ Below w.heap.size w w' := by
  subst hn
  go_enter Tryd.func19, Tryd.ntmps19
  go_wp2_with (first | (go_at_call 29; refine (concat_any _ q A _ c L rfl hm hL hs).mono ?_; rintro e w1 ⟨v, rfl, hown, hb⟩))
  go_ret
  exact ⟨v, rfl, hown, hb⟩

end Go.Proofs.YtcjbplgjjhenkaaDoor
namespace Go.Proofs.YtcjbplgjjhenkaaDoor
open Go.RowKit
set_option linter.unusedVariables false

theorem same_yes (w : World) (q1 q2 : Nat) (A1 A2 : Option Addr) (n1 n2 c1 c2 : Nat) (l : List UInt8) (hn1 : n1 = l.length) (hn2 : n2 = l.length) (hl : l.length ≤ 140737488355328) (h1 : Mem w q1 A1 l) (h2 : Mem w q2 A2 l) :
    Calls Tryd.prog 10 #[.slice A1 n1 c1, .slice A2 n2 c2] w fun e w' => e = .returned (.bool true) ∧ ∃ n, w' = w.drewN n := by
  subst hn1
  subst hn2
  go_enter Tryd.func10, Tryd.ntmps10
  go_wp2_with fail
  go_loopw [5] (fun i wr => ∃ j n : Nat, j ≤ l.length ∧ i = .int .i64 j ∧ wr = w.drewN n) (fun i _ => l.length - (intOf i).toNat)
  case atStart => exact ⟨0, 0, Nat.zero_le _, rfl, rfl⟩
  case round =>
    obtain ⟨j, nd, hj, rfl, rfl⟩ := hrel
    by_cases hlt : j < l.length
    · obtain ⟨o1, rfl, hc1⟩ := h1.at_ hlt
      obtain ⟨o2, rfl, hc2⟩ := h2.at_ hlt
      have hi0 : (0 : Int) ≤ (j : Int) := by omega
      have hi1 : (j : Int) < (l.length : Int) := by omega
      go_wp2
      go_quiet (fail)
      go_wp2
      go_roundw
      case rel => exact ⟨j + 1, _, by omega, by go_num, rfl⟩
      case measure => simp [intOf]; omega
    · go_wp2
      go_ret
      exact ⟨rfl, _, rfl⟩
theorem same_b (w : World) (q1 q2 : Nat) (A1 A2 : Option Addr) (n1 n2 c1 c2 : Nat) (l : List UInt8) (hn1 : n1 = l.length) (hn2 : n2 = l.length) (hl : l.length ≤ 140737488355328) (h1 : Mem w q1 A1 l) (h2 : Mem w q2 A2 l) :
    Calls Tryd.prog 10 #[.slice A1 n1 c1, .slice A2 n2 c2] w fun e w' => e = .returned (.bool true) ∧ Below w.heap.size w w' :=
  (same_yes w q1 q2 A1 A2 n1 n2 c1 c2 l hn1 hn2 hl h1 h2).mono fun e w' ⟨he, n, hw⟩ => ⟨he, by rw [hw]; exact below_drewN (Below.refl _ _) n⟩
end Go.Proofs.YtcjbplgjjhenkaaDoor
