/-
  Words of 32 bits: what the chapter of package sha says, as plain functions; how the walk spells sums, shifts and bits of such words.
-/
import Derived.Test.YtgplkdnffbappaaDoorBytes
import Derived.IntWalk
import Derived.Lib.Hide
namespace Go.Proofs.YtgplkdnffbappaaDoor
open Go.RowKit
set_option linter.unusedVariables false

abbrev Wd := BitVec 32
def wi (x : Wd) : Int := (x.toNat : Int)
def wv (x : Wd) : Value := .int .u32 (wi x)
theorem wi_lo (x : Wd) : 0 ≤ wi x := by unfold wi; omega
theorem wi_hi (x : Wd) : wi x < 4294967296 := by unfold wi; have := x.isLt; omega
theorem wd_lt (x : Wd) : x.toNat < 4294967296 := x.isLt
theorem ofInt_wd (x : Wd) : BitVec.ofInt 32 (x.toNat : Int) = x := by simp
theorem wrap_wd (x : Wd) : IntKind.u32.wrap (x.toNat : Int) = (x.toNat : Int) := by
  rw [IntKind.wrap_u32]
  have := wd_lt x
  omega
theorem b_or (x y : Wd) : bits .or .u32 (wi x) (wi y) = wi (x ||| y) := by
  show IntKind.u32.wrap ((BitVec.ofInt 32 (x.toNat : Int) ||| BitVec.ofInt 32 (y.toNat : Int)).toNat : Int) = _
  rw [ofInt_wd, ofInt_wd, wrap_wd]
  rfl
theorem b_xor (x y : Wd) : bits .xor .u32 (wi x) (wi y) = wi (x ^^^ y) := by
  show IntKind.u32.wrap ((BitVec.ofInt 32 (x.toNat : Int) ^^^ BitVec.ofInt 32 (y.toNat : Int)).toNat : Int) = _
  rw [ofInt_wd, ofInt_wd, wrap_wd]
  rfl
theorem b_and (x y : Wd) : bits .and .u32 (wi x) (wi y) = wi (x &&& y) := by
  show IntKind.u32.wrap ((BitVec.ofInt 32 (x.toNat : Int) &&& BitVec.ofInt 32 (y.toNat : Int)).toNat : Int) = _
  rw [ofInt_wd, ofInt_wd, wrap_wd]
  rfl
theorem b_shr (x : Wd) (n : Nat) : wi x / (2 ^ n : Nat) = wi (x >>> n) := by
  unfold wi
  rw [BitVec.toNat_ushiftRight, Nat.shiftRight_eq_div_pow]
  rfl
theorem b_shl (x : Wd) (n : Nat) : wi x * (2 ^ n : Nat) % 4294967296 = wi (x <<< n) := by
  unfold wi
  rw [BitVec.toNat_shiftLeft, Nat.shiftLeft_eq]
  rfl
theorem b_add (x y : Wd) : (wi x + wi y) % 4294967296 = wi (x + y) := by
  unfold wi
  rw [BitVec.toNat_add]
  rfl
theorem b_not (x : Wd) : bits .xor .u32 IntKind.u32.max (wi x) = wi (~~~x) := by
  have e : IntKind.u32.max = wi (BitVec.allOnes 32) := by decide
  rw [e, b_xor, BitVec.allOnes_xor]
theorem b_shr3 (x : Wd) : wi x / (8 : Int) = wi (x >>> 3) := by rw [← b_shr x 3]; rfl
theorem b_shr10 (x : Wd) : wi x / (1024 : Int) = wi (x >>> 10) := by rw [← b_shr x 10]; rfl
theorem b_add4 (a b c d : Wd) : (wi a + wi b + wi c + wi d) % 4294967296 = wi (a + b + c + d) := by
  rw [← b_add, ← b_add, ← b_add]
  omega
theorem b_add5 (a b c d e : Wd) : (wi a + wi b + wi c + wi d + wi e) % 4294967296 = wi (a + b + c + d + e) := by
  rw [← b_add, ← b_add, ← b_add, ← b_add]
  omega
theorem b_or8 (x : Wd) (b : UInt8) : bits .or .u32 (wi x * 256 % 4294967296) (b.toNat : Int) = wi (x * 256 + BitVec.ofNat 32 b.toNat) := by
  have hb := byte_lt b
  have hx := wd_lt x
  have e1 : wi x * (256 : Int) % (4294967296 : Int) = wi (x <<< 8) := by
    rw [← b_shl x 8]
    rfl
  have e2 : (b.toNat : Int) = wi (BitVec.ofNat 32 b.toNat) := by
    unfold wi
    rw [BitVec.toNat_ofNat, Nat.mod_eq_of_lt (by omega)]
  rw [e2]
  rw [e1, b_or]
  congr 1
  apply BitVec.eq_of_toNat_eq
  rw [BitVec.toNat_or, BitVec.toNat_add, BitVec.toNat_mul, BitVec.toNat_shiftLeft, BitVec.toNat_ofNat, Nat.mod_eq_of_lt (show b.toNat < 2 ^ 32 by omega)]
  have e3 : x.toNat <<< 8 % 2 ^ 32 = (x.toNat % 2 ^ 24) <<< 8 := by
    rw [Nat.shiftLeft_eq, Nat.shiftLeft_eq]
    omega
  rw [e3, ← Nat.shiftLeft_add_eq_or_of_lt (show b.toNat < 2 ^ 8 by omega), Nat.shiftLeft_eq]
  show _ = (x.toNat * (256#32).toNat % 2 ^ 32 + b.toNat) % 2 ^ 32
  rw [show (256#32).toNat = 256 from rfl]
  omega
def rotr (n : Nat) (x : Wd) : Wd := (x >>> n) ||| (x <<< (32 - n))
theorem b_rotr (n : Nat) (x : Wd) : bits .or .u32 (wi x / (2 ^ n : Nat)) (wi x * (2 ^ (32 - n) : Nat) % 4294967296) = wi (rotr n x) := by
  rw [b_shr, b_shl, b_or]
  rfl
def sg0 (x : Wd) : Wd := rotr 7 x ^^^ rotr 18 x ^^^ (x >>> 3)
def sg1 (x : Wd) : Wd := rotr 17 x ^^^ rotr 19 x ^^^ (x >>> 10)
def Sg1 (e : Wd) : Wd := rotr 6 e ^^^ rotr 11 e ^^^ rotr 25 e
def Sg0 (a : Wd) : Wd := rotr 2 a ^^^ rotr 13 a ^^^ rotr 22 a
def chW (e f g : Wd) : Wd := (e &&& f) ^^^ (~~~e &&& g)
def majW (a b c : Wd) : Wd := (a &&& b) ^^^ (a &&& c) ^^^ (b &&& c)
structure St where
  (a b c d e f g h : Wd)
def stA (s : St) : Array Value := #[wv s.a, wv s.b, wv s.c, wv s.d, wv s.e, wv s.f, wv s.g, wv s.h]
def stepT (k w : Wd) (s : St) : Wd := s.h + Sg1 s.e + chW s.e s.f s.g + k + w
def stepU (s : St) : Wd := Sg0 s.a + majW s.a s.b s.c
def step (k w : Wd) (s : St) : St := ⟨stepT k w s + stepU s, s.a, s.b, s.c, s.d + stepT k w s, s.e, s.f, s.g⟩
def addS (s t : St) : St := ⟨s.a + t.a, s.b + t.b, s.c + t.c, s.d + t.d, s.e + t.e, s.f + t.f, s.g + t.g, s.h + t.h⟩
/-- The words of a block: 16 of them, then each one out of those before it. -/
def nextW (l : List Wd) : Wd := l.getD (l.length - 16) 0 + sg0 (l.getD (l.length - 15) 0) + l.getD (l.length - 7) 0 + sg1 (l.getD (l.length - 2) 0)
def sched (l : List Wd) : Nat → List Wd
  | 0 => l
  | n + 1 => sched l n ++ [nextW (sched l n)]
theorem sched_length (l : List Wd) (n : Nat) : (sched l n).length = l.length + n := by
  induction n with
  | zero => rfl
  | succ n ih => rw [sched, List.length_append, ih]; rfl
/-- The word of four bytes, one byte after the other. -/
def pw (l : List UInt8) (i : Nat) : Nat → Wd
  | 0 => 0
  | k + 1 => pw l i k * 256 + BitVec.ofNat 32 (l.getD (4 * i + k) 0).toNat
def wd (l : List UInt8) (i : Nat) : Wd := pw l i 4
def words (b : List UInt8) : List Wd := (List.range 16).map (wd b)
def SW (b : List UInt8) (j : Nat) : Wd := (sched (words b) 48).getD j 0
theorem getD_left (a b : List Wd) (j : Nat) (h : j < a.length) : (a ++ b).getD j 0 = a.getD j 0 := by
  simp [List.getD, List.getElem?_append_left h]
theorem getD_right (a b : List Wd) (j : Nat) (h : a.length ≤ j) : (a ++ b).getD j 0 = b.getD (j - a.length) 0 := by
  simp [List.getD, List.getElem?_append_right h]
theorem sched_get (l : List Wd) (n m j : Nat) (h : j < l.length + n) (hm : n ≤ m) : (sched l m).getD j 0 = (sched l n).getD j 0 := by
  induction m with
  | zero => obtain rfl : n = 0 := by omega
            rfl
  | succ m ih =>
    by_cases e : n = m + 1
    · subst e; rfl
    · rw [sched, getD_left _ _ _ (by rw [sched_length]; omega)]
      exact ih (by omega)
theorem words_length (b : List UInt8) : (words b).length = 16 := by simp [words]
theorem SW_low (b : List UInt8) (j : Nat) (h : j < 16) : SW b j = wd b j := by
  unfold SW
  rw [sched_get (words b) 0 48 j (by rw [words_length]; omega) (by omega)]
  show (words b).getD j 0 = _
  simp [words, List.getD, h]
theorem SW_high (b : List UInt8) (k : Nat) (h : k < 48) : SW b (k + 16) = SW b k + sg0 (SW b (k + 1)) + SW b (k + 9) + sg1 (SW b (k + 14)) := by
  have hl := words_length b
  have e : (sched (words b) 48).getD (k + 16) 0 = nextW (sched (words b) k) := by
    rw [sched_get (words b) (k + 1) 48 (k + 16) (by omega) (by omega), sched, getD_right _ _ _ (by rw [sched_length]; omega)]
    rw [sched_length, hl, show k + 16 - (16 + k) = 0 by omega]
    rfl
  have g : ∀ j, j < 16 + k → (sched (words b) k).getD j 0 = SW b j := fun j hj => (sched_get (words b) k 48 j (by omega) (by omega)).symm
  unfold SW at *
  rw [e]
  unfold nextW
  rw [sched_length, hl, show 16 + k - 16 = k by omega, show 16 + k - 15 = k + 1 by omega, show 16 + k - 7 = k + 9 by omega, show 16 + k - 2 = k + 14 by omega]
  rw [g k (by omega), g (k + 1) (by omega), g (k + 9) (by omega), g (k + 14) (by omega)]
def kList : List Wd := [0x428a2f98, 0x71374491, 0xb5c0fbcf, 0xe9b5dba5, 0x3956c25b, 0x59f111f1, 0x923f82a4, 0xab1c5ed5, 0xd807aa98, 0x12835b01, 0x243185be, 0x550c7dc3, 0x72be5d74, 0x80deb1fe, 0x9bdc06a7, 0xc19bf174,
  0xe49b69c1, 0xefbe4786, 0x0fc19dc6, 0x240ca1cc, 0x2de92c6f, 0x4a7484aa, 0x5cb0a9dc, 0x76f988da, 0x983e5152, 0xa831c66d, 0xb00327c8, 0xbf597fc7, 0xc6e00bf3, 0xd5a79147, 0x06ca6351, 0x14292967,
  0x27b70a85, 0x2e1b2138, 0x4d2c6dfc, 0x53380d13, 0x650a7354, 0x766a0abb, 0x81c2c92e, 0x92722c85, 0xa2bfe8a1, 0xa81a664b, 0xc24b8b70, 0xc76c51a3, 0xd192e819, 0xd6990624, 0xf40e3585, 0x106aa070,
  0x19a4c116, 0x1e376c08, 0x2748774c, 0x34b0bcb5, 0x391c0cb3, 0x4ed8aa4a, 0x5b9cca4f, 0x682e6ff3, 0x748f82ee, 0x78a5636f, 0x84c87814, 0x8cc70208, 0x90befffa, 0xa4506ceb, 0xbef9a3f7, 0xc67178f2]
/-- The state after i rounds. -/
def rounds (ks ws : List Wd) (s : St) : Nat → St
  | 0 => s
  | n + 1 => step (ks.getD n 0) (ws.getD n 0) (rounds ks ws s n)
def blockS (ks : List Wd) (s : St) (b : List UInt8) : St := addS (rounds ks (sched (words b) 48) s 64) s
def startS : St := ⟨0x6a09e667, 0xbb67ae85, 0x3c6ef372, 0xa54ff53a, 0x510e527f, 0x9b05688c, 0x1f83d9ab, 0x5be0cd19⟩
def abcB : List UInt8 := [97, 98, 99, 128] ++ List.replicate 59 0 ++ [24]
theorem abc_test : (blockS kList startS abcB).a = 0xba7816bf := by decide +kernel
end Go.Proofs.YtgplkdnffbappaaDoor
