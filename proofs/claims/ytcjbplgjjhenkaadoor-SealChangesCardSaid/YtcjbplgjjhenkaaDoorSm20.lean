/-
  The substitution and what leads back from it, as the program finds them, by contracts.
-/
import Derived.Test.YtcjbplgjjhenkaaDoorSm18
import Derived.Deep.Cut
import Derived.Test.YtcjbplgjjhenkaaDoorSm4
/-
  Inverses of bytes, as the program finds them (Euclid's algorithm), by a contract.
-/
namespace Go.Proofs.YtcjbplgjjhenkaaDoor
open Go.RowKit
set_option maxRecDepth 100000
set_option linter.unusedVariables false
set_option linter.unusedSimpArgs false

/-- The rounds that are left end, with r. -/
def eOk : Nat → Nat → Nat → Nat → Nat → Nat → Bool
  | 0, _, _, _, _, _ => false
  | f + 1, u, v, x, y, r => (decide (u < 512) && decide (v < 512) && decide (x < 512) && decide (y < 512)) &&
    (if u = 1 then x == r
     else if Lib.bitLen u < Lib.bitLen v then eOk f (v ^^^ u <<< (Lib.bitLen v - Lib.bitLen u)) u (y ^^^ x <<< (Lib.bitLen v - Lib.bitLen u)) x r
     else eOk f (u ^^^ v <<< (Lib.bitLen u - Lib.bitLen v)) v (x ^^^ y <<< (Lib.bitLen u - Lib.bitLen v)) y r)
set_option maxRecDepth 100000 in
theorem eOk_all : ∀ n : Nat, n < 256 → n ≠ 0 → eOk 20 n 283 1 0 (inv8 (UInt8.ofNat n)).toNat = true := by decide +kernel
theorem eOk_start (a : UInt8) (h : a ≠ 0) : eOk 20 a.toNat 283 1 0 (ginv a).toNat = true := by
  have := eOk_all a.toNat (byte_lt a) (fun e => h (UInt8.toNat_inj.1 e))
  rwa [UInt8.ofNat_toNat, ← ginv_eq] at this
theorem bitLen_le9 (n : Nat) (h : n < 512) : Lib.bitLen n ≤ 9 := Lib.bitLenAux_le 64 n 9 h
theorem sh_u64 (x n : Nat) (hx : x < 512) (hn : n ≤ 9) : (x : Int) * (2 : Int) ^ n % (18446744073709551616 : Int) = ((x <<< n : Nat) : Int) := by
  have h1 : 2 ^ n ≤ 2 ^ 9 := Nat.pow_le_pow_right (by omega) hn
  have h2 : x * 2 ^ n ≤ 511 * 2 ^ 9 := Nat.mul_le_mul (by omega) h1
  have e : (x : Int) * (2 : Int) ^ n = ((x * 2 ^ n : Nat) : Int) := by
    rw [Int.natCast_mul, Int.natCast_pow]
    rfl
  rw [e, Nat.shiftLeft_eq]
  omega
theorem shl_lt9 (x j : Nat) (hx : x < 512) (hj : j ≤ 9) : x <<< j < 2 ^ 62 := by
  rw [Nat.shiftLeft_eq]
  have : 2 ^ j ≤ 2 ^ 9 := Nat.pow_le_pow_right (by omega) hj
  have h2 : x * 2 ^ j ≤ 511 * 2 ^ 9 := Nat.mul_le_mul (by omega) this
  omega
theorem x_u64 (x y : Nat) (hx : x < 2 ^ 62) (hy : y < 2 ^ 62) : bits .xor .u64 (x : Int) (y : Int) = ((x ^^^ y : Nat) : Int) := by
  show IntKind.u64.wrap ((BitVec.ofInt 64 (x : Int) ^^^ BitVec.ofInt 64 (y : Int)).toNat : Int) = _
  have hxy := Nat.xor_lt_two_pow hx hy
  rw [ofInt_64, ofInt_64, BitVec.toNat_xor, BitVec.toNat_ofNat, BitVec.toNat_ofNat, Nat.mod_eq_of_lt (by omega), Nat.mod_eq_of_lt (by omega)]
  show ((x ^^^ y : Nat) : Int) % 18446744073709551616 = _
  omega
theorem xsh (u v d : Nat) (hu : u < 512) (hv : v < 512) (hd : d ≤ 9) : bits .xor .u64 (u : Int) (IntKind.u64.wrap ((v : Int) * (2 : Int) ^ d)) = ((u ^^^ v <<< d : Nat) : Int) := by
  rw [show IntKind.u64.wrap ((v : Int) * (2 : Int) ^ d) = ((v <<< d : Nat) : Int) from sh_u64 v d hv hd]
  exact x_u64 _ _ (by omega) (shl_lt9 v d hv hd)
set_option maxHeartbeats 1000000 in
theorem finv_any (w : World) (a : UInt8) : Calls Tryd.prog 81 #[.int .u8 (a.toNat : Int)] w fun e w' => e = .returned (.int .u8 ((ginv a).toNat : Int)) ∧ w = w' := by
  by_cases h : a = 0
  · subst h
    rw [ginv_zero]
    have hz : ((0 : UInt8).toNat : Int) = 0 := rfl
    rw [hz]
    clear hz
    go_enter Tryd.func81, Tryd.ntmps81
    go_wp2
    go_ret
    exact ⟨rfl, rfl⟩
  · have ha : (a.toNat : Int) ≠ 0 := fun e => h (UInt8.toNat_inj.1 (by show a.toNat = 0; omega))
    have hz : ((a.toNat : Int) == 0) = false := by rw [beq_eq_false_iff_ne]; exact ha
    have hb := byte_lt a
    have HS := kept (eOk_start a h)
    clear h
    have hr := byte_lt (ginv a)
    generalize (ginv a).toNat = r at HS hr
    go_enter Tryd.func81, Tryd.ntmps81
    go_wp2_with fail
    go_loopg [3, 4, 5, 6] 20 (fun k u v x y wr => ∃ u' v' x' y' : Nat, u = .int .u64 (u' : Int) ∧ v = .int .u64 (v' : Int) ∧ x = .int .u64 (x' : Int) ∧ y = .int .u64 (y' : Int) ∧ wr = w ∧ Kept (eOk k u' v' x' y' r = true))
    case atStart => exact ⟨a.toNat, 283, 1, 0, rfl, rfl, rfl, rfl, rfl, HS⟩
    case round =>
      obtain ⟨u, v, x, y, rfl, rfl, rfl, rfl, rfl, HS2⟩ := hrel
      clear HS
      cases gk with
      | zero => exact absurd HS2.out Bool.false_ne_true
      | succ f =>
        have hs := HS2.out
        rw [eOk, Bool.and_eq_true, Bool.and_eq_true, Bool.and_eq_true, Bool.and_eq_true, decide_eq_true_eq, decide_eq_true_eq, decide_eq_true_eq, decide_eq_true_eq] at hs
        obtain ⟨⟨⟨⟨hu, hv⟩, hx⟩, hy⟩, hs⟩ := hs
        clear HS2
        by_cases h1 : u = 1
        · subst h1
          rw [if_pos rfl, beq_iff_eq] at hs
          subst hs
          clear hu
          go_wp2
          go_ret
          exact ⟨rfl, rfl⟩
        · rw [if_neg h1] at hs
          have h1' : (u : Int) ≠ 1 := by omega
          have hl1 := bitLen_le9 u hu
          have hl2 := bitLen_le9 v hv
          have HL1 := kept (fun w => flen_any w u hu)
          have HL2 := kept (fun w => flen_any w v hv)
          have HSS := kept hs
          clear hs
          generalize Lib.bitLen u = m at hl1 HL1 HSS
          generalize Lib.bitLen v = n at hl2 HL2 HSS
          by_cases hmn : m < n
          · have hd : (m : Int) - (n : Int) < 0 := by omega
            obtain ⟨d, rfl⟩ : ∃ d, n = m + d := ⟨n - m, by omega⟩
            have hd9 : d ≤ 9 := by omega
            rw [if_pos hmn, show m + d - m = d by omega] at HSS
            have hq : (-((m : Int) - ((m : Int) + (d : Int)))).toNat = d := by omega
            have X1 := kept (show bits .xor .u64 (v : Int) (IntKind.u64.wrap ((u : Int) * (2 : Int) ^ (-((m : Int) - ((m : Int) + (d : Int)))).toNat)) = ((v ^^^ u <<< d : Nat) : Int) by rw [hq]; exact xsh v u d hv hu hd9)
            have X2 := kept (show bits .xor .u64 (y : Int) (IntKind.u64.wrap ((x : Int) * (2 : Int) ^ (-((m : Int) - ((m : Int) + (d : Int)))).toNat)) = ((y ^^^ x <<< d : Nat) : Int) by rw [hq]; exact xsh y x d hy hx hd9)
            clear hq
            go_wp2_with (first | (refine (HL1.out _).mono ?_; rintro e w' ⟨rfl, rfl⟩) | (refine (HL2.out _).mono ?_; rintro e w' ⟨rfl, rfl⟩))
            go_roundg f
            case measure => omega
            case rel => exact ⟨v ^^^ u <<< d, u, y ^^^ x <<< d, x, congrArg (Value.int .u64) X1.out, rfl, congrArg (Value.int .u64) X2.out, rfl, rfl, HSS⟩
          · have hd : ¬ (m : Int) - (n : Int) < 0 := by omega
            rw [if_neg hmn] at HSS
            have X1 := kept (xsh u v (m - n) hu hv (by omega))
            have X2 := kept (xsh x y (m - n) hx hy (by omega))
            go_wp2_with (first | (refine (HL1.out _).mono ?_; rintro e w' ⟨rfl, rfl⟩) | (refine (HL2.out _).mono ?_; rintro e w' ⟨rfl, rfl⟩))
            go_roundg f
            case measure => omega
            case rel => exact ⟨u ^^^ v <<< (m - n), v, x ^^^ y <<< (m - n), y, congrArg (Value.int .u64) X1.out, rfl, congrArg (Value.int .u64) X2.out, rfl, rfl, HSS⟩
end Go.Proofs.YtcjbplgjjhenkaaDoor
namespace Go.Proofs.YtcjbplgjjhenkaaDoor
open Go.RowKit
set_option linter.unusedVariables false
set_option linter.unusedSimpArgs false

set_option maxHeartbeats 1000000 in
theorem frots_any (w : World) (a : UInt8) (q n c : Nat) (L : List Nat) (hL : ∀ k ∈ L, k < 8) (hn : n = L.length) (hl : L.length ≤ 100) (hm : ∀ j, (h : j < L.length) → w.cell? ⟨q, j, none⟩ = some (.int .i64 ((L[j] : Nat) : Int))) :
    Calls Tryd.prog 80 #[.int .u8 (a.toNat : Int), .slice (some ⟨q, 0, none⟩) n c] w fun e w' => e = .returned (.int .u8 ((rotS a L).toNat : Int)) ∧ w = w' := by
  have HL := kept hL
  have HN := kept hn
  have HM := kept hm
  have hn1 : n ≤ 100 := by omega
  clear hL hn hm hl
  go_enter Tryd.func80, Tryd.ntmps80
  go_wp2_with fail
  go_loop [5, 10] (fun s i => ∃ j : Nat, j ≤ n ∧ i = .int .i64 j ∧ ∃ s' : UInt8, s = .int .u8 (s'.toNat : Int) ∧ Kept (s' = rotS a (L.take j))) (fun _ i => n - (intOf i).toNat)
  case atStart => exact ⟨0, Nat.zero_le _, rfl, 0, rfl, kept rfl⟩
  case round =>
    obtain ⟨j, hj, rfl, s, rfl, HS⟩ := hrel
    by_cases hlt : j < n
    · have hj' : j < L.length := by have := HN.out; omega
      have hc := HM.out j hj'
      have hk := HL.out L[j] (List.getElem_mem hj')
      have HS2 := kept (show gxr s (rotB a L[j]) = rotS a (L.take (j + 1)) by rw [HS.out]; exact (rotS_take a L j hj').symm)
      generalize L[j] = k at hc hk HS2
      have hs := byte_lt s
      have HX := kept (gx8 s (rotB a k))
      clear hj' HS
      go_wp2_with (refine (frot8_any w a k hk).mono ?_; rintro e w' ⟨rfl, rfl⟩)
      go_round
      case rel => exact ⟨j + 1, by omega, by go_num, gxr s (rotB a k), congrArg (Value.int .u8) HX.out, HS2⟩
      case measure => simp [intOf]; omega
    · obtain rfl : j = n := by omega
      have HE := kept (show s = rotS a L by rw [HS.out, HN.out, List.take_length])
      clear HS hlt hj
      go_wp2
      go_ret
      exact ⟨congrArg (fun z : UInt8 => Ending.returned (.int .u8 (z.toNat : Int))) HE.out, rfl⟩
theorem cells5 (w : World) (t : TypeId) (cs : Array Value) (h : cs = #[.int .i64 0, .int .i64 1, .int .i64 2, .int .i64 3, .int .i64 4]) : ∀ j, (h : j < [0, 1, 2, 3, 4].length) → (w.alloc (.cells cs t)).cell? ⟨w.heap.size, j, none⟩ = some (.int .i64 (([0, 1, 2, 3, 4][j] : Nat) : Int)) := by
  subst h
  intro j hj
  rw [(Blk.new w t _).cell]
  match j, hj with
  | 0, _ => rfl
  | 1, _ => rfl
  | 2, _ => rfl
  | 3, _ => rfl
  | 4, _ => rfl
theorem cells3 (w : World) (t : TypeId) (cs : Array Value) (h : cs = #[.int .i64 1, .int .i64 3, .int .i64 6]) : ∀ j, (h : j < [1, 3, 6].length) → (w.alloc (.cells cs t)).cell? ⟨w.heap.size, j, none⟩ = some (.int .i64 (([1, 3, 6][j] : Nat) : Int)) := by
  subst h
  intro j hj
  rw [(Blk.new w t _).cell]
  match j, hj with
  | 0, _ => rfl
  | 1, _ => rfl
  | 2, _ => rfl
set_option maxHeartbeats 1000000 in
theorem fsub_any (w : World) (a : UInt8) : Calls Tryd.prog 72 #[.int .u8 (a.toNat : Int)] w fun e w' => e = .returned (.int .u8 ((gsub a).toNat : Int)) ∧ Below w.heap.size w w' := by
  have HX := kept (show bits .xor .u8 ((rotS (ginv a) [0, 1, 2, 3, 4]).toNat : Int) 99 = ((gsub a).toNat : Int) by
    have := gx8 (rotS (ginv a) [0, 1, 2, 3, 4]) 99
    rw [rotS_sub] at this
    exact this)
  have HI := kept (fun w => finv_any w a)
  generalize ginv a = b at HX HI
  have HR := kept (fun w q n c hn hm => frots_any w b q n c [0, 1, 2, 3, 4] (by decide) hn (by decide) hm)
  generalize rotS b [0, 1, 2, 3, 4] = r at HX HR
  have hr := byte_lt r
  go_enter Tryd.func72, Tryd.ntmps72
  go_wp2_with fail
  refine (HI.out w).mono ?_
  rintro e w' ⟨rfl, rfl⟩
  go_wp2_with fail
  refine (HR.out _ _ _ _ rfl (cells5 w _ _ rfl)).mono ?_
  rintro e w' ⟨rfl, rfl⟩
  go_wp2
  go_ret
  exact ⟨congrArg (fun z => Ending.returned (.int .u8 z)) HX.out, (Below.refl _ _).alloc (Nat.le_refl _) _⟩
end Go.Proofs.YtcjbplgjjhenkaaDoor
