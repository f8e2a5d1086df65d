/-
  Package ctr: the iterator over the blocks of a stream, by a contract.
-/
import Derived.Test.YtcjbplgjjhenkaaDoorSm30
import Derived.Test.YtcjbplgjjhenkaaDoorSm27
/-
  Package ctr: a cipher in memory; New, by a contract.
-/
namespace Go.Proofs.YtcjbplgjjhenkaaDoor
open Go.RowKit
set_option linter.unusedVariables false
set_option linter.unusedSimpArgs false

/-- The cells of a cipher. -/
def ciA (key nonce : Nat → UInt8) (u : Int) : Array Value := ((bA 16 key).toList ++ (bA 8 nonce).toList ++ [Value.int .i64 u]).toArray
/-- A cipher at block g. -/
def CAt (key nonce : Nat → UInt8) (used g : Nat) (w : World) : Prop := Blk w g 61 (ciA key nonce (used : Int))
theorem CAt.lt {key nonce : Nat → UInt8} {used g : Nat} {w : World} (h : CAt key nonce used g w) : g < w.heap.size := Blk.lt h
theorem CAt.keep {key nonce : Nat → UInt8} {used g : Nat} {w w' : World} (h : CAt key nonce used g w) (hk : w'.heap[g]? = w.heap[g]?) : CAt key nonce used g w' := Blk.keep h hk
theorem CAt.used {key nonce : Nat → UInt8} {used g : Nat} {w : World} (h : CAt key nonce used g w) : w.cell? ⟨g, 24, none⟩ = some (.int .i64 (used : Int)) := by
  rw [Blk.cell h]
  rfl
theorem CAt.key {key nonce : Nat → UInt8} {used g : Nat} {w : World} (h : CAt key nonce used g w) : w.rangeAt g 0 (bA 16 key).toList := fun j v hv => by
  have := Blk.range h j v (show ((bA 16 key).toList ++ (bA 8 nonce).toList ++ [Value.int .i64 (used : Int)])[j]? = some v by
    rw [List.append_assoc, List.getElem?_append_left (List.getElem?_eq_some_iff.1 hv).1]
    exact hv)
  exact this
theorem CAt.nonce {key nonce : Nat → UInt8} {used g : Nat} {w : World} (h : CAt key nonce used g w) : w.rangeAt g 16 (bA 8 nonce).toList := fun j v hv => by
  have hj := (List.getElem?_eq_some_iff.1 hv).1
  have hl : (bA 16 key).toList.length = 16 := by rw [Array.length_toList, bA_size]
  have := Blk.range h (16 + j) v (show ((bA 16 key).toList ++ (bA 8 nonce).toList ++ [Value.int .i64 (used : Int)])[16 + j]? = some v by
    rw [List.append_assoc, List.getElem?_append_right (by rw [hl]; omega), hl, show 16 + j - 16 = j by omega, List.getElem?_append_left hj]
    exact hv)
  rwa [Nat.zero_add] at this
theorem ciA_put (key nonce : Nat → UInt8) (u v : Int) : (ciA key nonce u).setIfInBounds 24 (.int .i64 v) = ciA key nonce v := by kernel_rfl
theorem CAt.put {key nonce : Nat → UInt8} {used g : Nat} {w : World} (h : CAt key nonce used g w) (v : Nat) : CAt key nonce v g (w.setCell ⟨g, 24, none⟩ (.int .i64 (v : Int))) := by
  have := Blk.put h 24 (.int .i64 (v : Int))
  rwa [ciA_put] at this
theorem ci_built (key nonce : Nat → UInt8) : Tryd.prog.built 61 [(0, .agg (bA 16 key)), (1, .agg (bA 8 nonce))] = some (ciA key nonce 0) := by kernel_rfl
set_option maxHeartbeats 1000000 in
theorem cnew_any (w : World) (key nonce : Nat → UInt8) : Calls Tryd.prog 26 #[.agg (bA 16 key), .agg (bA 8 nonce)] w fun e w' => ∃ g, e = .returned (.pointer (some ⟨g, 0, none⟩)) ∧ w.heap.size ≤ g ∧ CAt key nonce 0 g w' ∧ Below w.heap.size w w' := by
  go_enter Tryd.func26, Tryd.ntmps26
  go_upto_region 1 with (fail)
  go_name_world W0 hW0
  have HK := kept (show Blk W0 w.heap.size 22 (bA 16 key) by rw [← hW0]; exact (Blk.new w _ _).alloc _)
  have HN := kept (show Blk W0 (w.heap.size + 1) 23 (bA 8 nonce) by
    rw [← hW0]
    have n1 := Blk.new (w.alloc (.cells (bA 16 key) 22)) 23 (bA 8 nonce)
    simpa only [World.size_alloc] using n1)
  have HW := kept (show Below w.heap.size w W0 by rw [← hW0]; exact ((Below.refl _ w).alloc (Nat.le_refl _) _).alloc (by simp) _)
  clear hW0
  go_wp2_with (first | (refine wpList_load_row rfl 22 (.tmp 2) rfl w.heap.size rfl 22 (bA 16 key) (0, 0) _ HK.out Tryd.underlying22 rfl (by rw [b16_size, bA_size]) ?_) | (refine wpList_load_row rfl 23 (.tmp 3) rfl (w.heap.size + 1) rfl 23 (bA 8 nonce) (0, 0) _ HN.out Tryd.underlying23 rfl (by rw [b8_size, bA_size]) ?_) | (refine wpList_builtA rfl 61 _ rfl [(0, .agg (bA 16 key)), (1, .agg (bA 8 nonce))] (ciA key nonce 0) rfl (ci_built key nonce) ?_))
  go_ret
  exact ⟨_, rfl, HW.out.size, Blk.new W0 _ _, HW.out.alloc HW.out.size _⟩
end Go.Proofs.YtcjbplgjjhenkaaDoor
namespace Go.Proofs.YtcjbplgjjhenkaaDoor
open Go.RowKit
set_option linter.unusedVariables false
set_option linter.unusedSimpArgs false
attribute [local go_sem] Oper.semAt_some

/-- What the iterator has captured: copies of the key and the nonce, and the first number. -/
structure Cap (b : Nat) (key nonce : Nat → UInt8) (first : Nat) (W : World) : Prop where
  bk : Blk W b 22 (bA 16 key)
  bn : Blk W (b + 1) 23 (bA 8 nonce)
  bi : Blk W (b + 2) 65 #[.int .u64 (first : Int)]
theorem Cap.span {b : Nat} {key nonce : Nat → UInt8} {first : Nat} {W W' : World} (h : Cap b key nonce first W) (k : Span b (b + 3) W W') : Cap b key nonce first W' :=
  ⟨h.bk.keep (k.same _ (by omega) (by omega)), h.bn.keep (k.same _ (by omega) (by omega)), h.bi.keep (k.same _ (by omega) (by omega))⟩
theorem cblocks_any (w : World) (key nonce : Nat → UInt8) (i : Nat) : Calls Tryd.prog 34 #[.agg (bA 16 key), .agg (bA 8 nonce), .int .u64 (i : Int)] w fun e w' => e = .returned (.func (.func 48) #[] #[.pointer (some ⟨w.heap.size + 2, 0, none⟩), .pointer (some ⟨w.heap.size, 0, none⟩), .pointer (some ⟨w.heap.size + 1, 0, none⟩)]) ∧ Cap w.heap.size key nonce i w' ∧ w'.heap.size = w.heap.size + 3 ∧ Below w.heap.size w w' := by
  go_enter Tryd.func34, Tryd.ntmps34
  go_wp2
  go_ret
  have n0 := Blk.new w 22 (bA 16 key)
  have n1 := Blk.new (w.alloc (.cells (bA 16 key) 22)) 23 (bA 8 nonce)
  have n2 := Blk.new ((w.alloc (.cells (bA 16 key) 22)).alloc (.cells (bA 8 nonce) 23)) 65 #[.int .u64 (i : Int)]
  simp only [World.size_alloc] at n1 n2
  exact ⟨rfl, ⟨(n0.alloc _).alloc _, n1.alloc _, n2⟩, by simp, (((Below.refl _ _).alloc (Nat.le_refl _) _).alloc (by simp) _).alloc (by simp; omega) _⟩
set_option maxHeartbeats 2000000 in
set_option maxRecDepth 100000 in
theorem cblocks_iter (w : World) (b : Nat) (key nonce : Nat → UInt8) (first M : Nat) (hM : first + M ≤ 18446744073709551615) (hC : Cap b key nonce first w) :
    Endless Tryd.prog 48 #[.pointer (some ⟨b + 2, 0, none⟩), .pointer (some ⟨b, 0, none⟩), .pointer (some ⟨b + 1, 0, none⟩)] (fun k => .agg (bA 16 (cEnc key nonce (first + k)))) M b (b + 3) w := by
  intro l J X W hW hJb hXb hJM hY h0
  have HC0 := kept (hC.span hW)
  have HJb := kept hJb
  have HXb := kept hXb
  have HJM := kept hJM
  have HY := kept hY
  have HJ0 := kept h0
  have ci : W.cell? ⟨b + 2, 0, none⟩ = some (.int .u64 (first : Int)) := by rw [HC0.out.bi.cell]; rfl
  clear hC hW hJb hXb hJM hY h0
  refine callsIn_of_wp Tryd.func48 rfl trivial ?_ rfl
  simp only [Tryd.ntmps48, List.size_toArray, List.length_cons, List.length_nil, Nat.reduceAdd, Nat.reduceSub, Array.replicate_succ, Array.replicate_zero, List.push_toArray, List.append_toArray, List.nil_append, List.cons_append]
  gi_wp2
  gi_loopw [5] (fun i wr => ∃ k : Nat, i = .int .u64 ((first + k : Nat) : Int) ∧ Kept (J k wr) ∧ Kept (Cap b key nonce first wr)) (fun i _ => first + M - (intOf i).toNat)
  case atStart => exact ⟨0, rfl, HJ0, HC0⟩
  case round =>
    obtain ⟨k, rfl, HJ, HC⟩ := hrel
    rename World => W1
    have hk := HJM.out k W1 HJ.out
    clear HC0 HJ0 ci
    obtain ⟨i, hi⟩ : ∃ i, first + k = i := ⟨_, rfl⟩
    rw [hi]
    gi_wp2_with (first | (refine wpListIn_plain rfl (fun _ hK => opAt (ro := none) (fun c e => (by cases e)) (wp_load_row 22 (.tmp 2) rfl b rfl 22 (bA 16 key) (0, 0) _ HC.out.bk Tryd.underlying22 rfl (by rw [b16_size, bA_size]) (hK _ _ ?_)))) | (refine wpListIn_plain rfl (fun _ hK => opAt (ro := none) (fun c e => (by cases e)) (wp_load_row 23 (.tmp 3) rfl (b + 1) rfl 23 (bA 8 nonce) (0, 0) _ HC.out.bn Tryd.underlying23 rfl (by rw [b8_size, bA_size]) (hK _ _ ?_)))))
    refine ⟨trivial, rfl, ?_⟩
    refine (callsAt (ro := none) (cblock_any W1 key nonce i (by omega))).mono ?_
    rintro e W2 ⟨rfl, k2⟩
    have HJ2 := HJb.out k W1 W2 HJ.out k2
    have HC2 := kept (HC.out.span (Span.below (b := b) (d := b + 3) HC.out.bi.lt k2))
    obtain ⟨fn, tmps, assign, body, hy, hRd⟩ := HY.out k W2 HJ2
    rw [hi] at hy
    clear HJ HC k2
    gi_wp2
    refine ⟨rfl, ?_⟩
    refine hRd.mono ?_
    rintro e W3 (⟨rfl, hJ3, hs3⟩ | ⟨rfl, hX3⟩)
    · have HC3 := kept (HC2.out.span hs3)
      have HJ3 := kept hJ3
      clear hJ3 hs3 hy hRd
      have hw : IntKind.u64.wrap ((i : Int) + 1) = ((i + 1 : Nat) : Int) := by
        rw [IntKind.wrap_u64]
        omega
      gi_wp2
      go_roundw
      case rel => exact ⟨k + 1, by rw [← hi]; rfl, HJ3, HC3⟩
      case measure => simp [intOf]; omega
    · gi_wp2
      go_end0
      exact ⟨⟨_, rfl⟩, hX3⟩
end Go.Proofs.YtcjbplgjjhenkaaDoor
