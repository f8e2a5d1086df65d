/-
  Descriptions of errors: a slice of strings in memory, Few and build by contracts.
-/
import Derived.Test.YtfecccobihdopaaDoorErrsE
namespace Go.Proofs.YtfecccobihdopaaDoor
open Go.RowKit Go.Extern.Stop Go.Stop Go.Extern
set_option linter.unusedVariables false

/-- At address A (of block q) lie the strings l. -/
def MemS (w : World) (q : Nat) (A : Option Addr) (l : List ByteArray) : Prop :=
  l = [] ∨ ∃ o, A = some ⟨q, o, none⟩ ∧ ∀ j b, l[j]? = some b → w.cell? ⟨q, o + j, none⟩ = some (.string b)
section
variable {w w' : World} {q : Nat} {A : Option Addr} {l : List ByteArray}
theorem MemS.at_ {k : Nat} (h : MemS w q A l) (hk : k < l.length) : ∃ o, A = some ⟨q, o, none⟩ ∧ w.cell? ⟨q, o + k, none⟩ = some (.string (l[k]'hk)) := by
  rcases h with rfl | ⟨o, ho, hc⟩
  · simp at hk
  · exact ⟨o, ho, hc k _ (List.getElem?_eq_getElem hk)⟩
theorem MemS.lt (h : MemS w q A l) (hne : l ≠ []) : q < w.heap.size := by
  have hp : 0 < l.length := List.length_pos_iff.2 hne
  obtain ⟨o, _, hc⟩ := h.at_ hp
  exact World.block_lt_of_cell? w ⟨q, o + 0, none⟩ hc
theorem MemS.keep (h : MemS w q A l) (hk : q < w.heap.size → w'.heap[q]? = w.heap[q]?) : MemS w' q A l := by
  by_cases hne : l = []
  · exact .inl hne
  · have hb := hk (h.lt hne)
    rcases h with h | ⟨o, ho, hc⟩
    · exact .inl h
    · exact .inr ⟨o, ho, fun j b hj => (World.cell?_of_block (a := ⟨q, o + j, none⟩) hb).trans (hc j b hj)⟩
theorem MemS.below0 (h : MemS w q A l) (hb : Below w.heap.size w w') : MemS w' q A l := h.keep fun hq => hb.block q hq
theorem MemS.alloc (h : MemS w q A l) (o : Obj) : MemS (w.alloc o) q A l := h.keep fun hq => Below.heap_alloc w o q hq
end

theorem ret_b {a b : Bool} (h : a = b) : Ending.returned (.bool a) = .returned (.bool b) := by rw [h]
/-- Few's answer. -/
def fewB (l : List ByteArray) : Bool := decide ((∀ s ∈ l, s.size ≤ 50) ∧ l.length ≤ 20)
abbrev descV (nil : Bool) (A : Option Addr) (n c : Nat) (code place : Int) (f : Bool) : Value := .agg #[.bool nil, .slice A n c, .int .i64 code, .int .i64 place, .bool f]
abbrev descC (nil : Bool) (A : Option Addr) (n c : Nat) (code place : Int) (f : Bool) : Obj := .cells #[.bool nil, .slice A n c, .int .i64 code, .int .i64 place, .bool f] 24
set_option maxHeartbeats 1000000 in
theorem few_any (w : World) (nil f : Bool) (q : Nat) (A : Option Addr) (c : Nat) (code place : Int) (l : List ByteArray) (hc : l.length ≤ c) (hcm : c ≤ maxLen) (hm : MemS w q A l) :
    Calls Tryd.prog 5 #[descV nil A l.length c code place f] w fun e w' => e = .returned (.bool (fewB l)) ∧ Below w.heap.size w w' := by
  unfold maxLen at hcm
  have hm' := hm.alloc (descC nil A l.length c code place f)
  have hb := (Below.refl w.heap.size w).alloc (Nat.le_refl _) (descC nil A l.length c code place f)
  have HM := Lib.hid hm'
  have HB := Lib.hid hb
  clear hm hm' hb
  obtain ⟨b, hbe⟩ : ∃ b, fewB l = b := ⟨_, rfl⟩
  rw [hbe]
  have HF := Lib.hid hbe
  clear hbe
  go_enter Tryd.func5, Tryd.ntmps5
  go_wp2
  go_loop [3] (fun i => ∃ k : Nat, k ≤ l.length ∧ i = .int .i64 k ∧ ∀ s ∈ l.take k, s.size ≤ 50) (fun i => l.length - (intOf i).toNat)
  case atStart => exact ⟨0, Nat.zero_le _, rfl, by simp⟩
  case round =>
    obtain ⟨k, hk, rfl, hs⟩ := hrel
    have HS := Lib.hid hs
    clear hs
    by_cases hlt : k < l.length
    · obtain ⟨o, rfl, hcell⟩ := HM.out.at_ hlt
      obtain ⟨s, hse⟩ : ∃ s, l[k]'hlt = s := ⟨_, rfl⟩
      rw [hse] at hcell
      have HE := Lib.hid hse
      clear hse
      by_cases h50 : s.size ≤ 50
      · go_wp2
        go_round
        case rel => exact ⟨k + 1, by omega, by go_num, fun x hx => by
          rw [List.take_succ_eq_append_getElem hlt, List.mem_append, HE.out] at hx
          rcases hx with hx | hx
          · exact HS.out x hx
          · simp only [List.mem_singleton] at hx; subst hx; exact h50⟩
        case measure => simp [intOf]; omega
      · have hno : b = false := by
          rw [← HF.out]
          refine decide_eq_false fun hh => h50 ?_
          rw [← HE.out]
          exact hh.1 _ (List.getElem_mem hlt)
        subst hno
        have h51 : (50 : Int) < (s.size : Int) := by omega
        go_wp2
        go_ret
        exact ⟨rfl, HB.out⟩
    · have hall : ∀ s ∈ l, s.size ≤ 50 := by
        have := HS.out
        rw [List.take_of_length_le (by omega)] at this
        exact this
      have HA := Lib.hid hall
      clear hall
      by_cases h20 : l.length ≤ 20
      · have hyes : b = true := by rw [← HF.out]; exact decide_eq_true ⟨HA.out, h20⟩
        subst hyes
        go_wp2
        go_ret
        exact ⟨ret_b (by simp; omega), HB.out⟩
      · have hno : b = false := by rw [← HF.out]; exact decide_eq_false fun hh => h20 hh.2
        subst hno
        have h20' : decide ((l.length : Int) ≤ 20) = false := by simp; omega
        go_wp2
        go_ret
        exact ⟨rfl, HB.out⟩

/-- The error of a description. -/
def base (code place : Int) (f : Bool) : Err := if f then .fault code place else .code code
def wrap (l : List ByteArray) (e : Err) : Err := l.foldl (fun e s => .part s e) e
theorem wrap_take (l : List ByteArray) (e : Err) (k : Nat) (h : k < l.length) : wrap (l.take (k + 1)) e = .part (l[k]'h) (wrap (l.take k) e) := by
  unfold wrap
  rw [List.take_succ_eq_append_getElem h, List.foldl_append]
  rfl
theorem wrap_code (l : List ByteArray) (e : Err) : (wrap l e).codeOf = e.codeOf := by
  unfold wrap
  induction l generalizing e with
  | nil => rfl
  | cons s r ih => exact (ih _).trans rfl
theorem base_code (code place : Int) (f : Bool) : (base code place f).codeOf = code := by cases f <;> rfl
set_option maxHeartbeats 2000000 in
theorem build_any (w : World) (f : Bool) (q : Nat) (A : Option Addr) (c : Nat) (code place : Int) (l : List ByteArray) (hc : l.length ≤ c) (hcm : c ≤ maxLen) (hm : MemS w q A l) :
    Calls Tryd.prog 6 #[descV false A l.length c code place f] w fun e w' => (∃ v, e = .returned v ∧ ErrAt w' v (wrap l (base code place f))) ∧ Below w.heap.size w w' := by
  unfold maxLen at hcm
  have hb := (Below.refl w.heap.size w).alloc (Nat.le_refl _) (descC false A l.length c code place f)
  have hk := Blk.new w 24 #[.bool false, .slice A l.length c, .int .i64 code, .int .i64 place, .bool f]
  have HM := Lib.hid hm
  have HB := Lib.hid hb
  have HK := Lib.hid hk
  clear hm hb hk
  cases f
  · go_enter Tryd.func6, Tryd.ntmps6
    go_wp2
    go_loopw [3, 4] (fun v i wr => ∃ k : Nat, k ≤ l.length ∧ i = .int .i64 k ∧ Hid (ErrAt wr v (wrap (l.take k) (base code place false))) ∧ Hid (Below w.heap.size w wr) ∧ Hid (Blk wr w.heap.size 24 #[.bool false, .slice A l.length c, .int .i64 code, .int .i64 place, .bool false])) (fun _ i _ => l.length - (intOf i).toNat)
    case atStart => exact ⟨0, Nat.zero_le _, rfl, Lib.hid rfl, HB, HK⟩
    case round =>
      obtain ⟨k, hk, rfl, hv, hb, hbk⟩ := hrel
      rename World => wr
      have c1 := hbk.out.cell 1
      simp only [List.getElem?_toArray, List.getElem?_cons_zero, List.getElem?_cons_succ] at c1
      by_cases hlt : k < l.length
      · obtain ⟨o, rfl, hcell⟩ := (HM.out.below0 hb.out).at_ hlt
        have hin := in_any (l[k]'hlt) _ _ wr hv.out
        have HI := Lib.hid hin
        have HW := Lib.hid (wrap_take l (base code place false) k hlt)
        clear hin
        obtain ⟨t3, x3, hvi⟩ := hv.out.iface
        subst hvi
        go_wp2_with fail
        refine HI.out.mono ?_
        rintro e9 w9 ⟨⟨v9, rfl, hv9⟩, hb9⟩
        have HV9 := Lib.hid hv9
        have HB9 := Lib.hid (hb.out.trans (hb9.mono hb.out.size))
        have HK9 := Lib.hid (hbk.out.below hb9 hbk.out.lt)
        clear hv9 hb9
        go_wp2_with fail
        go_roundw
        case rel => exact ⟨k + 1, by omega, by go_num, Lib.hid (by rw [HW.out]; exact HV9.out), HB9, HK9⟩
        case measure => simp [intOf]; omega
      · have hall := Lib.hid (show l.take k = l from List.take_of_length_le (by omega))
        go_wp2
        go_ret
        exact ⟨⟨_, rfl, by have := hv.out; rw [hall.out] at this; exact this⟩, hb.out⟩
  · go_enter Tryd.func6, Tryd.ntmps6
    go_wp2
    go_loopw [3, 4] (fun v i wr => ∃ k : Nat, k ≤ l.length ∧ i = .int .i64 k ∧ Hid (ErrAt wr v (wrap (l.take k) (base code place true))) ∧ Hid (Below w.heap.size w wr) ∧ Hid (Blk wr w.heap.size 24 #[.bool false, .slice A l.length c, .int .i64 code, .int .i64 place, .bool true])) (fun _ i _ => l.length - (intOf i).toNat)
    case atStart => exact ⟨0, Nat.zero_le _, rfl, Lib.hid rfl, HB, HK⟩
    case round =>
      obtain ⟨k, hk, rfl, hv, hb, hbk⟩ := hrel
      rename World => wr
      have c1 := hbk.out.cell 1
      simp only [List.getElem?_toArray, List.getElem?_cons_zero, List.getElem?_cons_succ] at c1
      by_cases hlt : k < l.length
      · obtain ⟨o, rfl, hcell⟩ := (HM.out.below0 hb.out).at_ hlt
        have hin := in_any (l[k]'hlt) _ _ wr hv.out
        have HI := Lib.hid hin
        have HW := Lib.hid (wrap_take l (base code place true) k hlt)
        clear hin
        obtain ⟨t3, x3, hvi⟩ := hv.out.iface
        subst hvi
        go_wp2_with fail
        refine HI.out.mono ?_
        rintro e9 w9 ⟨⟨v9, rfl, hv9⟩, hb9⟩
        have HV9 := Lib.hid hv9
        have HB9 := Lib.hid (hb.out.trans (hb9.mono hb.out.size))
        have HK9 := Lib.hid (hbk.out.below hb9 hbk.out.lt)
        clear hv9 hb9
        go_wp2_with fail
        go_roundw
        case rel => exact ⟨k + 1, by omega, by go_num, Lib.hid (by rw [HW.out]; exact HV9.out), HB9, HK9⟩
        case measure => simp [intOf]; omega
      · have hall := Lib.hid (show l.take k = l from List.take_of_length_le (by omega))
        go_wp2
        go_ret
        exact ⟨⟨_, rfl, by have := hv.out; rw [hall.out] at this; exact this⟩, hb.out⟩
end Go.Proofs.YtfecccobihdopaaDoor
