/-
  What the description of an error reads as; what the world's shape tells of the library's table of powers of ten: it holds some numbers.
-/
import Derived.Test.YtfecccobihdopaaDoorBuild
import Derived.Test.YtfecccobihdopaaDoorItoa
import Derived.Test.YtfecccobihdopaaDoorFOpen
import Derived.SliceStrings
namespace Go.Proofs.YtfecccobihdopaaDoor
open Go.ChangeShapes Go.WideShapes Go.ChangeAt Go.RowKit
set_option linter.unusedVariables false

theorem tab_row : ∃ (zero : Array Value) (t : TypeId), ((begin Tryd.prog (fun _ _ => 0) default).world.heap[2]?).bind Obj.row? = some (zero, t) ∧ zero.size = 20 ∧ Tryd.prog.buildable t = true ∧ Tryd.prog.cellTypes Tryd.prog.depth t = some (List.replicate 20 104) :=
  ⟨Array.replicate 20 (.int .u64 0), 112, by kernel_rfl, rfl, by kernel_rfl, by kernel_rfl⟩
set_option maxRecDepth 100000 in
/-- The table holds some numbers. -/
theorem tab_of_shape {W : World} (h : W.ShapedOpen Tryd.prog) : ∃ T, TabAt T W := by
  obtain ⟨zero, t, hrow, hz, hb, hts⟩ := tab_row
  obtain ⟨cs, hc, hsz, hok⟩ := h.1 2 zero t (by rw [show Tryd.prog.globals.size = 5 by kernel_rfl]; decide) hrow
  obtain ⟨ts, h1, _, h3⟩ := hok hb
  have e : ts = List.replicate 20 104 := Option.some.inj (h1.symm.trans hts)
  subst e
  have each : ∀ k, k < 20 → ∃ n : Int, cs[k]? = some (.int .u64 n) := by
    intro k hk
    obtain ⟨v, hv⟩ : ∃ v, cs[k]? = some v := ⟨_, Array.getElem?_eq_getElem (by omega)⟩
    obtain ⟨u, hu, hcell⟩ := h3 k v hv
    have eu : u = 104 := by
      have := List.mem_of_getElem? hu
      rw [List.mem_replicate] at this
      exact this.2
    subst eu
    unfold Cell.ok at hcell
    rw [Tryd.underlying104] at hcell
    cases v <;> simp only at hcell
    case int k' n =>
      obtain ⟨rfl, _⟩ := hcell
      exact ⟨n, hv⟩
    all_goals exact hcell.elim
  refine ⟨fun k => match cs[k]? with | some (.int _ n) => n | _ => 0, fun k hk => ?_⟩
  obtain ⟨n, hn⟩ := each k hk
  have hcell := cell_of_row W 2 k cs t (0, 0)
  simp only [hn]
  unfold World.cell?
  simp [hc, hn]

set_option maxRecDepth 100000 in
/-- The description of an error that came in. -/
theorem open_desc {H : Type} {enc : TypeId × Value → H} {W : World} {b1 b2 : Nat} {sp : Nat → Bool} {held : Bool} {v : Value} {d : DataW H} {p : List MemPlace}
    (hv : Value.okWide Tryd.prog W .any b1 24 v) (h : DataW.Trod enc Tryd.prog W b2 sp held 24 v d p) :
    ∃ nil f A q c code place l, v = descV nil A (List.length l) c code place f ∧ l.length ≤ c ∧ c ≤ maxLen ∧ MemS W q A l ∧ -9223372036854775808 ≤ code ∧ code ≤ 9223372036854775807 := by
  obtain ⟨cs, rfl, hsz⟩ := okWide_struct Tryd.underlying24 hv
  have hC : Tryd.prog.cellsOf 24 = 5 := by kernel_rfl
  obtain ⟨cl⟩ := cs
  match cl, hsz.trans hC with
  | [x0, x1, x2, x3, x4], _ =>
    obtain ⟨fuel, hf⟩ := h
    obtain ⟨xs, n, _, _, _, hlen, hg⟩ := DataW.trod_struct Tryd.underlying24 hf
    have hlen5 : xs.length = 5 := hlen
    have g0 := hg 0 _ rfl
    have g1 := hg 1 _ rfl
    have g2 := hg 2 _ rfl
    have g3 := hg 3 _ rfl
    have g4 := hg 4 _ rfl
    simp only [Value.cells] at g0 g1 g2 g3 g4
    obtain ⟨nil, e0, _⟩ := DataW.trod_bool Tryd.underlying4 (g0.trans (List.getElem?_eq_getElem (by omega)))
    obtain ⟨code, e2, _, w2⟩ := DataW.trod_int Tryd.underlying3 (g2.trans (List.getElem?_eq_getElem (by omega)))
    obtain ⟨place, e3, _, _⟩ := DataW.trod_int Tryd.underlying3 (g3.trans (List.getElem?_eq_getElem (by omega)))
    obtain ⟨f, e4, _⟩ := DataW.trod_bool Tryd.underlying4 (g4.trans (List.getElem?_eq_getElem (by omega)))
    injection e0 with e0
    injection e2 with e2
    injection e3 with e3
    injection e4 with e4
    subst e0 e2 e3 e4
    have hb := bounds_i64 w2
    rcases open_strings Tryd.underlying22 Tryd.underlying9 (by kernel_rfl) (g1.trans (List.getElem?_eq_getElem (by omega))) with ⟨e1, _⟩ | ⟨a, len, cap, ss, e1, _, hl, hm, hss, _, hcell, _⟩
    · injection e1 with e1
      subst e1
      exact ⟨nil, f, none, 0, 0, code, place, [], rfl, Nat.le_refl _, by unfold maxLen; omega, .inl rfl, hb.1, hb.2⟩
    · injection e1 with e1
      subst e1
      have hls : len ≤ ss.length := by rw [hss]; split <;> omega
      have hlt : (ss.take len).length = len := by rw [List.length_take]; omega
      obtain ⟨b, off, spot⟩ := a
      refine ⟨nil, f, _, b, cap, code, place, ss.take len, by rw [hlt], by omega, hm, ?_, hb.1, hb.2⟩
      by_cases h0 : ss.take len = []
      · exact .inl h0
      · have hp : 0 < (ss.take len).length := List.length_pos_iff.2 h0
        have hc0 := hcell 0 (by omega)
        have hspot : spot = none := by simpa [Addr.add] using World.cell?_spot hc0
        subst hspot
        refine .inr ⟨off, rfl, fun j y hj => ?_⟩
        have hjl : j < (ss.take len).length := (List.getElem?_eq_some_iff.1 hj).1
        have hcj := hcell j (by omega)
        have ey : ss.getD j ByteArray.empty = y := by
          rw [List.getElem?_take, if_pos (by omega)] at hj
          simp [List.getD, hj]
        rw [ey] at hcj
        rw [← hcj]
        congr 1
        unfold Addr.add
        split
        · rename_i hj0; subst hj0; rfl
        · rfl
end Go.Proofs.YtfecccobihdopaaDoor
