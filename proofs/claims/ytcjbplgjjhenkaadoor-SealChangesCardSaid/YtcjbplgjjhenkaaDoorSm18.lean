/-
  How many bits a number below 512 has, as the library finds it, by contracts.
-/
import Derived.Test.YtcjbplgjjhenkaaDoorSm4
import Derived.Lib.Strings
import Derived.Lib.Slices
import Derived.Lib.Small
import Derived.Lib.Walk
import Derived.Lib.BitFns
namespace Go.Proofs.YtcjbplgjjhenkaaDoor
open Go.RowKit
set_option linter.unusedVariables false
set_option linter.unusedSimpArgs false

theorem fold_tab (a b c d : List UInt8) (h : ByteArray.mk ((a.append b).append (c.append d)).toArray = Lib.len8tab) : Value.string (ByteArray.mk ((a.append b).append (c.append d)).toArray) = Value.string Lib.len8tab := congrArg Value.string h
theorem tab_at (n : Nat) (hn : n < 256) (h : n < Lib.len8tab.size) : Lib.len8tab[n].toNat = Lib.bitLen n ∧ Lib.bitLen n ≤ 8 := by
  have e : ∀ m : Fin 256, (Lib.len8tab[m.val]'(by rw [Lib.len8tab_size]; exact m.isLt)).toNat = Lib.bitLen m.val := by decide +kernel
  exact ⟨e ⟨n, hn⟩, Lib.bitLen_le8 ⟨n, hn⟩⟩
set_option maxRecDepth 100000 in
set_option maxHeartbeats 4000000 in
theorem flen64_i (w : World) (x : Int) (h0 : 0 ≤ x) (h1 : x < 512) : Calls Tryd.prog 88 #[.int .u64 x] w fun e w' => e = .returned (.int .i64 (Lib.bitLen x.toNat : Nat)) ∧ w = w' := by
  go_enter Tryd.func88, Tryd.ntmps88
  rw [fold_tab]
  rotate_left
  · kernel_rfl
  have hs : (Lib.len8tab.size : Int) = 256 := by rw [Lib.len8tab_size]; rfl
  by_cases h : x < 256
  · have h2 : ¬ 256 ≤ x := by omega
    have h3 : ¬ 65536 ≤ x := by omega
    have h4 : ¬ 4294967296 ≤ x := by omega
    have hc : x < (Lib.len8tab.size : Int) := by omega
    have HT := kept (fun h => (tab_at x.toNat (by omega) h).1)
    have HL := kept (tab_at x.toNat (by omega) (by omega)).2
    clear hs
    go_wp2
    go_ret
    refine ⟨congrArg (fun z => Ending.returned (.int .i64 z)) ?_, rfl⟩
    show wrap64 (wrap64 (Lib.len8tab[x.toNat].toNat : Int)) = _
    have := HT.out (by omega)
    have := HL.out
    unfold wrap64
    omega
  · have h2 : 256 ≤ x := by omega
    have h3 : ¬ 65536 ≤ x := by omega
    have h4 : ¬ 4294967296 ≤ x := by omega
    have hc : 0 ≤ x / 256 ∧ x / 256 < (Lib.len8tab.size : Int) := by omega
    have HT := kept (fun h => (tab_at (x / 256).toNat (by omega) h).1)
    have HL := kept (tab_at (x / 256).toNat (by omega) (by omega)).2
    have HS := kept (Lib.bitLen_shift8 x.toNat (by omega) (by omega))
    clear hs
    go_wp2
    go_ret
    refine ⟨congrArg (fun z => Ending.returned (.int .i64 z)) ?_, rfl⟩
    show wrap64 (8 + wrap64 (Lib.len8tab[(x / 256).toNat].toNat : Int)) = _
    have e := HS.out
    rw [show x.toNat / 256 = (x / 256).toNat by omega] at e
    have := HT.out (by omega)
    have := HL.out
    unfold wrap64
    omega
theorem flen_any (w : World) (u : Nat) (hu : u < 512) : Calls Tryd.prog 86 #[.int .u64 (u : Int)] w fun e w' => e = .returned (.int .i64 (Lib.bitLen u : Nat)) ∧ w = w' := by
  have hx := fun w => flen64_i w (u : Int) (by omega) (by omega)
  rw [show ((u : Int)).toNat = u by omega] at hx
  have HX := kept hx
  clear hx
  go_enter Tryd.func86, Tryd.ntmps86
  go_wp2_with (go_at_call 88; refine (HX.out _).mono ?_; rintro e w' ⟨rfl, rfl⟩)
  go_ret
  exact ⟨rfl, rfl⟩
end Go.Proofs.YtcjbplgjjhenkaaDoor
