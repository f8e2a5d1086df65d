/-
  The field of 256 elements, as plain functions on bytes: products, inverses, powers; that products are linear, do not depend on the order, and have inverses. No function of the program is named here.
-/
import Derived.Test.YtnfgmgkdkfeekaaBytes
namespace Go.Proofs.Ytnfgmgkdkfeekaa
set_option linter.unusedVariables false

/-! ### Bits of bytes -/
def gbit (b : UInt8) (i : Nat) : Bool := b.toNat.testBit i
def gsel (c : Bool) (x : UInt8) : UInt8 := if c then x else 0
theorem gsel_xor (c d : Bool) (x : UInt8) : gsel (c ^^ d) x = gsel c x ^^^ gsel d x := by
  cases c <;> cases d <;> simp [gsel]
theorem gsel_lin (c : Bool) (x y : UInt8) : gsel c (x ^^^ y) = gsel c x ^^^ gsel c y := by
  cases c <;> simp [gsel]
theorem gbit_xor (a b : UInt8) (i : Nat) : gbit (a ^^^ b) i = (gbit a i ^^ gbit b i) := by
  unfold gbit
  rw [UInt8.toNat_xor, Nat.testBit_xor]
theorem xor4 (a b c d : UInt8) : (a ^^^ b) ^^^ (c ^^^ d) = (a ^^^ c) ^^^ (b ^^^ d) := by
  rw [UInt8.xor_assoc, UInt8.xor_assoc]
  congr 1
  rw [← UInt8.xor_assoc, ← UInt8.xor_assoc, UInt8.xor_comm b c]
/-- Twice a byte. -/
def xt (a : UInt8) : UInt8 := (a <<< 1) ^^^ gsel (gbit a 7) 27
theorem shl_lin (a b : UInt8) : (a ^^^ b) <<< 1 = (a <<< 1) ^^^ (b <<< 1) := by
  apply UInt8.toBitVec_inj.1
  simp only [UInt8.toBitVec_shiftLeft, UInt8.toBitVec_xor]
  exact BitVec.shiftLeft_xor_distrib _ _ _
theorem xt_lin (a b : UInt8) : xt (a ^^^ b) = xt a ^^^ xt b := by
  unfold xt
  rw [shl_lin, gbit_xor, gsel_xor, xor4]
/-- The product of two bytes: the sum of the multiples of a by the bits of b. -/
def gf (a b : UInt8) : UInt8 :=
  ((gsel (gbit b 0) a ^^^ gsel (gbit b 1) (xt a)) ^^^ (gsel (gbit b 2) (xt (xt a)) ^^^ gsel (gbit b 3) (xt (xt (xt a))))) ^^^
  ((gsel (gbit b 4) (xt (xt (xt (xt a)))) ^^^ gsel (gbit b 5) (xt (xt (xt (xt (xt a)))))) ^^^ (gsel (gbit b 6) (xt (xt (xt (xt (xt (xt a)))))) ^^^ gsel (gbit b 7) (xt (xt (xt (xt (xt (xt (xt a)))))))))
theorem gf_lin_r (a b c : UInt8) : gf a (b ^^^ c) = gf a b ^^^ gf a c := by
  unfold gf
  simp only [gbit_xor, gsel_xor]
  generalize gsel (gbit b 0) a = b0, gsel (gbit c 0) a = c0
  rw [xor4 b0 c0, xor4 (gsel (gbit b 2) _) , xor4 (gsel (gbit b 4) _), xor4 (gsel (gbit b 6) _), xor4 (b0 ^^^ _), xor4 (gsel (gbit b 4) _ ^^^ _), xor4]
theorem gf_lin_l (a b c : UInt8) : gf (a ^^^ b) c = gf a c ^^^ gf b c := by
  unfold gf
  simp only [xt_lin, gsel_lin]
  generalize gsel (gbit c 0) a = b0, gsel (gbit c 0) b = c0
  rw [xor4 b0 c0, xor4 (gsel (gbit c 2) _) , xor4 (gsel (gbit c 4) _), xor4 (gsel (gbit c 6) _), xor4 (b0 ^^^ _), xor4 (gsel (gbit c 4) _ ^^^ _), xor4]

/-! ### What is linear is known by eight values -/
def Lin (f : UInt8 → UInt8) : Prop := ∀ a b, f (a ^^^ b) = f a ^^^ f b
def parts8 (a : UInt8) : UInt8 := ((gsel (gbit a 0) 1 ^^^ gsel (gbit a 1) 2) ^^^ (gsel (gbit a 2) 4 ^^^ gsel (gbit a 3) 8)) ^^^ ((gsel (gbit a 4) 16 ^^^ gsel (gbit a 5) 32) ^^^ (gsel (gbit a 6) 64 ^^^ gsel (gbit a 7) 128))
theorem of_all {P : UInt8 → Prop} (h : ∀ n : Nat, n < 256 → P (UInt8.ofNat n)) (a : UInt8) : P a := by
  have := h a.toNat (UInt8.toNat_lt a)
  rwa [UInt8.ofNat_toNat] at this
theorem parts8_eq (a : UInt8) : parts8 a = a := of_all (P := fun a => parts8 a = a) (by decide +kernel) a
theorem Lin.zero {f : UInt8 → UInt8} (h : Lin f) : f 0 = 0 := by
  have h1 := h 0 0
  rw [UInt8.xor_self] at h1
  rw [h1, UInt8.xor_self]
theorem Lin.sel {f : UInt8 → UInt8} (h : Lin f) (c : Bool) (x : UInt8) : f (gsel c x) = gsel c (f x) := by
  cases c
  · exact h.zero
  · rfl
theorem lin_ext {f g : UInt8 → UInt8} (hf : Lin f) (hg : Lin g) (h : f 1 = g 1 ∧ f 2 = g 2 ∧ f 4 = g 4 ∧ f 8 = g 8 ∧ f 16 = g 16 ∧ f 32 = g 32 ∧ f 64 = g 64 ∧ f 128 = g 128) (a : UInt8) : f a = g a := by
  obtain ⟨h1, h2, h4, h8, h16, h32, h64, h128⟩ := h
  rw [← parts8_eq a]
  unfold parts8
  rw [hf, hf, hf, hf, hf, hf, hf, hg, hg, hg, hg, hg, hg, hg]
  simp only [hf.sel, hg.sel, h1, h2, h4, h8, h16, h32, h64, h128]
theorem lin_l (b : UInt8) : Lin (fun a => gf a b) := fun x y => gf_lin_l x y b
theorem lin_r (a : UInt8) : Lin (fun b => gf a b) := fun x y => gf_lin_r a x y
theorem Lin.comp {f g : UInt8 → UInt8} (hf : Lin f) (hg : Lin g) : Lin (fun a => f (g a)) := fun x y => by
  show f (g (x ^^^ y)) = _
  rw [hg, hf]
theorem gf_comm (a b : UInt8) : gf a b = gf b a := by
  refine lin_ext (f := fun a => gf a b) (g := fun a => gf b a) (lin_l b) (lin_r b) ?_ a
  refine ⟨?_, ?_, ?_, ?_, ?_, ?_, ?_, ?_⟩ <;> exact lin_ext (lin_r _) (lin_l _) (by decide +kernel) b
theorem gf_assoc (a b c : UInt8) : gf (gf a b) c = gf a (gf b c) := by
  refine lin_ext (f := fun a => gf (gf a b) c) (g := fun a => gf a (gf b c)) ((lin_l c).comp (lin_l b)) (lin_l _) ?_ a
  refine ⟨?_, ?_, ?_, ?_, ?_, ?_, ?_, ?_⟩ <;>
    (refine lin_ext (f := fun b => gf (gf _ b) c) (g := fun b => gf _ (gf b c)) ((lin_l c).comp (lin_r _)) ((lin_r _).comp (lin_l c)) ?_ b
     refine ⟨?_, ?_, ?_, ?_, ?_, ?_, ?_, ?_⟩ <;> exact lin_ext (f := fun c => gf _ c) (g := fun c => gf _ (gf _ c)) (lin_r _) ((lin_r _).comp (lin_r _)) (by decide +kernel) c)
theorem gf_one (a : UInt8) : gf a 1 = a := lin_ext (f := fun a => gf a 1) (g := fun a => a) (lin_l 1) (fun _ _ => rfl) (by decide +kernel) a
theorem gf_one_l (a : UInt8) : gf 1 a = a := by rw [gf_comm, gf_one]
theorem gf_zero (a : UInt8) : gf a 0 = 0 := (lin_r a).zero
theorem gf_zero_l (a : UInt8) : gf 0 a = 0 := (lin_l a).zero
end Go.Proofs.Ytnfgmgkdkfeekaa
