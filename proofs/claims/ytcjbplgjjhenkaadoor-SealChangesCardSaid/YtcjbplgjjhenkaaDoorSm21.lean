/-
  The numbers of layer 9's fixed examples.
-/
import Derived.Test.YtcjbplgjjhenkaaDoorSm17
import Derived.Test.YtcjbplgjjhenkaaDoorSm12
/-
  Sealed strings as plain functions: made, opened; that a string is opened exactly if its code is right. No function of the program is named here.
-/
namespace Go.Proofs.YtcjbplgjjhenkaaDoor
set_option linter.unusedVariables false

/-- A list as a function. -/
def ofL (l : List UInt8) : Nat → UInt8 := fun j => l.getD j 0
def labE : List UInt8 := [101, 110, 99, 114, 121, 112, 116]
def labM : List UInt8 := [112, 114, 111, 116, 101, 99, 116]
def keyE (key : List UInt8) : List UInt8 := derive key labE 16
def keyM (key : List UInt8) : List UInt8 := derive key labM 32
/-- What is in front of the code: the nonce and the bytes, combined. -/
def sealF (key nonce b : List UInt8) : List UInt8 := nonce ++ sMix (cStr (ofL (keyE key)) (ofL nonce)) 0 b
def sealC (key : List UInt8) (u : UInt8) (front : List UInt8) : List UInt8 := (hmac (keyM key) (u :: front)).take 16
def sealS (key : List UInt8) (u : UInt8) (nonce b : List UInt8) : List UInt8 := sealF key nonce b ++ sealC key u (sealF key nonce b)
theorem sealC_len (key : List UInt8) (u : UInt8) (front : List UInt8) : (sealC key u front).length = 16 := by
  unfold sealC
  rw [List.length_take, hmac_len]
  omega
theorem sealF_len (key nonce b : List UInt8) : (sealF key nonce b).length = nonce.length + b.length := by
  unfold sealF
  rw [List.length_append, sMix_len]
theorem sealS_len (key : List UInt8) (u : UInt8) (nonce b : List UInt8) (hn : nonce.length = 8) : (sealS key u nonce b).length = b.length + 24 := by
  unfold sealS
  rw [List.length_append, sealC_len, sealF_len, hn]
  omega
/-- What a string is opened to, if its code is right: the middle, combined. -/
def sealB (key s : List UInt8) : List UInt8 := sMix (cStr (ofL (keyE key)) (ofL (s.take 8))) 0 ((s.take (s.length - 16)).drop 8)
/-- The parts in front of the code are those of what it is opened to. -/
theorem sealF_back (key s : List UInt8) (h : 24 ≤ s.length) : sealF key (s.take 8) (sealB key s) = s.take (s.length - 16) := by
  unfold sealF sealB
  rw [sMix_back]
  have h2 : s.take 8 = (s.take (s.length - 16)).take 8 := by
    rw [List.take_take]
    congr 1
    omega
  rw [h2]
  exact List.take_append_drop 8 _
/-- A string of at least 24 bytes is the sealed string of what it is opened to exactly if its code is right. -/
theorem seal_iff (key : List UInt8) (u : UInt8) (s : List UInt8) (h : 24 ≤ s.length) : sealS key u (s.take 8) (sealB key s) = s ↔ s.drop (s.length - 16) = sealC key u (s.take (s.length - 16)) := by
  unfold sealS
  rw [sealF_back key s h]
  constructor
  · intro e
    have := congrArg (List.drop (s.length - 16)) e
    rw [List.drop_left' (by rw [List.length_take]; omega)] at this
    exact this.symm
  · intro e
    rw [← e]
    exact List.take_append_drop _ _
/-- What Open returns: nothing, or the bytes. -/
def sealO (key : List UInt8) (u : UInt8) (s : List UInt8) : Option (List UInt8) := if 24 ≤ s.length ∧ s.drop (s.length - 16) = sealC key u (s.take (s.length - 16)) then some (sealB key s) else none
theorem sealO_ref (key : List UInt8) (u : UInt8) (s : List UInt8) : sealO key u s = if 24 ≤ s.length ∧ sealS key u (s.take 8) (sealB key s) = s then some (sealB key s) else none := by
  unfold sealO
  by_cases h : 24 ≤ s.length
  · simp only [h, true_and, seal_iff key u s h]
  · simp only [h, false_and]
theorem sealF_take (key nonce b : List UInt8) (hn : nonce.length = 8) (c : List UInt8) : (sealF key nonce b ++ c).take 8 = nonce := by
  unfold sealF
  rw [List.append_assoc, List.take_append_of_le_length (by omega), List.take_of_length_le (by omega)]
/-- A sealed string is opened to what was sealed. -/
theorem sealO_sealS (key : List UInt8) (u : UInt8) (nonce b : List UInt8) (hn : nonce.length = 8) : sealO key u (sealS key u nonce b) = some b := by
  have hl := sealS_len key u nonce b hn
  have hfl := sealF_len key nonce b
  have ht : (sealS key u nonce b).take ((sealS key u nonce b).length - 16) = sealF key nonce b := by
    rw [hl]
    unfold sealS
    rw [List.take_append_of_le_length (by omega), List.take_of_length_le (by omega)]
  have hd : (sealS key u nonce b).drop ((sealS key u nonce b).length - 16) = sealC key u (sealF key nonce b) := by
    rw [hl]
    unfold sealS
    exact List.drop_left' (by omega)
  have h8 : (sealS key u nonce b).take 8 = nonce := sealF_take key nonce b hn _
  unfold sealO
  rw [ht, hd, if_pos ⟨by omega, rfl⟩]
  congr 1
  unfold sealB
  rw [ht, h8]
  unfold sealF
  rw [List.drop_left' hn, sMix_back]
/-- A string that is opened is the sealed string of the result. -/
theorem sealS_of_sealO (key : List UInt8) (u : UInt8) (s b : List UInt8) (h : sealO key u s = some b) : sealS key u (s.take 8) b = s := by
  unfold sealO at h
  split at h
  · rename_i hc
    injection h with h
    subst h
    exact (seal_iff key u s hc.1).2 hc.2
  · cases h
/-- Another code is not right. -/
theorem sealO_code (key : List UInt8) (u : UInt8) (front c : List UInt8) (hc : c.length = 16) (hne : c ≠ sealC key u front) : sealO key u (front ++ c) = none := by
  unfold sealO
  have hl : (front ++ c).length - 16 = front.length := by rw [List.length_append]; omega
  rw [hl, List.drop_left' rfl, List.take_left' rfl]
  exact if_neg fun h => hne h.2
/-- Sealed strings with different nonces are different. -/
theorem sealS_nonce (key : List UInt8) (u : UInt8) (n1 n2 b : List UInt8) (h1 : n1.length = 8) (h2 : n2.length = 8) : sealS key u n1 b = sealS key u n2 b ↔ n1 = n2 := by
  constructor
  · intro e
    have := congrArg (List.take 8) e
    unfold sealS at this
    rwa [sealF_take key n1 b h1, sealF_take key n2 b h2] at this
  · rintro rfl
    rfl
end Go.Proofs.YtcjbplgjjhenkaaDoor
namespace Go.Proofs.YtcjbplgjjhenkaaDoor
set_option linter.unusedVariables false
set_option maxRecDepth 100000

def exK : List UInt8 := [7, 0, 0, 0, 0, 0, 0, 0, 0, 0, 0, 0, 0, 0, 0, 0]
def exN : List UInt8 := [1, 0, 0, 0, 0, 0, 0, 0]
def exM : List UInt8 := [200, 143, 206, 79, 77, 212, 163, 250, 24, 116, 217, 34, 5, 106, 138, 215, 167, 255, 15, 101, 245, 114, 254, 143, 112, 169, 13, 238, 191, 51, 174, 179]
def ex3 : List UInt8 := [42, 97, 57, 140, 127, 29, 119, 34, 71, 199, 231, 50, 177, 174, 161, 144]
def ex4 : List UInt8 := [105, 251, 173, 217, 21, 177, 151, 36, 54, 200, 140, 163, 23, 173, 244, 5]
theorem ex_key : keyM exK = exM := by decide +kernel
theorem ex_c3 : (hmac exM (3 :: exN)).take 16 = ex3 := by decide +kernel
theorem ex_c4 : (hmac exM (4 :: exN)).take 16 = ex4 := by decide +kernel
theorem ex_front : sealF exK exN [] = exN := by
  unfold sealF
  rw [sMix_nil, List.append_nil]
theorem ex_seal : sealS exK 3 exN [] = exN ++ ex3 := by
  unfold sealS
  rw [ex_front]
  unfold sealC
  rw [ex_key, ex_c3]
theorem ex_open : sealO exK 3 (exN ++ ex3) = some [] := by
  rw [← ex_seal]
  exact sealO_sealS exK 3 exN [] rfl
theorem ex_no : sealO exK 4 (exN ++ ex3) = none := by
  refine sealO_code exK 4 exN ex3 rfl ?_
  unfold sealC
  rw [ex_key, ex_c4]
  decide
/-- The string with another byte in its code. -/
theorem ex_not : sealO exK 3 ((exN ++ ex3).set 20 178) = none := by
  refine sealO_code exK 3 exN (ex3.set 12 178) rfl ?_
  unfold sealC
  rw [ex_key, ex_c3]
  decide
end Go.Proofs.YtcjbplgjjhenkaaDoor
