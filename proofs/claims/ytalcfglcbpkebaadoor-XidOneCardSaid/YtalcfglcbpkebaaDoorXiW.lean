/-
  Plain facts: what the bytes of a name tell when they are read; they tell names apart.
  Conditions: none. Nothing here speaks of the program's runs.
-/
import Derived.Test.YtalcfglcbpkebaaDoorXiP
import Derived.Test.YtalcfglcbpkebaaDoorXiV
import Derived.Test.YtalcfglcbpkebaaDoorXiT
namespace Go.Proofs.YtalcfglcbpkebaaDoor
open Go.RowKit
set_option linter.unusedVariables false
set_option linter.unusedSimpArgs false

theorem numOf_be : ∀ (k n : Nat), numOf (be k n) = n % 256 ^ k
  | 0, n => by simp [be, numOf, Nat.mod_one]
  | k + 1, n => by
    rw [be, numOf_snoc, numOf_be k]
    have h1 : (UInt8.ofNat n).toNat = n % 256 := by simp
    rw [h1, Nat.pow_succ, Nat.mul_comm (256 ^ k) 256, Nat.mod_mul]
    omega

theorem encX_length (f : Nat) (g h : ByteArray) : (encX f g h).length = 6 + g.size + h.size := by
  unfold encX
  simp [be_length, sb_length]
  omega

theorem getD_parts (B G H r : List UInt8) (hB : B.length = 4) (hG : G.length < 256) (hH : H.length < 256) :
    getD (B ++ [UInt8.ofNat G.length] ++ G ++ [UInt8.ofNat H.length] ++ H ++ r) = some (numOf B, G, H, 6 + G.length + H.length) := by
  have e : B ++ [UInt8.ofNat G.length] ++ G ++ [UInt8.ofNat H.length] ++ H ++ r = B ++ (UInt8.ofNat G.length :: (G ++ (UInt8.ofNat H.length :: (H ++ r)))) := by simp
  rw [e]
  have cG : (UInt8.ofNat G.length).toNat = G.length := by simp; omega
  have cH : (UInt8.ofNat H.length).toNat = H.length := by simp; omega
  generalize UInt8.ofNat G.length = x at *
  generalize UInt8.ofNat H.length = y at *
  have l4 : (B ++ (x :: (G ++ (y :: (H ++ r))))).getD 4 0 = x := by
    rw [List.getD_eq_getElem?_getD, List.getElem?_append_right (by omega), hB]; rfl
  have d5 : (B ++ (x :: (G ++ (y :: (H ++ r))))).drop 5 = G ++ (y :: (H ++ r)) := by
    rw [show (5 : Nat) = B.length + 1 by omega, ← List.drop_drop, List.drop_left]; rfl
  have l5 : (B ++ (x :: (G ++ (y :: (H ++ r))))).getD (5 + G.length) 0 = y := by
    rw [List.getD_eq_getElem?_getD, ← List.getElem?_drop, d5, List.getElem?_append_right (Nat.le_refl _), Nat.sub_self]; rfl
  have d6 : (B ++ (x :: (G ++ (y :: (H ++ r))))).drop (6 + G.length) = H ++ r := by
    rw [show 6 + G.length = 5 + (G.length + 1) by omega, ← List.drop_drop, d5, ← List.drop_drop, List.drop_left]; rfl
  have ll : (B ++ (x :: (G ++ (y :: (H ++ r))))).length = 6 + G.length + H.length + r.length := by simp; omega
  unfold getD
  rw [l4, cG, l5, cH, d5, d6, ll, if_neg (by omega), if_neg (by omega), if_neg (by omega)]
  rw [← hB, List.take_left, List.take_left, List.take_left]

theorem getD_enc (f : Nat) (g h : ByteArray) (r : List UInt8) (hm : mayX g h) (hf : f < 4294967296) : getD (encX f g h ++ r) = some (f, sb g, sb h, (encX f g h).length) := by
  obtain ⟨m1, m2, m3⟩ := hm
  have := getD_parts (be 4 f) (sb g) (sb h) r (be_length _ _) (by rw [sb_length]; omega) (by rw [sb_length]; omega)
  rw [encX_length]
  rw [sb_length, sb_length, numOf_be, Nat.mod_eq_of_lt (by omega)] at this
  exact this

theorem encX_inj {f1 f2 : Nat} {g1 h1 g2 h2 : ByteArray} (hm1 : mayX g1 h1) (hm2 : mayX g2 h2) (hf1 : f1 < 4294967296) (hf2 : f2 < 4294967296) (h : encX f1 g1 h1 = encX f2 g2 h2) : f1 = f2 ∧ g1 = g2 ∧ h1 = h2 := by
  have e1 := getD_enc f1 g1 h1 [] hm1 hf1
  rw [h, getD_enc f2 g2 h2 [] hm2 hf2] at e1
  simp only [Option.some.injEq, Prod.mk.injEq] at e1
  exact ⟨e1.1.symm, (sb_inj.1 e1.2.1).symm, (sb_inj.1 e1.2.2.1).symm⟩

theorem cmpX_eq0 {f1 f2 : Nat} {g1 h1 g2 h2 : ByteArray} (h : cmpX f1 f2 g1 h1 g2 h2 = 0) : f1 = f2 ∧ g1 = g2 ∧ h1 = h2 := by
  rw [cmpX_key] at h
  exact keyX_inj (cmpK_is.eq0 _ _ h)
theorem cmpX_self (f : Nat) (g h : ByteArray) : cmpX f f g h g h = 0 := by
  rw [cmpX_key]
  exact cmpK_is.refl _

end Go.Proofs.YtalcfglcbpkebaaDoor
