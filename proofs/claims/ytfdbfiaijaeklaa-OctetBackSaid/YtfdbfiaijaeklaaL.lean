/-
  Plain arithmetic: what was encoded as an integer or a string is read back as it was.
  Conditions: none.
-/
import Derived.Test.YtfdbfiaijaeklaaQ
namespace Go.Proofs.Ytfdbfiaijaeklaa
set_option linter.unusedVariables false
set_option linter.unusedSimpArgs false

theorem numOf_be : ∀ (k n : Nat), numOf (be k n) = n % 256 ^ k
  | 0, n => by simp [be, numOf, Nat.mod_one]
  | k + 1, n => by
    rw [be, numOf_snoc, numOf_be k, Nat.pow_succ, Nat.mul_comm (256 ^ k) 256, Nat.mod_mul]
    simp
    omega

theorem takeS_front (k : Nat) (a r : List UInt8) (h : a.length = k) : takeS (k : Int) (some (a ++ r)) = (a, some r) := by
  rw [takeS_ok k (a ++ r) (by simp; omega)]
  subst h
  simp

theorem numS_be (k n : Nat) (r : List UInt8) (h : num (k : Int) = true) : numS (k : Int) (some (be k n ++ r)) = (n % 256 ^ k, some r) := by
  unfold numS
  rw [if_pos h, takeS_front k (be k n) r (be_length k n), numOf_be]

theorem textS_be (k : Nat) (l r : List UInt8) (h : txt (k : Int) = true) (hl : l.length < 256 ^ k) : textS (k : Int) (l.length : Nat) (some (be k l.length ++ (l ++ r))) = (l, some r) := by
  unfold textS
  rw [if_pos h, numS_be k _ _ (txt_num h), Nat.mod_eq_of_lt hl]
  unfold textT
  rw [if_neg (by simp)]
  exact takeS_front _ l r rfl

theorem and_mask (n k : Nat) (hn : n < 18446744073709551616) (hk : k < 64) : bits .and .u64 (n : Int) ((2 ^ k - 1 : Nat) : Int) = ((n % 2 ^ k : Nat) : Int) := by
  have h2 : 2 ^ k ≤ 2 ^ 63 := Nat.pow_le_pow_right (by omega) (by omega)
  have h3 : (2 ^ 63 : Nat) = 9223372036854775808 := by decide
  rw [u64_and_nat n (2 ^ k - 1) hn (by omega), Nat.and_two_pow_sub_one_eq_mod]
end Go.Proofs.Ytfdbfiaijaeklaa
