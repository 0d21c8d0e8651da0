/-
  What several proofs of this seat share: how Take answers, what Left answers, the ranges of integers that came in.
  Conditions: none.
-/
import Derived.Test.YtocankfabgjjmaaOctE
import Derived.Test.YtocankfabgjjmaaRowkit
namespace Go.Proofs.Ytocankfabgjjmaa
open Go.ChangeShapes Go.WideShapes Go.ChangeAt Go.RowKit
set_option linter.unusedVariables false
set_option linter.unusedSimpArgs false

theorem takeS_far (n : Nat) (l : List UInt8) (h : l.length < n) : takeS (n : Int) (some l) = ([], none) := by simp only [takeS]; rw [if_neg (by omega)]
theorem takeS_ok (n : Nat) (l : List UInt8) (h : n ≤ l.length) : takeS (n : Int) (some l) = (l.take n, some (l.drop n)) := by simp only [takeS]; rw [if_pos (by omega)]; simp

end Go.Proofs.Ytocankfabgjjmaa
