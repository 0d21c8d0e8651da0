/-
  What several proofs of this seat share: how Take answers, what Left answers, the ranges of integers that came in.
  Conditions: none.
-/
import Derived.Test.YtnafibnhmhbfiaaOctE
import Derived.Test.YtnafibnhmhbfiaaRowkit
namespace Go.Proofs.Ytnafibnhmhbfiaa
open Go.ChangeShapes Go.WideShapes Go.ChangeAt Go.RowKit
set_option linter.unusedVariables false
set_option linter.unusedSimpArgs false

theorem takeS_far (n : Nat) (l : List UInt8) (h : l.length < n) : takeS (n : Int) (some l) = ([], none) := by simp only [takeS]; rw [if_neg (by omega)]
theorem takeS_ok (n : Nat) (l : List UInt8) (h : n ≤ l.length) : takeS (n : Int) (some l) = (l.take n, some (l.drop n)) := by simp only [takeS]; rw [if_pos (by omega)]; simp

theorem left_none (g d : Nat) (w : World) (h : RS w g d none) : Calls Try.prog 51 #[.pointer (some ⟨g, 0, none⟩)] w fun e w' => e = .returned (.int .i64 0) ∧ w = w' := by
  obtain ⟨l, hl⟩ := h
  exact left_any g d l false w hl
theorem left_some (g d : Nat) (l : List UInt8) (w : World) (h : RS w g d (some l)) : Calls Try.prog 51 #[.pointer (some ⟨g, 0, none⟩)] w fun e w' => e = .returned (.int .i64 l.length) ∧ w = w' := left_any g d l true w h

theorem left_some' (g d : Nat) (l : List UInt8) (m : Int) (w : World) (h : RS w g d (some l)) (hm : m = l.length) : Calls Try.prog 51 #[.pointer (some ⟨g, 0, none⟩)] w fun e w' => e = .returned (.int .i64 m) ∧ w = w' := by
  rw [hm]; exact left_some g d l w h

end Go.Proofs.Ytnafibnhmhbfiaa
