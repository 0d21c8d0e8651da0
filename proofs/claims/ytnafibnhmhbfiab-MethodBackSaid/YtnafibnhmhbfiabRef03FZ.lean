/-
  The contract of the document's Get of spans.
  Conditions: at most 2^47 bytes.
-/
import Derived.Test.YtnafibnhmhbfiabSpansLZ
import Derived.Test.YtnafibnhmhbfiabRefRdZ
namespace Go.Proofs.Ytnafibnhmhbfiab
open Go.RowKit
set_option linter.unusedVariables false
set_option linter.unusedSimpArgs false

theorem numS_ok (q : Nat) (l : List UInt8) (hq : num (q : Int) = true) (h : q ≤ l.length) : numS (q : Int) (some l) = (numOf (l.take q), some (l.drop q)) := by
  unfold numS
  rw [if_pos hq, takeS_ok q l h]
theorem numS_far (q : Nat) (l : List UInt8) (hq : num (q : Int) = true) (h : l.length < q) : numS (q : Int) (some l) = (0, none) := by
  unfold numS
  rw [if_pos hq, takeS_far q l h]
  rfl
end Go.Proofs.Ytnafibnhmhbfiab
