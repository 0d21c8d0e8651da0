/-
  The contract of the document's Get of spans.
  Conditions: at most 2^47 bytes.
-/
import Derived.Test.YthpiicdkihglpaaSpansLZ
import Derived.Test.YthpiicdkihglpaaRefRdZ
namespace Go.Proofs.Ythpiicdkihglpaa
open Go.RowKit
set_option linter.unusedVariables false
set_option linter.unusedSimpArgs false

theorem numS_ok (q : Nat) (l : List UInt8) (hq : num (q : Int) = true) (h : q ≤ l.length) : numS (q : Int) (some l) = (numOf (l.take q), some (l.drop q)) := by
  unfold numS
  rw [if_pos hq, takeS_ok q l h]
theorem numS_far (q : Nat) (l : List UInt8) (hq : num (q : Int) = true) (h : l.length < q) : numS (q : Int) (some l) = (0, none) := by
  unfold numS
  rw [if_pos hq, takeS_far q l h]
  rfl
theorem QS.cell0 {w : World} {g d : Nat} {l : List UInt8} (h : QS w g d (some l)) : ∃ A c, w.cell? ⟨g, 0, none⟩ = some (.slice A l.length c) ∧ w.cell? ⟨g, 1, none⟩ = some (.bool false) := by
  obtain ⟨A, c, h1, _⟩ := h
  exact ⟨A, c, by rw [cell_of_row w g 0 _ 169 (0, 0) h1]; rfl, by rw [cell_of_row w g 1 _ 169 (0, 0) h1]; rfl⟩
theorem QS.cell1 {w : World} {g d : Nat} (h : QS w g d none) : w.cell? ⟨g, 1, none⟩ = some (.bool true) := by
  have h1 : w.heap[g]? = _ := h
  rw [cell_of_row w g 1 _ 169 (0, 0) h1]; rfl

end Go.Proofs.Ythpiicdkihglpaa
