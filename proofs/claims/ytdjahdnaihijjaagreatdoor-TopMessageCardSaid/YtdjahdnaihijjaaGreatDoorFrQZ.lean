/-
  The contracts of the law's own head and bytes.
  Conditions: none but sizes.
-/
import Derived.Test.YtdjahdnaihijjaaGreatDoorFrPZ
import Derived.Test.YtdjahdnaihijjaaGreatDoorFrIZ
namespace Go.Proofs.YtdjahdnaihijjaaGreatDoor
open Go.RowKit
set_option linter.unusedVariables false
set_option linter.unusedSimpArgs false

def fH : Fr := ⟨true, true, true, true, 0, 0, 1, ⟨#[97, 98]⟩⟩
theorem fH_ok : fH.ok := ⟨by decide, by decide, by decide, by decide⟩
theorem enc_fH : encF fH = [15, 0, 0, 14, 0, 0, 0, 1, 0, 0, 0, 0, 97, 98] := by decide
theorem fH_may : fH.may := ⟨fH_ok, by decide⟩
theorem scan_fH : scanD [15, 0, 0, 14, 0, 0, 0, 1, 0, 0, 0, 0, 97, 98, 15, 0] = ([fH], 14) ∧ errD [15, 0, 0, 14, 0, 0, 0, 1, 0, 0, 0, 0, 97, 98, 15, 0] = 0 := by
  have h := scan_back [fH] (fun f hf => by simp at hf; subst hf; exact fH_may) fH fH_may 2 (by decide)
  have e : encL [fH] ++ (encF fH).take 2 = [15, 0, 0, 14, 0, 0, 0, 1, 0, 0, 0, 0, 97, 98, 15, 0] := by decide
  rw [e] at h
  exact h
theorem scan_16 : scanD [16] = ([], 0) ∧ errD [16] = 60 := by decide

end Go.Proofs.YtdjahdnaihijjaaGreatDoor
