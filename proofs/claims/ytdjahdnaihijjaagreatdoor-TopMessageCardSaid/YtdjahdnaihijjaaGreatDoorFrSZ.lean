/-
  Small facts that several laws of layer 6 share.
  Conditions: none but sizes.
-/
import Derived.Test.YtdjahdnaihijjaaGreatDoorFrRZ
namespace Go.Proofs.YtdjahdnaihijjaaGreatDoor
open Go.RowKit
set_option linter.unusedVariables false
set_option linter.unusedSimpArgs false

/-- The frames that Scan tells are not many. -/
theorem scan_len (l : List UInt8) : 12 * (scanD l).1.length ≤ l.length := by
  have h := scan_again _ l (Nat.le_refl _)
  have h2 : ∀ (m : List Fr), (∀ f ∈ m, f.may) → 12 * m.length ≤ (encL m).length := by
    intro m
    induction m with
    | nil => intro _; simp
    | cons f r ih =>
      intro hm
      have := ih (fun g hg => hm g (by simp [hg]))
      simp only [encL, List.length_append, encF_length, List.length_cons]
      omega
  have h3 := h2 _ h.1
  rw [h.2, List.length_take] at h3
  omega
theorem shows_kept {w w' : World} {d : Nat} {v : Value} {l : List UInt8} (h : Shows w d v l) (hb : Below w.heap.size w w') : Shows w' d v l := h.keep hb.size fun hp => hb.block d (h.lt hp)

end Go.Proofs.YtdjahdnaihijjaaGreatDoor
