/-
  The contract of the law's own bytes.
  Conditions: at most 2000 frames.
-/
import Derived.Test.YtdjahdnaihijjaaGreatDoorFrQZ
namespace Go.Proofs.YtdjahdnaihijjaaGreatDoor
open Go.RowKit
set_option linter.unusedVariables false
set_option linter.unusedSimpArgs false

/-- Those that may be put. -/
def mayL (l : List Fr) : List Fr := l.filter fun f => decide (checkF f = 0)
theorem mayL_snoc (l : List Fr) (k : Nat) (h : k < l.length) : mayL (l.take (k + 1)) = mayL (l.take k) ++ (if checkF l[k] = 0 then [l[k]] else []) := by
  unfold mayL
  rw [List.take_succ_eq_append_getElem h, List.filter_append]
  congr 1
  by_cases hc : checkF l[k] = 0
  · simp [List.filter, hc]
  · simp [List.filter, hc]
theorem mayL_may {l : List Fr} (h : ∀ f ∈ l, f.ok) : ∀ f ∈ mayL l, f.may := fun f hf => by
  unfold mayL at hf
  rw [List.mem_filter] at hf
  exact ⟨h f hf.1, by simpa using hf.2⟩
theorem mayL_all {l : List Fr} (h : ∀ f ∈ l, f.may) : mayL l = l := by
  unfold mayL
  rw [List.filter_eq_self]
  intro f hf
  simpa using (h f hf).2
theorem mayL_len (l : List Fr) : (mayL l).length ≤ l.length := List.length_filter_le _ _

/-- A row of bytes and one of frames lie apart. -/
theorem rows_apart {w : World} {b1 b2 : Nat} {v1 v2 : Value} {l1 : List UInt8} {l2 : List Fr} (h1 : Own 5 w b1 v1 l1) (h2 : OwnG frC 51 w b2 v2 l2) : ∀ g, v1.ownBlock = some g → v2.ownBlock ≠ some g := by
  intro g hg1 hg2
  rcases h1.2 with ⟨rfl, _⟩ | ⟨g1, c1, cur1, rfl, _, hh1, _⟩
  · cases hg1
  · rcases h2.2 with ⟨rfl, _⟩ | ⟨g2, c2, cur2, rfl, _, hh2, _⟩
    · cases hg2
    · simp only [Value.ownBlock, Option.some.injEq] at hg1 hg2
      subst hg1
      subst hg2
      rw [hh1] at hh2
      simp at hh2
theorem shows_keepG {w w' : World} {d : Nat} {v : Value} {l : List Fr} (h : ShowsG frC w d v l) (hb : Below w.heap.size w w') : ShowsG frC w' d v l := h.keep hb.size fun hp => hb.block d (h.lt hp)

end Go.Proofs.YtdjahdnaihijjaaGreatDoor
