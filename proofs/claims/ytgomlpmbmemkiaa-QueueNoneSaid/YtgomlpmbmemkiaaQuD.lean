/-
  The document's All, Of, Purge and Same of queues.
  Conditions: none but sizes.
-/
import Derived.Test.YtgomlpmbmemkiaaQuC
namespace Go.Proofs.Ytgomlpmbmemkiaa
open Go.RowKit
set_option linter.unusedVariables false
set_option linter.unusedSimpArgs false
set_option maxRecDepth 100000

/-- A row of numbers that was told. -/
def NumsQ (w : World) (l : List Nat) (e : Ending) (w' : World) : Prop := ∃ v, e = .returned v ∧ OwnG (natC .u64) 27 w' w.heap.size v l ∧ Below w.heap.size w w'
section
variable {w w' : World} {B qb : Nat} {F : Nat → Prop} {q : QP}
end

end Go.Proofs.Ytgomlpmbmemkiaa
