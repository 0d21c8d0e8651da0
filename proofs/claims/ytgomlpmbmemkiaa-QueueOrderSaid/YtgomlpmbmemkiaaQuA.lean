/-
  The document's Room, Find and put of queues.
  Conditions: none but sizes.
-/
import Derived.Test.YtgomlpmbmemkiaaQuM
import Derived.Deep.QuietTactic
import Derived.BigQuiet
import Derived.Deep.CutRange
import Derived.Deep.CutBlock
import Derived.Deep.DeepCutAuto
namespace Go.Proofs.Ytgomlpmbmemkiaa
open Go.RowKit
set_option linter.unusedVariables false
set_option linter.unusedSimpArgs false
set_option maxRecDepth 100000

section
variable {w w' : World} {B qb : Nat} {F : Nat → Prop} {q : QP}
/-- Where a message is. -/
def placeV (r : Option Nat) : Int := match r with | none => -1 | some i => (i : Int)
end

end Go.Proofs.Ytgomlpmbmemkiaa
