/-
  The document's Put, Keep, Give and Fill of queues.
  Conditions: none but sizes.
-/
import Derived.Test.YtgomlpmbmemkiaaQuA
namespace Go.Proofs.Ytgomlpmbmemkiaa
open Go.RowKit
set_option linter.unusedVariables false
set_option linter.unusedSimpArgs false
set_option maxRecDepth 100000

section
variable {w w' : World} {B qb : Nat} {F : Nat → Prop} {q : QP}
end

end Go.Proofs.Ytgomlpmbmemkiaa
