/-
  The contract of the document's own Put.
  Conditions: none but sizes.
-/
import Derived.Test.YtpmafabphlejeaaGreatValTZ
namespace Go.Proofs.YtpmafabphlejeaaGreat
open Go.RowKit
set_option linter.unusedVariables false
set_option linter.unusedSimpArgs false

end Go.Proofs.YtpmafabphlejeaaGreat
