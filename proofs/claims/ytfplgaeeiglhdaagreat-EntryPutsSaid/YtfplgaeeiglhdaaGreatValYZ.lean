/-
  The contract of the document's own Put.
  Conditions: none but sizes.
-/
import Derived.Test.YtfplgaeeiglhdaaGreatValTZ
namespace Go.Proofs.YtfplgaeeiglhdaaGreat
open Go.RowKit
set_option linter.unusedVariables false
set_option linter.unusedSimpArgs false

end Go.Proofs.YtfplgaeeiglhdaaGreat
