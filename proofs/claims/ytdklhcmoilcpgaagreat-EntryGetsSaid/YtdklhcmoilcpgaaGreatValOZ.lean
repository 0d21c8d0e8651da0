/-
  How an argument is opened that is a value: it shows a tree.
  Conditions: none.
-/
import Derived.Test.YtdklhcmoilcpgaaGreatRowkitZ
import Derived.Test.YtdklhcmoilcpgaaGreatValGZ
namespace Go.Proofs.YtdklhcmoilcpgaaGreat
open Go.ChangeShapes Go.WideShapes Go.ChangeAt Go.RowKit
open Go.ChangeMaps (open_string shut_string)
set_option linter.unusedVariables false
set_option linter.unusedSimpArgs false
section
variable {H : Type} {enc : TypeId × Value → H} {w : World} {base : Nat} {spare : Nat → Bool} {held : Bool}
end
end Go.Proofs.YtdklhcmoilcpgaaGreat
