/-
  The contract of xid's Put.
  Conditions: none but sizes.
-/
import Derived.Test.YtdjahdnaihijjaaGreatDoorXiAZ
import Derived.Test.YtdjahdnaihijjaaGreatDoorOctAZ
import Derived.Test.YtdjahdnaihijjaaGreatDoorRef04AZ
namespace Go.Proofs.YtdjahdnaihijjaaGreatDoor
open Go.RowKit
set_option linter.unusedVariables false
set_option linter.unusedSimpArgs false

theorem be1 (n : Nat) : be 1 n = [UInt8.ofNat n] := by simp [be]

end Go.Proofs.YtdjahdnaihijjaaGreatDoor
