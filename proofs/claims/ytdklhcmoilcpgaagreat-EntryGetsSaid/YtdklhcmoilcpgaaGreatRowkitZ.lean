/-
  How an argument that is a slice of bytes is opened: it shows a list; its length is within the form's reach.
  Conditions: none.
-/
import Derived.ProofKit
import Derived.OpenShut
import Derived.ShutString
import Derived.ChangeOld
import Derived.SizedLaws
import Derived.Deep.Slices
import Derived.Deep.Fields
import Derived.Test.YtdklhcmoilcpgaaGreatRows
import Derived.Test.YtdklhcmoilcpgaaGreatMemZ
namespace Go.Proofs.YtdklhcmoilcpgaaGreat
open Go.ChangeShapes Go.WideShapes Go.ChangeAt Go.RowKit
open Go.ChangeMaps (open_string shut_string)
set_option linter.unusedVariables false
set_option linter.unusedSimpArgs false
section
variable {H : Type} {enc : TypeId × Value → H} {P : Program} {w : World} {base : Nat} {spare : Nat → Bool} {held : Bool}
def ShowsN (w : World) (d : Nat) (v : Value) (n sz : Nat) (f : Nat → Nat → Value) : Prop :=
  ∃ (A : Option Addr) (c : Nat), v = .slice A n c ∧ n ≤ c ∧ c ≤ maxLen ∧
    (0 < n → ∃ o, A = some ⟨d, o, none⟩ ∧ d < w.heap.size ∧ ∀ i j, i < n → j < sz → w.cell? ⟨d, o + (i * sz + j), none⟩ = some (f i j))
end
end Go.Proofs.YtdklhcmoilcpgaaGreat
