/-
  A queue of the program and one of the document's side by side; the law's hands.
  Conditions: none but sizes.
-/
import Derived.Test.YtgomlpmbmemkiaaQuX
import Derived.Deep.RegionHeld3
namespace Go.Proofs.Ytgomlpmbmemkiaa
open Go.RowKit
set_option linter.unusedVariables false
set_option linter.unusedSimpArgs false
set_option maxRecDepth 100000

/-- The blocks of X are as they were. -/
def KeptX (X : Nat → Prop) (w w' : World) : Prop := ∀ k, X k → w'.heap[k]? = w.heap[k]?
theorem KeptX.trans {X : Nat → Prop} {w w1 w2 : World} (h : KeptX X w w1) (h2 : KeptX X w1 w2) : KeptX X w w2 := fun k hk => (h2 k hk).trans (h k hk)
section
variable {w0 w w' : World} {pb qb : Nat} {p p' q q' : QP} {X Y : Nat → Prop} {r : Ending} {f : FuncId} {args : Array Value}
end

section
variable {w w' : World} {B qb : Nat} {F : Nat → Prop} {q : QP}
end

end Go.Proofs.Ytgomlpmbmemkiaa
