/-
  What the document calls a small entry.
  Conditions: none but sizes.
-/
import Derived.Test.YtdklhcmoilcpgaaGreatEnBZ
import Derived.Test.YtdklhcmoilcpgaaGreatPrFZ
namespace Go.Proofs.YtdklhcmoilcpgaaGreat
open Go.RowKit
set_option linter.unusedVariables false
set_option linter.unusedSimpArgs false
set_option maxRecDepth 100000
def FewS (cs : List PutC) : Prop := ∀ j (h : j < cs.length), cntT cs[j].e.p.app ≤ 400
def SmallPSaid (cs : List PutC) (w : World) (e : Ending) (w' : World) : Prop := ∃ r : Bool, e = .returned (.bool r) ∧ (r = true → cs.length ≤ 110 ∧ FewS cs) ∧ Below w.heap.size w w'
def SmallESaid (x : EntC) (w : World) (e : Ending) (w' : World) : Prop := ∃ r : Bool, e = .returned (.bool r) ∧ (r = true → x.cs.length ≤ 110 ∧ FewS x.cs ∧ x.rs.length ≤ 110) ∧ Below w.heap.size w w'
end Go.Proofs.YtdklhcmoilcpgaaGreat
