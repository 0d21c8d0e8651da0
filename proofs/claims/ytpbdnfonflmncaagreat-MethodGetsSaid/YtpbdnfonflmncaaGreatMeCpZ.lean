/-
  The document's Copy of methods.
  Conditions: at most eight arguments, each of at most 400 values.
-/
import Derived.Test.YtpbdnfonflmncaaGreatMeSmZ
import Derived.Test.YtpbdnfonflmncaaGreatMeUBZ
import Derived.Test.YtpbdnfonflmncaaGreatMeMZ
import Derived.Test.YtpbdnfonflmncaaGreatValXZ
namespace Go.Proofs.YtpbdnfonflmncaaGreat
open Go.RowKit
set_option linter.unusedVariables false
set_option linter.unusedSimpArgs false
abbrev zMeth : Obj := Obj.cells #[.int .u8 0, .int .u8 0, .bool false, .slice none 0 0] 24
structure CpM (w : World) (cl co : Nat) (sy : Bool) (pv v : Value) (cs : List CellA) (l : List ArgP) (wx : World) : Prop where
  a : BoxM wx w.heap.size cl co sy pv
  r : wx.heap[w.heap.size + 1]? = some zMeth
  o : BoxM wx (w.heap.size + 2) cl co sy v
  own : OwnG cellAC 52 wx (w.heap.size + 3) v cs
  row : RowA (pm (Free (w.heap.size + 3) v (.slice none 0 0)) wx) cs l
  bel : Below w.heap.size w wx
def MCopySaid (cl co : Nat) (sy : Bool) (l : List ArgP) (w : World) (e : Ending) (w' : World) : Prop :=
  ∃ A c, e = .returned (.agg #[.int .u8 cl, .int .u8 co, .bool sy, .slice A l.length c]) ∧ ListA w' l A c ∧ Below w.heap.size w w'
end Go.Proofs.YtpbdnfonflmncaaGreat
