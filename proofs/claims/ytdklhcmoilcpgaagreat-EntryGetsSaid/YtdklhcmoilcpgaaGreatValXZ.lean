/-
  The contract of the document's own Copy.
  Conditions: at most 1000 values.
-/
import Derived.Deep.RegionWith
import Derived.Deep.RegionLaw
import Derived.Deep.CutRange
import Derived.Deep.DeepCutAuto
import Derived.Deep.CutBlock
import Derived.Test.YtdklhcmoilcpgaaGreatValIZ
namespace Go.Proofs.YtdklhcmoilcpgaaGreat
open Go.RowKit
set_option linter.unusedVariables false
set_option linter.unusedSimpArgs false
theorem BoxV.fr {w : World} {b : Nat} {v0 v1 v2 v3 v4 : Value} (h : BoxV w b v0 v1 v2 v3 v4) (i : Nat) : w.frozen? ⟨b, i, none⟩ = false := frozen_of_row w b i _ 63 h
structure CopyR (w0 : World) (t : Tree) (kv0 lv0 : Value) (j : Nat) (kv lv : Value) (xs : List Cell5) (w : World) : Prop where
  arg : BoxV w w0.heap.size (.int .u8 t.k) (.int .u64 t.n) (.string t.s) kv0 lv0
  z : BoxV w (w0.heap.size + 1) (.int .u8 0) (.int .u64 0) (.string ⟨#[]⟩) (.slice none 0 0) (.slice none 0 0)
  out : BoxV w (w0.heap.size + 1 + 1) (.int .u8 t.k) (.int .u64 t.n) (.string t.s) kv lv
  ks : OwnG strC 9 w (w0.heap.size + 3) kv t.ks
  l : OwnG valC 63 w (w0.heap.size + 3) lv xs
  len : xs.length = j
  sh : ∀ q (h1 : q < t.l.length) (h2 : q < xs.length), ShowsT (pm (Free (w0.heap.size + 3) kv lv) w) t.l[q] xs[q].vs
  ap : Apart kv lv
  bel : Below w0.heap.size w0 w
section
variable {w0 w w' : World} {t : Tree} {kv0 lv0 : Value} {j : Nat} {kv lv : Value} {xs : List Cell5}
end
def CopySaid (t : Tree) (w : World) (e : Ending) (w' : World) : Prop := ∃ vs, e = .returned (.agg vs.toArray) ∧ ShowsT (lowm w.heap.size w') t vs ∧ Below w.heap.size w w'
end Go.Proofs.YtdklhcmoilcpgaaGreat
