/-
  The contracts of the reader's methods: what they return and what is left of the reader.
-/
import Derived.Test.YtocankfabgjjmaaOctB
namespace Go.Proofs.Ytocankfabgjjmaa
open Go.RowKit
set_option linter.unusedVariables false
set_option linter.unusedSimpArgs false

section
variable {w w' : World} {g d : Nat} {l : List UInt8} {good : Bool}
end

theorem cutFrame {w w1 : World} {g : Nat} (hb : Below w.heap.size w w1) (u : Value) : w.grownBy (w1.setCell ⟨g, 0, none⟩ u) (some g) :=
  ⟨hb.os, hb.tape, hb.output, by simpa [World.setCell] using hb.size, fun k hk hne => (Below.heap_setCell _ _ _ _ (fun e => hne (by rw [e]))).trans (hb.block k hk)⟩

end Go.Proofs.Ytocankfabgjjmaa
