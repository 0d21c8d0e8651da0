/-
  The document's Drop of queues.
  Conditions: none but sizes.
-/
import Derived.Test.YtgomlpmbmemkiaaQuE
namespace Go.Proofs.Ytgomlpmbmemkiaa
open Go.RowKit
set_option linter.unusedVariables false
set_option linter.unusedSimpArgs false
set_option maxRecDepth 100000

theorem succ_wraps {n m : Nat} (hm : m = n + 1) (h : m ≤ 1000000) : IntKind.i64.wrap ((n : Int) + 1) = (m : Int) ∧ wrap64 ((n : Int) + 1) = (m : Int) := by
  have e : (n : Int) + 1 = (m : Int) := by omega
  rw [e]
  exact ⟨i64_id _ (by omega) (by omega), w64_id _ (by omega) (by omega)⟩
section
variable {w w' : World} {B qb : Nat} {F : Nat → Prop} {q : QP}
end

end Go.Proofs.Ytgomlpmbmemkiaa
