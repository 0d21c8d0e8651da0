/-
  The contracts of the document's own Scan and Same for frames.
  Conditions: at most 1000000 bytes.
-/
import Derived.Test.YtocankfabgjjmaaFrG
import Derived.Test.YtocankfabgjjmaaFrF
import Derived.Deep.LoopGhost
import Derived.Deep.QuietTactic
import Derived.BigQuiet
namespace Go.Proofs.Ytocankfabgjjmaa
open Go.RowKit
set_option linter.unusedVariables false
set_option linter.unusedSimpArgs false

/-! ### rows of frames -/
section
variable {w : World} {d o : Nat} {l : List Fr}
theorem fr_cell (h : ∀ j (h : j < l.length) k, k < frC.sz → w.cell? ⟨d, o + (j * frC.sz + k), none⟩ = (frC.enc l[j])[k]?) {k : Nat} (hk : k < l.length) :
    w.cell? ⟨d, o + k * 8, none⟩ = some (.bool l[k].a) ∧ w.cell? ⟨d, o + k * 8 + 1, none⟩ = some (.bool l[k].b) ∧ w.cell? ⟨d, o + k * 8 + 2, none⟩ = some (.bool l[k].c) ∧ w.cell? ⟨d, o + k * 8 + 3, none⟩ = some (.bool l[k].d) ∧
    w.cell? ⟨d, o + k * 8 + 4, none⟩ = some (.int .u8 (l[k].t : Nat)) ∧ w.cell? ⟨d, o + k * 8 + 5, none⟩ = some (.int .u8 (l[k].k : Nat)) ∧ w.cell? ⟨d, o + k * 8 + 6, none⟩ = some (.int .u16 (l[k].ch : Nat)) ∧ w.cell? ⟨d, o + k * 8 + 7, none⟩ = some (.string l[k].p) :=
  ⟨h k hk 0 (by decide), h k hk 1 (by decide), h k hk 2 (by decide), h k hk 3 (by decide), h k hk 4 (by decide), h k hk 5 (by decide), h k hk 6 (by decide), h k hk 7 (by decide)⟩
end

end Go.Proofs.Ytocankfabgjjmaa
