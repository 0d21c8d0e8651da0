/-
  The contract of octet.joined: new memory with the bytes of both, one behind the other.
  Condition: together at most 2^47 bytes.
-/
import Derived.Test.YtocankfabgjjmaaOctA
import Derived.Deep.QuietTactic
import Derived.BigQuiet
namespace Go.Proofs.Ytocankfabgjjmaa
open Go.RowKit
set_option linter.unusedVariables false
set_option linter.unusedSimpArgs false

theorem be_wd_length (q : Int) (n : Nat) : (be (wd q) n).length ≤ 8 := by rw [be_length]; exact wd_le q

/-- A text may have this width. -/
def txt (q : Int) : Bool := decide (q = 1 ∨ q = 2 ∨ q = 4)
/-- An integer may have this width. -/
def num (q : Int) : Bool := decide (q = 1 ∨ q = 2 ∨ q = 4 ∨ q = 8)

theorem txt_no {q : Int} (h : txt q = false) : (q == 1) = false ∧ (q == 2) = false ∧ (q == 4) = false := by
  simp [txt] at h; simp [h]
end Go.Proofs.Ytocankfabgjjmaa
