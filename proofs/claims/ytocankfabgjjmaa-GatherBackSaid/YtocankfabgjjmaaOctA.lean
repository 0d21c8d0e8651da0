/-
  The contracts of octet.digits and octet.joined: what they return, as lists of bytes, in new memory.
  Conditions: none but that the joined bytes are at most 2^47.
-/
import Derived.Test.YtocankfabgjjmaaP
namespace Go.Proofs.Ytocankfabgjjmaa
open Go.RowKit
set_option linter.unusedVariables false
set_option linter.unusedSimpArgs false

/-- The lowest k bytes of n, the highest first. -/
def be : Nat → Nat → List UInt8
  | 0, _ => []
  | k + 1, n => be k (n / 256) ++ [UInt8.ofNat n]

theorem be_length : ∀ k n, (be k n).length = k
  | 0, _ => rfl
  | k + 1, n => by simp [be, be_length k]

/-- A width that an integer may have, as a number of bytes; else 0. -/
def wd (w : Int) : Nat := if w = 1 then 1 else if w = 2 then 2 else if w = 4 then 4 else if w = 8 then 8 else 0

theorem wd_le (w : Int) : wd w ≤ 8 := by unfold wd; split <;> (try omega); split <;> (try omega); split <;> (try omega); split <;> omega

end Go.Proofs.Ytocankfabgjjmaa
