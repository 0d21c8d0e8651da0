/-
  The appends of OctetPuts, for texts and slices that are together a little more than 2^47 bytes; the contracts of octet.PutText and of the document's Put and PutText.
  Conditions: a slice of at most 2^47 - 4096 bytes.
-/
import Derived.Test.YtocankfabgjjmaaRefRd
import Derived.Test.YtocankfabgjjmaaBig
namespace Go.Proofs.Ytocankfabgjjmaa
open Go.RowKit
set_option linter.unusedVariables false
set_option linter.unusedSimpArgs false

theorem be_cons : ∀ (k n : Nat), be (k + 1) n = UInt8.ofNat (n / 256 ^ k) :: be k n
  | 0, n => by simp [be]
  | k + 1, n => by
    show be (k + 1) (n / 256) ++ [UInt8.ofNat n] = _
    rw [be_cons k (n / 256), List.cons_append, Nat.div_div_eq_div_mul, Nat.pow_succ, Nat.mul_comm 256]
    rfl

end Go.Proofs.Ytocankfabgjjmaa
