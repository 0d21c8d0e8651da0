/-
  The contracts of the reader's Text and of Open.
-/
import Derived.Test.YtocankfabgjjmaaOctD
namespace Go.Proofs.Ytocankfabgjjmaa
open Go.RowKit
set_option linter.unusedVariables false
set_option linter.unusedSimpArgs false

theorem grown_trans' {a b c : World} {r : Option Nat} (h : a.grownBy b r) (k : b.grownBy c r) : a.grownBy c r :=
  ⟨k.os.trans h.os, k.tape.trans h.tape, k.output.trans h.output, Nat.le_trans h.size k.size, fun i hi hne => (k.block i (Nat.lt_of_lt_of_le hi h.size) hne).trans (h.block i hi hne)⟩

/-- What Text does behind the length. -/
def textT (most : Int) (p : Nat × Option (List UInt8)) : List UInt8 × Option (List UInt8) :=
  if most < 0 ∨ most < p.1 then ([], (takeS (-1) p.2).2) else takeS (p.1 : Nat) p.2
/-- What Text does. -/
def textS (q most : Int) (s : Option (List UInt8)) : List UInt8 × Option (List UInt8) := textT most (numS (if txt q = true then q else -1) s)

theorem takeS_lenS (n : Int) (s : Option (List UInt8)) : lenS (takeS n s).2 ≤ lenS s := by
  cases s with
  | none => simp [takeS]
  | some l => simp only [takeS]; split <;> simp [lenS]
theorem numS_lenS (q : Int) (s : Option (List UInt8)) : lenS (numS q s).2 ≤ lenS s := takeS_lenS _ _

end Go.Proofs.Ytocankfabgjjmaa
