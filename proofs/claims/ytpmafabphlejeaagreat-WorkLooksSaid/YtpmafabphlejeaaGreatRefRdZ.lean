/-
  The contracts of the document's own reader: it does what the program's does.
-/
import Derived.Test.YtpmafabphlejeaaGreatOctAZ
namespace Go.Proofs.YtpmafabphlejeaaGreat
open Go.RowKit
set_option linter.unusedVariables false
set_option linter.unusedSimpArgs false

section
variable {w w' : World} {g d : Nat} {s : Option (List UInt8)}
end

theorem grown_set {w : World} {g : Nat} (i : Nat) (u : Value) : w.grownBy (w.setCell ⟨g, i, none⟩ u) (some g) :=
  ⟨rfl, rfl, rfl, by simp [World.setCell], fun k _ hk => Below.heap_setCell _ _ _ _ (fun e => hk (by rw [e]))⟩

theorem numS_lt (q : Int) (s : Option (List UInt8)) : (numS q s).1 < 18446744073709551616 := by
  have h : (takeS (if num q = true then q else -1) s).1.length ≤ 8 := by
    by_cases hq : num q = true
    · rw [if_pos hq]; have := takeS_len q s; have := num_le8 hq; omega
    · rw [if_neg hq]; have := takeS_len (-1) s; omega
  have h3 : 256 ^ (takeS (if num q = true then q else -1) s).1.length ≤ 256 ^ 8 := Nat.pow_le_pow_right (by omega) h
  exact Nat.lt_of_lt_of_le (numOf_lt _) (Nat.le_trans h3 (by decide))

theorem takeS_m1 (s : Option (List UInt8)) : takeS (-1) s = ([], none) := by cases s <;> simp [takeS]

theorem txt_num {q : Int} (h : txt q = true) : num q = true := by simp [txt] at h; simp [num]; omega

end Go.Proofs.YtpmafabphlejeaaGreat
