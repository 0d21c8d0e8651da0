/-
  The contracts of the reader's Take, Num, Text and Open.
-/
import Derived.Test.YtocankfabgjjmaaOctC
import Derived.Laws.BitsAllLaws
namespace Go.Proofs.Ytocankfabgjjmaa
open Go.RowKit
set_option linter.unusedVariables false
set_option linter.unusedSimpArgs false

/-- What Take does. -/
def takeS (n : Int) : Option (List UInt8) → List UInt8 × Option (List UInt8)
  | none => ([], none)
  | some l => if 0 ≤ n ∧ n ≤ l.length then (l.take n.toNat, some (l.drop n.toNat)) else ([], none)

def lenS : Option (List UInt8) → Nat
  | some l => l.length
  | none => 0

section
variable {w w' : World} {g d : Nat} {s : Option (List UInt8)}
end

theorem grown_refl (w : World) (r : Option Nat) : w.grownBy w r := ⟨rfl, rfl, rfl, Nat.le_refl _, fun _ _ _ => rfl⟩

/-- The number that bytes are, the highest first. -/
def numOf (l : List UInt8) : Nat := l.foldl (fun n b => n * 256 + b.toNat) 0

/-- What Num does. -/
def numS (q : Int) (s : Option (List UInt8)) : Nat × Option (List UInt8) := (numOf (takeS (if num q = true then q else -1) s).1, (takeS (if num q = true then q else -1) s).2)

theorem foldl_num : ∀ (l : List UInt8) (a : Nat), l.foldl (fun n b => n * 256 + b.toNat) a < (a + 1) * 256 ^ l.length
  | [], a => by simp
  | b :: l, a => by
    rw [List.foldl_cons, List.length_cons, Nat.pow_succ]
    have h := foldl_num l (a * 256 + b.toNat)
    have hb := b.toNat_lt
    have h2 : (a * 256 + b.toNat + 1) ≤ (a + 1) * 256 := by omega
    calc _ < (a * 256 + b.toNat + 1) * 256 ^ l.length := h
      _ ≤ ((a + 1) * 256) * 256 ^ l.length := Nat.mul_le_mul_right _ h2
      _ = (a + 1) * (256 ^ l.length * 256) := by rw [Nat.mul_assoc, Nat.mul_comm 256]

theorem numOf_lt (l : List UInt8) : numOf l < 256 ^ l.length := by simpa [numOf] using foldl_num l 0
theorem numOf_snoc (l : List UInt8) (b : UInt8) : numOf (l ++ [b]) = numOf l * 256 + b.toNat := by simp [numOf]
theorem numOf_take7 (l : List UInt8) (k : Nat) (h : k < 8) : numOf (l.take k) < 72057594037927936 := by
  have h1 := numOf_lt (l.take k)
  have h2 : (l.take k).length ≤ 7 := by simp; omega
  have h3 : 256 ^ (l.take k).length ≤ 256 ^ 7 := Nat.pow_le_pow_right (by omega) h2
  exact Nat.lt_of_lt_of_le h1 (Nat.le_trans h3 (by decide))
theorem orJoin (x b : Nat) (hx : (x : Int) < 72057594037927936) (hb : (b : Int) < 256) : bits .or .u64 ((x : Int) * 256) (b : Int) = ((x * 256 + b : Nat) : Int) := by
  have e : ((x : Int) * 256) = ((x * 256 : Nat) : Int) := by simp
  rw [e, u64_or_nat (x * 256) b (by omega) (by omega), Nat.or_comm, nat_join8' (x * 256) b (by omega) (by omega)]

theorem takeS_len (n : Int) (s : Option (List UInt8)) : ((takeS n s).1.length : Int) ≤ max n 0 := by
  cases s with
  | none => simp [takeS]; omega
  | some l =>
    simp only [takeS]
    split
    · simp; omega
    · simp; omega
theorem num_le8 {q : Int} (h : num q = true) : q ≤ 8 := by simp [num] at h; omega

end Go.Proofs.Ytocankfabgjjmaa
