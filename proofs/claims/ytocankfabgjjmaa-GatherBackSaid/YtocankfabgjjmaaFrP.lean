/-
  Without the program: what scanning tells.
  Conditions: none.
-/
import Derived.Test.YtocankfabgjjmaaFrE
namespace Go.Proofs.Ytocankfabgjjmaa
open Go.RowKit
set_option linter.unusedVariables false
set_option linter.unusedSimpArgs false

/-- Is there a frame with whose bytes these begin? -/
def isOne (l : List UInt8) : Bool := decide (12 ≤ l.length) && wellD l && decide (sizeAt l ≤ l.length)
def oneF (l : List UInt8) : Fr := if isOne l = true then decD (l.take (sizeAt l)) else zF
def oneN (l : List UInt8) : Nat := if isOne l = true then sizeAt l else 0
theorem isOne_iff (l : List UInt8) : isOne l = true ↔ 12 ≤ l.length ∧ wellD l = true ∧ sizeAt l ≤ l.length := by
  unfold isOne
  simp [and_assoc]
theorem isOne_well {l : List UInt8} (h : wellD l = false) : isOne l = false := by
  unfold isOne
  rw [h]
  simp
theorem sizeAt_lt (l : List UInt8) : sizeAt l < 65536 := by
  have := byteAt_lt l 2
  have := byteAt_lt l 3
  unfold sizeAt
  omega
theorem well_size {l : List UInt8} (h : wellD l = true) (h4 : 4 ≤ l.length) : 12 ≤ sizeAt l ∧ sizeAt l ≤ 4096 := by
  have := (wellD_iff l).1 h 3 (by omega) (by decide)
  unfold okAt at this
  rw [if_pos rfl] at this
  simpa using this
theorem one_size {l : List UInt8} (h : isOne l = true) : 12 ≤ sizeAt l ∧ sizeAt l ≤ 4096 ∧ sizeAt l ≤ l.length := by
  obtain ⟨h1, h2, h3⟩ := (isOne_iff l).1 h
  obtain ⟨h4, h5⟩ := well_size h2 (by omega)
  exact ⟨h4, h5, h3⟩
theorem byteAt_take (l : List UInt8) (n i : Nat) (h : i < n) : byteAt (l.take n) i = byteAt l i := by
  unfold byteAt
  simp [List.getD, List.getElem?_take, h]

/-- The frames that stand one behind the other, and how many bytes they take. -/
def scanF : Nat → List UInt8 → List Fr × Nat
  | 0, _ => ([], 0)
  | n + 1, l => if isOne l = true then (oneF l :: (scanF n (l.drop (sizeAt l))).1, sizeAt l + (scanF n (l.drop (sizeAt l))).2) else ([], 0)
def scanD (l : List UInt8) : List Fr × Nat := scanF l.length l
def errD (l : List UInt8) : Nat := if wellD (l.drop (scanD l).2) = true then 0 else 60
theorem isOne_nil : isOne [] = false := by decide
theorem scanF_fuel : ∀ (n m : Nat) (l : List UInt8), l.length ≤ n → l.length ≤ m → scanF n l = scanF m l
  | 0, 0, _, _, _ => rfl
  | 0, m + 1, l, h, _ => by
    have : l = [] := List.eq_nil_of_length_eq_zero (by omega)
    subst this
    simp [scanF, isOne_nil]
  | n + 1, 0, l, _, h => by
    have : l = [] := List.eq_nil_of_length_eq_zero (by omega)
    subst this
    simp [scanF, isOne_nil]
  | n + 1, m + 1, l, h1, h2 => by
    unfold scanF
    by_cases h : isOne l = true
    · obtain ⟨a, b, c⟩ := one_size h
      rw [if_pos h, if_pos h, scanF_fuel n m _ (by rw [List.length_drop]; omega) (by rw [List.length_drop]; omega)]
    · rw [if_neg h, if_neg h]
theorem scanD_no {l : List UInt8} (h : isOne l = false) : scanD l = ([], 0) := by
  unfold scanD
  cases hl : l.length with
  | zero => rfl
  | succ n => unfold scanF; rw [if_neg (by rw [h]; simp)]
theorem scanD_one {l : List UInt8} (h : isOne l = true) : scanD l = (oneF l :: (scanD (l.drop (sizeAt l))).1, sizeAt l + (scanD (l.drop (sizeAt l))).2) := by
  obtain ⟨a, b, c⟩ := one_size h
  unfold scanD
  obtain ⟨n, hn⟩ : ∃ n, l.length = n + 1 := ⟨l.length - 1, by omega⟩
  rw [hn]
  conv => lhs; unfold scanF
  rw [if_pos h, scanF_fuel n (l.drop (sizeAt l)).length _ (by rw [List.length_drop]; omega) (Nat.le_refl _)]

/-- In the midst of scanning: k frames have been told, they took 'at' bytes. -/
def Mid (l : List UInt8) (fs : List Fr) (at_ : Nat) : Prop := at_ ≤ l.length ∧ 12 * fs.length ≤ at_ ∧ scanD l = (fs ++ (scanD (l.drop at_)).1, at_ + (scanD (l.drop at_)).2)
theorem Mid.start (l : List UInt8) : Mid l [] 0 := ⟨Nat.zero_le _, Nat.le_refl _, by simp⟩
theorem Mid.step {l : List UInt8} {fs : List Fr} {at_ : Nat} (h : Mid l fs at_) (h1 : isOne (l.drop at_) = true) : Mid l (fs ++ [oneF (l.drop at_)]) (at_ + sizeAt (l.drop at_)) := by
  obtain ⟨a, b, c⟩ := one_size h1
  obtain ⟨d, e, f⟩ := h
  rw [List.length_drop] at c
  refine ⟨by omega, by simp; omega, ?_⟩
  rw [f, scanD_one h1, List.drop_drop]
  simp [Nat.add_assoc]
theorem Mid.last {l : List UInt8} {fs : List Fr} {at_ : Nat} (h : Mid l fs at_) (h1 : isOne (l.drop at_) = false) : scanD l = (fs, at_) := by
  rw [h.2.2, scanD_no h1]
  simp
theorem Mid.err {l : List UInt8} {fs : List Fr} {at_ : Nat} (h : Mid l fs at_) (h1 : isOne (l.drop at_) = false) : errD l = if wellD (l.drop at_) = true then 0 else 60 := by
  unfold errD
  rw [h.last h1]

end Go.Proofs.Ytocankfabgjjmaa
