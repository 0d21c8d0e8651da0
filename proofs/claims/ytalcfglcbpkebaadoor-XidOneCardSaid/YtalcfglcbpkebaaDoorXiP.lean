/-
  Plain facts: what reading a name's bytes tells.
  Conditions: none. Nothing here speaks of the program's runs.
-/
import Derived.Test.YtalcfglcbpkebaaDoorRef04G
import Derived.Test.YtalcfglcbpkebaaDoorOctS
namespace Go.Proofs.YtalcfglcbpkebaaDoor
open Go.RowKit
set_option linter.unusedVariables false
set_option linter.unusedSimpArgs false

/-- The three fields at the head of bytes, and how many bytes they take. -/
def getD (l : List UInt8) : Option (Nat × List UInt8 × List UInt8 × Nat) :=
  if l.length < 5 then none
  else if l.length < 6 + (l.getD 4 0).toNat then none
  else if l.length < 6 + (l.getD 4 0).toNat + (l.getD (5 + (l.getD 4 0).toNat) 0).toNat then none
  else some (numOf (l.take 4), (l.drop 5).take (l.getD 4 0).toNat, (l.drop (6 + (l.getD 4 0).toNat)).take (l.getD (5 + (l.getD 4 0).toNat) 0).toNat, 6 + (l.getD 4 0).toNat + (l.getD (5 + (l.getD 4 0).toNat) 0).toNat)

theorem textS_nil : textS 1 255 (some []) = ([], none) := by
  have hn : numS 1 (some ([] : List UInt8)) = (0, none) := by unfold numS; rw [if_pos (by decide)]; rfl
  unfold textS
  rw [if_pos (show txt 1 = true by decide), hn]
  rfl
theorem textS_none : textS 1 255 none = ([], none) := by
  have hn : numS 1 (none : Option (List UInt8)) = (0, none) := by unfold numS; rw [if_pos (by decide)]; rfl
  unfold textS
  rw [if_pos (show txt 1 = true by decide), hn]
  rfl
theorem textS_cons (c : UInt8) (l : List UInt8) : textS 1 255 (some (c :: l)) = if c.toNat ≤ l.length then (l.take c.toNat, some (l.drop c.toNat)) else ([], none) := by
  have hc := c.toNat_lt
  have hn : numS 1 (some (c :: l)) = (c.toNat, some l) := by
    unfold numS
    rw [if_pos (by decide), show takeS 1 (some (c :: l)) = ([c], some l) from (takeS_ok 1 (c :: l) (by simp)).trans (by simp)]
    simp [numOf]
  unfold textS
  rw [if_pos (show txt 1 = true by decide), hn]
  unfold textT
  simp only
  rw [if_neg (by omega)]
  by_cases h : c.toNat ≤ l.length
  · rw [if_pos h, takeS_ok _ _ h]
  · rw [if_neg h, takeS_far _ _ (by omega)]

theorem drop_cons_getD (l : List UInt8) (k : Nat) (h : k < l.length) : l.drop k = l.getD k 0 :: l.drop (k + 1) := by
  rw [List.drop_eq_getElem_cons h]
  simp [List.getD, h]

theorem numS4 (l : List UInt8) : numS 4 (some l) = if 4 ≤ l.length then (numOf (l.take 4), some (l.drop 4)) else (0, none) := by
  unfold numS
  rw [if_pos (by decide)]
  by_cases h : 4 ≤ l.length
  · rw [if_pos h, show takeS 4 (some l) = (l.take 4, some (l.drop 4)) from takeS_ok 4 l h]
  · rw [if_neg h, show takeS 4 (some l) = ([], none) from takeS_far 4 l (by omega)]
    rfl

theorem gx_short (l : List UInt8) (h : getD l = none) : (gx3 l).2 = none := by
  unfold gx3 gx2 gx1
  rw [numS4]
  by_cases h4 : 4 ≤ l.length
  · rw [if_pos h4]
    simp only
    by_cases h5 : l.length < 5
    · rw [List.drop_of_length_le (by omega), textS_nil]
      simp only [textS_none]
    · rw [drop_cons_getD l 4 (by omega), textS_cons]
      unfold getD at h
      rw [if_neg h5] at h
      by_cases h6 : l.length < 6 + (l.getD 4 0).toNat
      · by_cases h7 : (l.getD 4 0).toNat ≤ (l.drop (4 + 1)).length
        · rw [if_pos h7]
          simp only [List.length_drop] at h7
          simp only [List.drop_drop]
          rw [List.drop_of_length_le (by omega), textS_nil]
        · rw [if_neg h7]
          simp only [textS_none]
      · rw [if_neg h6] at h
        rw [if_pos (by rw [List.length_drop]; omega)]
        simp only [List.drop_drop]
        rw [drop_cons_getD l _ (by omega), textS_cons]
        by_cases h8 : l.length < 6 + (l.getD 4 0).toNat + (l.getD (5 + (l.getD 4 0).toNat) 0).toNat
        · rw [if_neg]
          rw [show 4 + 1 + (l.getD 4 0).toNat = 5 + (l.getD 4 0).toNat by omega]
          simp only [List.length_drop]
          omega
        · rw [if_neg h8] at h
          cases h
  · rw [if_neg h4]
    simp only [textS_none]

theorem gx_some (l : List UInt8) (f : Nat) (g h : List UInt8) (c : Nat) (hg : getD l = some (f, g, h, c)) : (gx1 l).1 = f ∧ (gx2 l).1 = g ∧ (gx3 l).1 = h ∧ (gx3 l).2 = some (l.drop c) ∧ c ≤ l.length := by
  unfold getD at hg
  split at hg
  · cases hg
  · rename_i h5
    split at hg
    · cases hg
    · rename_i h6
      split at hg
      · cases hg
      · rename_i h8
        simp only [Option.some.injEq, Prod.mk.injEq] at hg
        obtain ⟨e1, e2, e3, e4⟩ := hg
        have hgx1 : gx1 l = (numOf (l.take 4), some (l.drop 4)) := by unfold gx1; rw [numS4, if_pos (by omega)]
        have hgx2 : gx2 l = ((l.drop 5).take (l.getD 4 0).toNat, some (l.drop (5 + (l.getD 4 0).toNat))) := by
          unfold gx2
          rw [hgx1]
          simp only
          rw [drop_cons_getD l 4 (by omega), textS_cons, if_pos (by rw [List.length_drop]; omega)]
          simp only [List.drop_drop]
        have hgx3 : gx3 l = ((l.drop (6 + (l.getD 4 0).toNat)).take (l.getD (5 + (l.getD 4 0).toNat) 0).toNat, some (l.drop (6 + (l.getD 4 0).toNat + (l.getD (5 + (l.getD 4 0).toNat) 0).toNat))) := by
          unfold gx3
          rw [hgx2]
          simp only
          rw [drop_cons_getD l _ (by omega), textS_cons, if_pos (by rw [List.length_drop]; omega)]
          simp only [List.drop_drop]
          rw [show 5 + (l.getD 4 0).toNat + 1 = 6 + (l.getD 4 0).toNat by omega]
        rw [hgx1, hgx2, hgx3]
        exact ⟨e1, e2, e3, by rw [← e4], by omega⟩

/-- A front of 516 bytes tells all. -/
theorem getD_take (l : List UInt8) : getD (l.take 516) = getD l := by
  by_cases h : l.length ≤ 516
  · rw [List.take_of_length_le h]
  · have hl : (l.take 516).length = 516 := by simp; omega
    have hg : ∀ k, k < 516 → (l.take 516).getD k 0 = l.getD k 0 := fun k hk => by simp [List.getD, List.getElem?_take, hk]
    have ha := (l.getD 4 0).toNat_lt
    have hb := (l.getD (5 + (l.getD 4 0).toNat) 0).toNat_lt
    unfold getD
    rw [hl, hg 4 (by omega), hg (5 + (l.getD 4 0).toNat) (by omega)]
    rw [if_neg (by omega), if_neg (by omega), if_neg (by omega), if_neg (by omega), if_neg (by omega), if_neg (by omega)]
    have t1 : (l.take 516).take 4 = l.take 4 := by rw [List.take_take]; congr 1
    have t2 : ∀ a k, a + k ≤ 516 → ((l.take 516).drop a).take k = (l.drop a).take k := fun a k hk => by
      rw [List.drop_take, List.take_take]
      congr 1
      omega
    rw [t1, t2 _ _ (by omega), t2 _ _ (by omega)]

end Go.Proofs.YtalcfglcbpkebaaDoor
