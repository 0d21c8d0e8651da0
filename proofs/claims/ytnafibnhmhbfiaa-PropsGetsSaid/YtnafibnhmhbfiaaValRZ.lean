/-
  The document's own test of UTF-8, byte by byte, is the model's.
  Conditions: none.
-/
import Derived.Lib.ValidLaws
import Derived.Test.YtnafibnhmhbfiaaV5GZ
import Derived.Test.YtnafibnhmhbfiaaValDZ
namespace Go.Proofs.Ytnafibnhmhbfiaa
open Go.RowKit
set_option linter.unusedVariables false
set_option linter.unusedSimpArgs false

theorem utf8_tail (n lo hi : Nat) (hn : n = 2 ∨ n = 3 ∨ n = 4) (r : List UInt8) (c : UInt8) (X : List UInt8 → Bool) :
    (match Lib.checkN (c :: r).length ((c :: r).getD 1 0).toNat ((c :: r).getD 2 0).toNat ((c :: r).getD 3 0).toNat n lo hi with | none => false | some k => X ((c :: r).drop k)) =
    (decide (n ≠ 0 ∧ n ≤ r.length + 1) && contD lo hi (r.take (n - 1)) && X (r.drop (n - 1))) := by
  rcases hn with rfl | rfl | rfl
  · match r with
    | [] => simp [Lib.checkN]
    | x :: r' =>
      by_cases h : lo ≤ x.toNat ∧ x.toNat ≤ hi
      · have h1 : ¬ (r'.length + 1 + 1 < 2 ∨ x.toNat < lo ∨ hi < x.toNat) := by omega
        simp [Lib.checkN, contD, h, h1]
      · have h1 : (r'.length + 1 + 1 < 2 ∨ x.toNat < lo ∨ hi < x.toNat) := by omega
        simp [Lib.checkN, contD, h, h1]
  · match r with
    | [] => simp [Lib.checkN]
    | [x] => simp [Lib.checkN]
    | x :: y :: r' =>
      by_cases h : (lo ≤ x.toNat ∧ x.toNat ≤ hi) ∧ (128 ≤ y.toNat ∧ y.toNat ≤ 191)
      · have h1 : ¬ (r'.length + 1 + 1 + 1 < 3 ∨ x.toNat < lo ∨ hi < x.toNat ∨ y.toNat < 128 ∨ 191 < y.toNat) := by omega
        simp [Lib.checkN, contD, h.1, h.2, h1]
      · have h1 : (r'.length + 1 + 1 + 1 < 3 ∨ x.toNat < lo ∨ hi < x.toNat ∨ y.toNat < 128 ∨ 191 < y.toNat) := by omega
        have h2 : contD lo hi [x, y] = false := by
          simp only [contD, Bool.and_true]
          rw [← Bool.decide_and, decide_eq_false h]
        simp [Lib.checkN, h1, h2]
  · match r with
    | [] => simp [Lib.checkN]
    | [x] => simp [Lib.checkN]
    | [x, y] => simp [Lib.checkN]
    | x :: y :: z :: r' =>
      by_cases h : (lo ≤ x.toNat ∧ x.toNat ≤ hi) ∧ (128 ≤ y.toNat ∧ y.toNat ≤ 191) ∧ (128 ≤ z.toNat ∧ z.toNat ≤ 191)
      · have h1 : ¬ (r'.length + 1 + 1 + 1 + 1 < 4 ∨ x.toNat < lo ∨ hi < x.toNat ∨ y.toNat < 128 ∨ 191 < y.toNat ∨ z.toNat < 128 ∨ 191 < z.toNat) := by omega
        simp [Lib.checkN, contD, h.1, h.2.1, h.2.2, h1]
      · have h1 : (r'.length + 1 + 1 + 1 + 1 < 4 ∨ x.toNat < lo ∨ hi < x.toNat ∨ y.toNat < 128 ∨ 191 < y.toNat ∨ z.toNat < 128 ∨ 191 < z.toNat) := by omega
        have h2 : contD lo hi [x, y, z] = false := by
          simp only [contD, Bool.and_true]
          rw [← Bool.decide_and, ← Bool.decide_and, decide_eq_false h]
        simp [Lib.checkN, h1, h2]

theorem lead_first (c : Nat) (h0 : 128 ≤ c) (h1 : c < 256) :
    ((leadD c).1 = 0 ∧ Lib.firstT c % 8 = 1) ∨ (((leadD c).1 = 2 ∨ (leadD c).1 = 3 ∨ (leadD c).1 = 4) ∧ Lib.firstT c % 8 = (leadD c).1 ∧ Lib.accLo (Lib.firstT c / 16) = (leadD c).2.1 ∧ Lib.accHi (Lib.firstT c / 16) = (leadD c).2.2) := by
  have key : ∀ c : Fin 256, 128 ≤ c.val → ((leadD c.val).1 = 0 ∧ Lib.firstT c.val % 8 = 1) ∨ (((leadD c.val).1 = 2 ∨ (leadD c.val).1 = 3 ∨ (leadD c.val).1 = 4) ∧ Lib.firstT c.val % 8 = (leadD c.val).1 ∧ Lib.accLo (Lib.firstT c.val / 16) = (leadD c.val).2.1 ∧ Lib.accHi (Lib.firstT c.val / 16) = (leadD c.val).2.2) := by decide +kernel
  exact key ⟨c, h1⟩ h0

theorem utf8_valid : ∀ (f : Nat) (l : List UInt8), l.length ≤ f → utf8D f l = Lib.validD l
  | _, [], _ => by cases ‹Nat› <;> rfl
  | 0, c :: r, h => by simp at h
  | f + 1, c :: r, h => by
    have hr : r.length ≤ f := by simpa using h
    by_cases hc : c.toNat < 128
    · have hl : leadD c.toNat = (1, 128, 191) := by unfold leadD; rw [if_pos hc]
      rw [Lib.validD_cons c r hc, ← utf8_valid f r hr]
      simp [utf8D, hl, contD]
    · rw [Lib.validD_lead (c :: r) (by simp) (by simpa using hc)]
      simp only [List.getD_cons_zero]
      rcases lead_first c.toNat (by omega) c.toNat_lt with ⟨h1, h2⟩ | ⟨hn, h2, h3, h4⟩
      · rw [h2]
        simp [utf8D, h1, Lib.checkN]
      · rw [h2, h3, h4]
        refine Eq.trans ?_ (utf8_tail _ _ _ hn r c Lib.validD).symm
        simp only [utf8D]
        rw [utf8_valid f (r.drop ((leadD c.toNat).1 - 1)) (by simp; omega)]

theorem utf8_str (s : ByteArray) : utf8D s.size (sb s) = Lib.validD (sb s) := utf8_valid _ _ (by rw [sb_length]; exact Nat.le_refl _)

theorem keys_same (l : List ByteArray) : keysOK l ↔ keysP l := by
  unfold keysOK keyOK keysP keyB
  constructor
  · intro h
    refine ⟨fun x hx => ?_, ?_⟩
    · obtain ⟨i, hi, rfl⟩ := List.getElem_of_mem hx
      have := h i hi
      rw [utf8_str] at this
      exact ⟨this.1, this.2.1, this.2.2.1⟩
    · rw [List.nodup_iff_pairwise_ne, List.pairwise_iff_getElem]
      intro i j hi hj hij
      exact (h j hj).2.2.2 i hi hij
  · rintro ⟨h1, h2⟩ i hi
    obtain ⟨a, b, c⟩ := h1 _ (List.getElem_mem hi)
    rw [utf8_str]
    refine ⟨a, b, c, fun q hq hqi => ?_⟩
    rw [List.nodup_iff_pairwise_ne, List.pairwise_iff_getElem] at h2
    exact h2 q i hq hi hqi
end Go.Proofs.Ytnafibnhmhbfiaa
