/-
  Plain facts: Compare of names is an order.
  Conditions: none. Nothing here speaks of the program's runs.
-/
import Derived.Test.YtalcfglcbpkebaaDoorXiB
namespace Go.Proofs.YtalcfglcbpkebaaDoor
open Go.RowKit
set_option linter.unusedVariables false
set_option linter.unusedSimpArgs false

/-- A comparison that is an order: -1, 0 or 1. -/
structure IsCmp {α : Type} (c : α → α → Int) : Prop where
  rng : ∀ a b, c a b = -1 ∨ c a b = 0 ∨ c a b = 1
  anti : ∀ a b, c b a = - c a b
  eq0 : ∀ a b, c a b = 0 → a = b
  tr : ∀ a b d, c a b ≤ 0 → c b d ≤ 0 → c a d ≤ 0
theorem IsCmp.refl {α : Type} {c : α → α → Int} (h : IsCmp c) (a : α) : c a a = 0 := by have := h.anti a a; omega
theorem IsCmp.strict {α : Type} {c : α → α → Int} (h : IsCmp c) (a b d : α) (h1 : c a b < 0) (h2 : c b d ≤ 0) : c a d < 0 := by
  have h3 := h.tr a b d (by omega) h2
  rcases h.rng a d with h4 | h4 | h4
  · omega
  · obtain rfl := h.eq0 a d h4
    have := h.anti a b
    omega
  · omega
theorem IsCmp.strict2 {α : Type} {c : α → α → Int} (h : IsCmp c) (a b d : α) (h1 : c a b ≤ 0) (h2 : c b d < 0) : c a d < 0 := by
  have h3 := h.tr a b d h1 (by omega)
  rcases h.rng a d with h4 | h4 | h4
  · omega
  · obtain rfl := h.eq0 a d h4
    have := h.anti a b
    omega
  · omega

/-- One behind the other. -/
def lex2 {α β : Type} (c : α → α → Int) (d : β → β → Int) (x y : α × β) : Int := if c x.1 y.1 ≠ 0 then c x.1 y.1 else d x.2 y.2
theorem lex2_is {α β : Type} {c : α → α → Int} {d : β → β → Int} (hc : IsCmp c) (hd : IsCmp d) : IsCmp (lex2 c d) where
  rng a b := by
    unfold lex2
    split
    · exact hc.rng _ _
    · exact hd.rng _ _
  anti a b := by
    unfold lex2
    have h1 := hc.anti a.1 b.1
    have h2 := hd.anti a.2 b.2
    by_cases h : c a.1 b.1 = 0
    · rw [if_neg (by omega), if_neg (by omega)]; exact h2
    · rw [if_pos (by omega), if_pos h]; exact h1
  eq0 a b h := by
    unfold lex2 at h
    split at h
    · omega
    · rename_i h1
      exact Prod.ext (hc.eq0 _ _ (by simpa using h1)) (hd.eq0 _ _ h)
  tr a b e h1 h2 := by
    unfold lex2 at *
    by_cases g1 : c a.1 b.1 = 0
    · have e1 := hc.eq0 _ _ g1
      rw [if_neg (by omega)] at h1
      rw [← e1] at h2
      by_cases g2 : c a.1 e.1 = 0
      · rw [if_neg (by omega)] at h2 ⊢
        exact hd.tr _ _ _ h1 h2
      · rw [if_pos g2] at h2 ⊢
        exact h2
    · rw [if_pos g1] at h1
      have h3 : c b.1 e.1 ≤ 0 := by
        by_cases g2 : c b.1 e.1 = 0
        · omega
        · rw [if_pos g2] at h2; exact h2
      have h4 := hc.strict _ _ _ (show c a.1 b.1 < 0 by omega) h3
      rw [if_pos (by omega)]
      omega

theorem cmpN_is : IsCmp cmpN where
  rng a b := by unfold cmpN; split <;> (try split) <;> omega
  anti a b := by unfold cmpN; repeat' split
                 all_goals omega
  eq0 a b h := by unfold cmpN at h; repeat' split at h
                  all_goals omega
  tr a b d h1 h2 := by
    unfold cmpN at *
    repeat' split at h1
    all_goals (repeat' split at h2)
    all_goals (repeat' split)
    all_goals omega

theorem cmpB_rng : ∀ a b : List UInt8, Lib.compareBytes a b = -1 ∨ Lib.compareBytes a b = 0 ∨ Lib.compareBytes a b = 1
  | [], [] => by simp [Lib.compareBytes]
  | [], _ :: _ => by simp [Lib.compareBytes]
  | _ :: _, [] => by simp [Lib.compareBytes]
  | x :: a, y :: b => by
    have ih := cmpB_rng a b
    rw [Lib.compareBytes]
    split
    · simp
    · split
      · simp
      · exact ih
theorem cmpB_cons (x y : UInt8) (a b : List UInt8) :
    Lib.compareBytes (x :: a) (y :: b) = if x.toNat < y.toNat then -1 else if y.toNat < x.toNat then 1 else Lib.compareBytes a b := by
  rw [Lib.compareBytes]
  rfl
theorem cmpB_anti : ∀ a b : List UInt8, Lib.compareBytes b a = - Lib.compareBytes a b
  | [], [] => by simp [Lib.compareBytes]
  | [], _ :: _ => by simp [Lib.compareBytes]
  | _ :: _, [] => by simp [Lib.compareBytes]
  | x :: a, y :: b => by
    have ih := cmpB_anti a b
    rw [cmpB_cons, cmpB_cons]
    by_cases h1 : x.toNat < y.toNat
    · rw [if_neg (by omega), if_pos h1, if_pos h1]; rfl
    · by_cases h2 : y.toNat < x.toNat
      · rw [if_pos h2, if_neg h1, if_pos h2]
      · rw [if_neg h2, if_neg h1, if_neg h1, if_neg h2]; exact ih
theorem cmpB_eq0 : ∀ a b : List UInt8, Lib.compareBytes a b = 0 → a = b
  | [], [], _ => rfl
  | [], _ :: _, h => by simp [Lib.compareBytes] at h
  | _ :: _, [], h => by simp [Lib.compareBytes] at h
  | x :: a, y :: b, h => by
    rw [cmpB_cons] at h
    split at h
    · simp at h
    · split at h
      · simp at h
      · rw [cmpB_eq0 a b h, UInt8.toNat_inj.1 (show x.toNat = y.toNat by omega)]
theorem cmpB_tr : ∀ a b d : List UInt8, Lib.compareBytes a b ≤ 0 → Lib.compareBytes b d ≤ 0 → Lib.compareBytes a d ≤ 0
  | [], _, [], _, _ => by simp [Lib.compareBytes]
  | [], _, _ :: _, _, _ => by simp [Lib.compareBytes]
  | _ :: _, [], _, h, _ => by simp [Lib.compareBytes] at h
  | _ :: _, _ :: _, [], _, h => by simp [Lib.compareBytes] at h
  | x :: a, y :: b, z :: d, h1, h2 => by
    have ih := cmpB_tr a b d
    rw [cmpB_cons] at h1 h2 ⊢
    by_cases g1 : x.toNat < y.toNat
    · by_cases g2 : z.toNat < y.toNat
      · rw [if_neg (by omega), if_pos g2] at h2; omega
      · rw [if_pos (by omega)]; omega
    · by_cases g1' : y.toNat < x.toNat
      · rw [if_neg g1, if_pos g1'] at h1; omega
      · rw [if_neg g1, if_neg g1'] at h1
        by_cases g2 : y.toNat < z.toNat
        · rw [if_pos (by omega)]; omega
        · by_cases g2' : z.toNat < y.toNat
          · rw [if_neg g2, if_pos g2'] at h2; omega
          · rw [if_neg g2, if_neg g2'] at h2
            rw [if_neg (by omega), if_neg (by omega)]
            exact ih h1 h2
theorem cmpB_is : IsCmp Lib.compareBytes := ⟨cmpB_rng, cmpB_anti, cmpB_eq0, cmpB_tr⟩

/-- A name as numbers and bytes. -/
def keyX (f : Nat) (g h : ByteArray) : Nat × List UInt8 × List UInt8 := (f, sb g, sb h)
theorem keyX_inj {f1 f2 : Nat} {g1 h1 g2 h2 : ByteArray} (h : keyX f1 g1 h1 = keyX f2 g2 h2) : f1 = f2 ∧ g1 = g2 ∧ h1 = h2 := by
  unfold keyX at h
  simp only [Prod.mk.injEq] at h
  exact ⟨h.1, sb_inj.1 h.2.1, sb_inj.1 h.2.2⟩
def cmpK : Nat × List UInt8 × List UInt8 → Nat × List UInt8 × List UInt8 → Int := lex2 cmpN (lex2 Lib.compareBytes Lib.compareBytes)
theorem cmpK_is : IsCmp cmpK := lex2_is cmpN_is (lex2_is cmpB_is cmpB_is)
theorem cmpX_key (f1 f2 : Nat) (g1 h1 g2 h2 : ByteArray) : cmpX f1 f2 g1 h1 g2 h2 = cmpK (keyX f1 g1 h1) (keyX f2 g2 h2) := rfl

end Go.Proofs.YtalcfglcbpkebaaDoor
