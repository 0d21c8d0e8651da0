/-
  Sets as lists of intervals, of no program: canonical lists, their members, that a set has one canonical list, how many members it has, and the document's sweep over edges.
  Conditions: none.
-/
import Derived.Test.YtpbdnfonflmncaaGreatMemZ
namespace Go.Proofs.YtpbdnfonflmncaaGreat
set_option linter.unusedVariables false
abbrev Sp := Nat × Nat
def memS (l : List Sp) (n : Nat) : Prop := ∃ s ∈ l, s.1 ≤ n ∧ n ≤ s.2
instance (l : List Sp) (n : Nat) : Decidable (memS l n) := by unfold memS; infer_instance
def canonFrom : Nat → List Sp → Prop
  | _, [] => True
  | b, s :: l => b ≤ s.1 ∧ s.1 ≤ s.2 ∧ canonFrom (s.2 + 2) l
instance : ∀ (b : Nat) (l : List Sp), Decidable (canonFrom b l)
  | _, [] => by unfold canonFrom; infer_instance
  | b, s :: l => by
    unfold canonFrom
    have : Decidable (canonFrom (s.2 + 2) l) := instDecidableCanonFrom _ l
    infer_instance
def canon (l : List Sp) : Prop := canonFrom 0 l
instance (l : List Sp) : Decidable (canon l) := by unfold canon; infer_instance
def cnt (p : Nat → Bool) : Nat → Nat
  | 0 => 0
  | n + 1 => cnt p n + (if p n then 1 else 0)
def cntS : List Sp → Nat
  | [] => 0
  | s :: l => (s.2 - s.1 + 1) + cntS l
theorem canon_iff (l : List Sp) : canon l ↔ ∀ k (h : k < l.length), l[k].1 ≤ l[k].2 ∧ (0 < k → ∀ (h' : k - 1 < l.length), l[k - 1].2 + 2 ≤ l[k].1) := by
 have aux : ∀ (l : List Sp) (b : Nat), canonFrom b l ↔ (∀ (h : 0 < l.length), b ≤ l[0].1) ∧ ∀ k (h : k < l.length), l[k].1 ≤ l[k].2 ∧ (0 < k → ∀ (h' : k - 1 < l.length), l[k - 1].2 + 2 ≤ l[k].1) := by
  intro l
  induction l with
  | nil => intro b; exact ⟨fun _ => ⟨fun h => absurd h (by simp), fun k h => absurd h (by simp)⟩, fun _ => trivial⟩
  | cons s l ih =>
   intro b
   constructor
   ·rintro ⟨h1, h2, h3⟩
    obtain ⟨g1, g2⟩ := (ih _).1 h3
    refine ⟨fun _ => h1, fun k h => ?_⟩
    cases k with
    | zero => exact ⟨h2, fun h => absurd h (by omega)⟩
    | succ k =>
     have hk : k < l.length := by simpa using h
     obtain ⟨q1, q2⟩ := g2 k hk
     refine ⟨by simpa using q1, fun _ h' => ?_⟩
     cases k with
     | zero => simpa using g1 hk
     | succ k => simpa using q2 (by omega) (by simpa using Nat.lt_of_succ_lt hk)
   ·rintro ⟨h1, h2⟩
    have hs := (h2 0 (by simp)).1
    refine ⟨h1 (by simp), hs, (ih _).2 ⟨fun hl => ?_, fun k hk => ?_⟩⟩
    ·have := (h2 1 (by simpa using hl)).2 (by omega) (by simp)
     simpa using this
    ·have := h2 (k + 1) (by simpa using hk)
     refine ⟨by simpa using this.1, fun hk0 h' => ?_⟩
     have h3 := this.2 (by omega) (by simp; omega)
     cases k with
     | zero => omega
     | succ k => simpa using h3
 rw [canon, aux]
 exact ⟨fun h => h.2, fun h => ⟨fun _ => Nat.zero_le _, h⟩⟩
def rising (e : List Nat) : Prop := ∀ i j (hi : i < e.length) (hj : j < e.length), i < j → e[i] < e[j]
def edgesOf (l : List Sp) (e : List Nat) : Prop := rising e ∧ ∀ x, x ∈ e ↔ ∃ s ∈ l, x = s.1 ∨ x = s.2 + 1
def swept (op : Nat → Prop) (e : List Nat) (i : Nat) (out : List Sp) : Prop :=
  canon out ∧ ∀ (h : i < e.length), (∀ s ∈ out, s.2 < e[i]) ∧ ∀ n, memS out n ↔ n < e[i] ∧ op n
section
variable {op : Nat → Prop} {e : List Nat} {i : Nat} {out : List Sp}
end
end Go.Proofs.YtpbdnfonflmncaaGreat
