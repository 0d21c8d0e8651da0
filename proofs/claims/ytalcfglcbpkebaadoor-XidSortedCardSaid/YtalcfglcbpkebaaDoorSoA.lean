/-
  Plain facts: rows of names without doubles: sorted by insertion, or by sorting and striking neighbours that are the same.
  Conditions: none. Nothing here speaks of the program's runs.
-/
import Derived.Test.YtalcfglcbpkebaaDoorXiV
namespace Go.Proofs.YtalcfglcbpkebaaDoor
open Go.RowKit
set_option linter.unusedVariables false
set_option linter.unusedSimpArgs false

set_option linter.unusedSectionVars false
theorem snocRec {α : Type} {motive : List α → Prop} (l : List α) (nil : motive []) (append_singleton : ∀ (a : List α) (x : α), motive a → motive (a ++ [x])) : motive l := by
  have h : ∀ r : List α, motive r.reverse := by
    intro r
    induction r with
    | nil => exact nil
    | cons x r ih => rw [List.reverse_cons]; exact append_singleton _ _ ih
  have := h l.reverse
  rwa [List.reverse_reverse] at this

section
variable {α : Type} [DecidableEq α] {c : α → α → Int}

/-- x put into its place, if it is not there yet. -/
def insD (c : α → α → Int) (x : α) : List α → List α
  | [] => [x]
  | y :: r => if c y x < 0 then y :: insD c x r else if y = x then y :: r else x :: y :: r
/-- All that are meant, put into place one by one. -/
def sortD (c : α → α → Int) (p : α → Bool) (l : List α) : List α := l.foldl (fun a x => if p x then insD c x a else a) []

/-- Neighbours that are the same, once. -/
def dedupS (s : List α × Option α) (x : α) : List α × Option α := if s.2 = some x then s else (s.1 ++ [x], some x)
def dedupD (l : List α) : List α := (l.foldl dedupS ([], none)).1

theorem dedup_last : ∀ l : List α, (l.foldl dedupS (([] : List α), none)).2 = l.getLast? := by
  intro l
  induction l using snocRec with
  | nil => rfl
  | append_singleton a x ih =>
    rw [List.foldl_append]
    simp only [List.foldl_cons, List.foldl_nil]
    unfold dedupS
    split
    · rename_i h
      rw [h]
      simp
    · simp
theorem dedup_snoc (a : List α) (x : α) : dedupD (a ++ [x]) = if a.getLast? = some x then dedupD a else dedupD a ++ [x] := by
  unfold dedupD
  rw [List.foldl_append]
  simp only [List.foldl_cons, List.foldl_nil]
  rw [← dedup_last a]
  unfold dedupS
  split <;> simp_all
theorem dedup_nil : dedupD ([] : List α) = [] := rfl
theorem dedup_length (l : List α) : (dedupD l).length ≤ l.length := by
  induction l using snocRec with
  | nil => simp [dedup_nil]
  | append_singleton a x ih =>
    rw [dedup_snoc]
    split <;> simp <;> omega

theorem ins_mem (hc : IsCmp c) (x : α) : ∀ (l : List α) (y : α), y ∈ insD c x l ↔ y = x ∨ y ∈ l
  | [], y => by simp [insD]
  | z :: r, y => by
    rw [insD]
    split
    · rw [List.mem_cons, ins_mem hc x r, List.mem_cons]
      constructor
      · rintro (h | h | h) <;> simp [h]
      · rintro (h | h | h) <;> simp [h]
    · split
      · rename_i h
        subst h
        simp
      · simp [List.mem_cons]
theorem ins_sorted (hc : IsCmp c) (x : α) : ∀ l : List α, l.Pairwise (fun a b => c a b < 0) → (insD c x l).Pairwise (fun a b => c a b < 0)
  | [], _ => by simp [insD]
  | z :: r, h => by
    rw [List.pairwise_cons] at h
    rw [insD]
    split
    · rename_i h1
      rw [List.pairwise_cons]
      refine ⟨fun y hy => ?_, ins_sorted hc x r h.2⟩
      rcases (ins_mem hc x r y).1 hy with rfl | hy
      · exact h1
      · exact h.1 y hy
    · split
      · rw [List.pairwise_cons]; exact h
      · rename_i h1 h2
        have h3 : c x z < 0 := by
          have := hc.anti z x
          rcases hc.rng z x with e | e | e
          · omega
          · exact absurd (hc.eq0 _ _ e) h2
          · omega
        rw [List.pairwise_cons, List.pairwise_cons]
        refine ⟨fun y hy => ?_, h⟩
        rcases List.mem_cons.1 hy with rfl | hy
        · exact h3
        · exact hc.strict _ _ _ h3 (by have := h.1 y hy; omega)
theorem sort_both (hc : IsCmp c) (p : α → Bool) (l : List α) : (sortD c p l).Pairwise (fun a b => c a b < 0) ∧ ∀ y, y ∈ sortD c p l ↔ y ∈ l ∧ p y = true := by
  unfold sortD
  induction l using snocRec with
  | nil => simp
  | append_singleton a x ih =>
    rw [List.foldl_append]
    simp only [List.foldl_cons, List.foldl_nil]
    split
    · rename_i h
      refine ⟨ins_sorted hc x _ ih.1, fun y => ?_⟩
      rw [ins_mem hc, ih.2]
      simp only [List.mem_append, List.mem_singleton]
      constructor
      · rintro (rfl | ⟨h1, h2⟩)
        · exact ⟨.inr rfl, h⟩
        · exact ⟨.inl h1, h2⟩
      · rintro ⟨h1 | h1, h2⟩
        · exact .inr ⟨h1, h2⟩
        · exact .inl h1
    · rename_i h
      refine ⟨ih.1, fun y => ?_⟩
      rw [ih.2]
      simp only [List.mem_append, List.mem_singleton]
      constructor
      · rintro ⟨h1, h2⟩
        exact ⟨.inl h1, h2⟩
      · rintro ⟨h1 | rfl, h2⟩
        · exact ⟨h1, h2⟩
        · exact absurd h2 h

theorem dedup_mem (l : List α) (y : α) : y ∈ dedupD l ↔ y ∈ l := by
  induction l using snocRec with
  | nil => simp [dedup_nil]
  | append_singleton a x ih =>
    rw [dedup_snoc]
    split
    · rename_i h
      rw [ih]
      have : x ∈ a := List.mem_of_getLast? h
      simp only [List.mem_append, List.mem_singleton]
      constructor
      · exact fun h => .inl h
      · rintro (h | rfl)
        · exact h
        · exact this
    · simp [ih]
theorem last_top (hc : IsCmp c) : ∀ (a : List α) (z : α), a.Pairwise (fun x y => c x y ≤ 0) → a.getLast? = some z → ∀ y ∈ a, c y z ≤ 0
  | [], z, _, h, _, _ => by simp at h
  | [x], z, _, h, y, hy => by
    simp at h hy
    subst h hy
    rw [hc.refl]
    omega
  | x :: x2 :: r, z, hp, h, y, hy => by
    rw [List.pairwise_cons] at hp
    rw [List.getLast?_cons_cons] at h
    rcases List.mem_cons.1 hy with rfl | hy
    · exact hp.1 z (List.mem_of_getLast? h)
    · exact last_top hc (x2 :: r) z hp.2 h y hy
theorem dedup_sorted (hc : IsCmp c) (l : List α) (h : l.Pairwise (fun a b => c a b ≤ 0)) : (dedupD l).Pairwise (fun a b => c a b < 0) := by
  induction l using snocRec with
  | nil => simp [dedup_nil]
  | append_singleton a x ih =>
    rw [List.pairwise_append] at h
    rw [dedup_snoc]
    split
    · exact ih h.1
    · rename_i hx
      rw [List.pairwise_append]
      refine ⟨ih h.1, by simp, fun y hy z hz => ?_⟩
      rw [List.mem_singleton] at hz
      subst hz
      have hya : y ∈ a := (dedup_mem a y).1 hy
      have h1 := h.2.2 y hya z (by simp)
      rcases hc.rng y z with e | e | e
      · omega
      · have e2 := hc.eq0 _ _ e
        subst e2
        cases hl : a.getLast? with
        | none => rw [List.getLast?_eq_none_iff] at hl; subst hl; simp at hya
        | some u =>
          have h2 := last_top hc a u h.1 hl y hya
          have h3 := h.2.2 u (List.mem_of_getLast? hl) y (by simp)
          have h4 := hc.anti u y
          have h5 := hc.eq0 u y (by omega)
          subst h5
          exact absurd hl hx
      · omega

theorem sorted_unique (hc : IsCmp c) : ∀ a b : List α, a.Pairwise (fun x y => c x y < 0) → b.Pairwise (fun x y => c x y < 0) → (∀ y, y ∈ a ↔ y ∈ b) → a = b
  | [], b, _, _, h => by
    cases b with
    | nil => rfl
    | cons y r => exact absurd ((h y).2 (by simp)) (by simp)
  | x :: a, b, ha, hb, h => by
    cases b with
    | nil => exact absurd ((h x).1 (by simp)) (by simp)
    | cons y b =>
      rw [List.pairwise_cons] at ha hb
      have e : x = y := by
        have h1 := (h x).1 (by simp)
        have h2 := (h y).2 (by simp)
        rcases List.mem_cons.1 h1 with h1 | h1
        · exact h1
        · rcases List.mem_cons.1 h2 with h2 | h2
          · exact h2.symm
          · have h3 := hb.1 x h1
            have h4 := ha.1 y h2
            have := hc.anti x y
            omega
      subst e
      congr 1
      refine sorted_unique hc a b ha.2 hb.2 fun z => ?_
      have hx := h z
      simp only [List.mem_cons] at hx
      constructor
      · intro hz
        rcases hx.1 (.inr hz) with rfl | h5
        · have := ha.1 z hz; rw [hc.refl] at this; omega
        · exact h5
      · intro hz
        rcases hx.2 (.inr hz) with rfl | h5
        · have := hb.1 z hz; rw [hc.refl] at this; omega
        · exact h5

theorem sort_dedup (hc : IsCmp c) (p : α → Bool) (l s : List α) (hp : s.Perm (l.filter p)) (hs : s.Pairwise (fun a b => c a b ≤ 0)) : dedupD s = sortD c p l := by
  refine sorted_unique hc _ _ (dedup_sorted hc s hs) (sort_both hc p l).1 fun y => ?_
  rw [dedup_mem, (sort_both hc p l).2, hp.mem_iff, List.mem_filter]
theorem sort_length (hc : IsCmp c) (p : α → Bool) (l : List α) : (sortD c p l).length ≤ l.length := by
  have : ∀ (x : α) (a : List α), (insD c x a).length ≤ a.length + 1 := by
    intro x a
    induction a with
    | nil => simp [insD]
    | cons y r ih => rw [insD]; split <;> (try split) <;> simp <;> omega
  unfold sortD
  induction l using snocRec with
  | nil => simp
  | append_singleton a x ih =>
    rw [List.foldl_append]
    simp only [List.foldl_cons, List.foldl_nil]
    split
    · have := this x (a.foldl (fun a x => if p x then insD c x a else a) [])
      simp; omega
    · simp; omega
end

end Go.Proofs.YtalcfglcbpkebaaDoor
