/-
  Where a tag is in a row of subscriptions, and what the document makes of that: without a program.
  Conditions: none.
-/
import Derived.Test.YtknfiiacalfelaaCrP
namespace Go.Proofs.Ytknfiiacalfelaa
set_option linter.unusedVariables false
set_option linter.unusedSimpArgs false

def idxA (t : Tg) : List (Tg × Nat) → Option Nat
  | [] => none
  | x :: r => if x.1 = t then some 0 else (idxA t r).map (· + 1)
theorem idxA_mid {t : Tg} {a b : List (Tg × Nat)} {x : Tg × Nat} (ha : ∀ y ∈ a, y.1 ≠ t) (hx : x.1 = t) : idxA t (a ++ x :: b) = some a.length := by
  induction a with
  | nil => simp [idxA, hx]
  | cons y r ih =>
    rw [List.cons_append, idxA, if_neg (ha y (by simp)), ih (fun z hz => ha z (by simp [hz]))]
    simp
theorem idxA_none {t : Tg} {l : List (Tg × Nat)} (h : ∀ y ∈ l, y.1 ≠ t) : idxA t l = none := by
  induction l with
  | nil => rfl
  | cons y r ih =>
    rw [idxA, if_neg (h y (by simp)), ih (fun z hz => h z (by simp [hz]))]
    rfl
theorem idxA_at {t : Tg} {l : List (Tg × Nat)} {i : Nat} (hi : i < l.length) (h : l[i].1 = t) (hb : ∀ j (hj : j < l.length), j < i → l[j].1 ≠ t) : idxA t l = some i := by
  have e : l.take i ++ l[i] :: l.drop (i + 1) = l := by rw [← List.drop_eq_getElem_cons hi, List.take_append_drop]
  have ha : ∀ y ∈ l.take i, y.1 ≠ t := fun y hy => by
    obtain ⟨j, hj, rfl⟩ := List.getElem_of_mem hy
    rw [List.length_take] at hj
    rw [List.getElem_take]
    exact hb j (by omega) (by omega)
  have := idxA_mid (b := l.drop (i + 1)) ha h
  rw [e, List.length_take, Nat.min_eq_left (Nat.le_of_lt hi)] at this
  exact this
theorem idxA_all {t : Tg} {l : List (Tg × Nat)} (hb : ∀ j (hj : j < l.length), l[j].1 ≠ t) : idxA t l = none := idxA_none fun y hy => by
  obtain ⟨j, hj, rfl⟩ := List.getElem_of_mem hy
  exact hb j hj
/-- All that is told of a tag that is there. -/
structure FoundA (t : Tg) (l : List (Tg × Nat)) (i : Nat) : Prop where
  lt : i < l.length
  idx : idxA t l = some i
  tag : ∀ h : i < l.length, l[i].1 = t
  upd : ∀ (h : i < l.length) (f : Nat → Nat), updA t f l = l.set i (t, f l[i].2)
  del : delA t l = l.take i ++ l.drop (i + 1)
  prev0 : i = 0 → prevA t [] l = []
  prev1 : ∀ h : i - 1 < l.length, 0 < i → prevA t [] l = l[i - 1].1
  rot : rotA t [] l = l.drop (i + 1) ++ l.take (i + 1)
theorem foundA {t : Tg} {l : List (Tg × Nat)} (hn : (l.map (·.1)).Nodup) (h : (getA t l).isSome = true) : ∃ i, FoundA t l i := by
  obtain ⟨a, x, b, rfl, rfl, _⟩ := getA_split h
  have hm := mid_nodup hn
  have hp := prevA_mid (x := x) (b := b) hm.1 []
  have hr := rotA_mid (x := x) (b := b) hm.1 []
  refine ⟨a.length, ?_⟩
  refine { lt := by simp, idx := idxA_mid hm.1 rfl, tag := fun h => by simp, upd := fun h f => ?_, del := ?_, prev0 := fun h => ?_, prev1 := fun h1 h => ?_, rot := ?_ }
  · rw [updA_mid hn]; simp
  · rw [delA_midC hn]; simp [List.drop_append]
  · have : a = [] := List.length_eq_zero_iff.1 h
    subst this
    rw [hp]; rfl
  · rw [hp]
    rcases List.eq_nil_or_concat a with rfl | ⟨a', y, rfl⟩
    · simp at h
    · simp
  · have e1 : List.drop (a.length + 1) a = [] := List.drop_eq_nil_of_le (by omega)
    have e2 : List.take (a.length + 1) a = a := List.take_of_length_le (by omega)
    rw [hr]; simp [List.drop_append, List.take_append, e1, e2]
theorem notA {t : Tg} {l : List (Tg × Nat)} (h : ¬ (getA t l).isSome = true) : idxA t l = none := idxA_none (getA_no h).1
theorem isSome_of_idx {t : Tg} {l : List (Tg × Nat)} : (idxA t l).isSome = (getA t l).isSome := by
  induction l with
  | nil => rfl
  | cons y r ih =>
    unfold idxA getA
    by_cases c : y.1 = t
    · rw [if_pos c, if_pos c]; rfl
    · rw [if_neg c, if_neg c, Option.isSome_map]; exact ih
/-- The order of a turn. -/
abbrev ordA (a n : Nat) : List Nat := (List.range n).drop a ++ List.range a
theorem ordA_len {a n : Nat} (h : a ≤ n) : (ordA a n).length = n := by simp [ordA]; omega
theorem ord1_snoc {a j : Nat} (h : a ≤ j) : (List.range j).drop a ++ [j] = (List.range (j + 1)).drop a := by
  rw [List.range_succ, List.drop_append_of_le_length (by simpa using h)]
theorem ord2_snoc {a n j : Nat} : ((List.range n).drop a ++ List.range j) ++ [j] = (List.range n).drop a ++ List.range (j + 1) := by
  rw [List.range_succ, List.append_assoc]
theorem ordA_get {a n k : Nat} (ha : a ≤ n) (hk : k < n) (l : List (Tg × Nat)) (hl : l.length = n) : ∃ i, ∃ h : k < (ordA a n).length, ∃ hi : i < l.length, ∃ hr : k < (l.drop a ++ l.take a).length, (ordA a n)[k] = i ∧ (l.drop a ++ l.take a)[k] = l[i] := by
  subst hl
  have h1 : k < (ordA a l.length).length := by rw [ordA_len ha]; exact hk
  by_cases c : k < l.length - a
  · refine ⟨a + k, h1, by omega, by simp; omega, ?_, ?_⟩
    · rw [List.getElem_append_left (by simp; exact c)]
      simp
    · rw [List.getElem_append_left (by simp; exact c)]
      simp
  · refine ⟨k - (l.length - a), h1, by omega, by simp; omega, ?_, ?_⟩
    · rw [List.getElem_append_right (by simp; omega)]
      simp
    · rw [List.getElem_append_right (by simp; omega)]
      simp
theorem rot_find {R : List (Tg × Nat)} {p : Tg × Nat → Bool} {k : Nat} (hk : k < R.length) (h : p R[k] = true) (hb : ∀ j (hj : j < R.length), j < k → p R[j] = false) : R.find? p = some R[k] := by
  rw [List.find?_eq_some_iff_getElem]
  exact ⟨h, k, hk, rfl, fun j hj => by simp [hb j (by omega) hj]⟩
theorem rot_findN {R : List (Tg × Nat)} {p : Tg × Nat → Bool} (hb : ∀ j (hj : j < R.length), p R[j] = false) : R.find? p = none := by
  rw [List.find?_eq_none]
  intro x hx
  obtain ⟨j, hj, rfl⟩ := List.getElem_of_mem hx
  simp [hb j hj]
/-- From where a turn goes round. -/
theorem rot_from {s : CP} (h : s.ok) : ∃ a, a ≤ s.l.length ∧ (match idxA s.last s.l with | none => (0 : Nat) | some i => i + 1) = a ∧ rotA s.last [] s.l = s.l.drop a ++ s.l.take a := by
  by_cases hs : (getA s.last s.l).isSome = true
  · obtain ⟨i, hf⟩ := foundA h.nod hs
    have := hf.lt
    exact ⟨i + 1, by omega, by rw [hf.idx], hf.rot⟩
  · refine ⟨0, by omega, by rw [notA hs], ?_⟩
    rw [rotA_none (getA_no hs).1]
    simp

end Go.Proofs.Ytknfiiacalfelaa
