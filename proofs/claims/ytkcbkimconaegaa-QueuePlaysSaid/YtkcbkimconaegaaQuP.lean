/-
  Without the program: a queue as a row of numbers and owners, and what each call of it answers.
  Conditions: none.
-/
import Derived.Test.YtkcbkimconaegaaGen
namespace Go.Proofs.Ytkcbkimconaegaa
open Go.RowKit
set_option linter.unusedVariables false
set_option linter.unusedSimpArgs false

/-- A queue: its limit, its messages with their owners (0: none), what is reserved, the greatest number so far. -/
structure QP where
  lim : Nat
  l : List (Nat × Nat)
  kept : Nat
  last : Nat
/-- What a queue keeps. -/
structure QP.ok (q : QP) : Prop where
  lim : q.lim ≤ 4611686018427387904
  fit : q.l.length + q.kept ≤ q.lim
  ms : ∀ x ∈ q.l, x.1 < 18446744073709551616 ∧ x.2 < 18446744073709551616
  last : q.last < 18446744073709551616
  asc : (q.l.map (·.1)).Pairwise (· < ·)
  top : ∀ x ∈ q.l, x.1 ≤ q.last
def QP.room (q : QP) : Nat := q.lim - (q.l.length + q.kept)
def QP.add (q : QP) (id : Nat) : QP := { q with l := q.l ++ [(id, 0)], last := id }
def QP.put (q : QP) (id : Nat) : Nat × QP := if id ≤ q.last then (2, q) else if q.room = 0 then (6, q) else (0, q.add id)
def QP.keep (q : QP) (n : Int) : Nat × QP := if n < 0 then (2, q) else if (q.room : Int) < n then (6, q) else (0, { q with kept := q.kept + n.toNat })
def QP.give (q : QP) (n : Int) : Nat × QP := if n < 0 ∨ (q.kept : Int) < n then (2, q) else (0, { q with kept := q.kept - n.toNat })
def QP.fill (q : QP) (id : Nat) : Nat × QP := if id ≤ q.last then (2, q) else if q.kept = 0 then (7, q) else (0, { (q.add id) with kept := q.kept - 1 })
/-- The place of the first one that is so. -/
def placeQ (p : Nat × Nat → Bool) : List (Nat × Nat) → Option Nat
  | [] => none
  | x :: r => if p x = true then some 0 else (placeQ p r).map (· + 1)
def QP.at_ (q : QP) (i : Nat) : Nat × Nat := q.l.getD i (0, 0)
def QP.find (q : QP) (id : Nat) : Option Nat := placeQ (fun x => decide (x.1 = id)) q.l
def QP.own (q : QP) (i ow : Nat) : QP := { q with l := q.l.set i ((q.at_ i).1, ow) }
def QP.next (q : QP) (ow : Nat) : (Nat × Bool) × QP := if ow = 0 then ((0, false), q) else match placeQ (fun x => decide (x.2 = 0)) q.l with
  | none => ((0, false), q)
  | some i => (((q.at_ i).1, true), q.own i ow)
def QP.pass (q : QP) (id f t : Nat) : Nat × QP := match q.find id with
  | none => (7, q)
  | some i => if (q.at_ i).2 ≠ f then (9, q) else (0, q.own i t)
def QP.drop (q : QP) (id ow : Nat) : Nat × QP := match q.find id with
  | none => (7, q)
  | some i => if ow = 0 ∨ (q.at_ i).2 ≠ ow then (9, q) else (0, { q with l := q.l.take i ++ q.l.drop (i + 1) })
def ofQ (ow : Nat) (l : List (Nat × Nat)) : List Nat := (l.filter fun x => decide (x.2 = ow)).map (·.1)
def allQ (l : List (Nat × Nat)) : List Nat := l.map (·.1)
def heldQ (l : List (Nat × Nat)) : List (Nat × Nat) := l.filter fun x => decide (x.2 ≠ 0)
def QP.purge (q : QP) : List Nat × QP := (ofQ 0 q.l, { q with l := heldQ q.l })

theorem placeQ_none {p : Nat × Nat → Bool} : ∀ {l : List (Nat × Nat)}, (∀ j (h : j < l.length), p l[j] = false) → placeQ p l = none
  | [], _ => rfl
  | x :: r, h => by
    have h0 := h 0 (by simp)
    have h1 := placeQ_none (l := r) (fun j hj => h (j + 1) (by simpa using hj))
    unfold placeQ
    simp only [List.getElem_cons_zero] at h0
    rw [h0, h1]
    rfl
theorem placeQ_some {p : Nat × Nat → Bool} : ∀ {l : List (Nat × Nat)} {i : Nat} (hi : i < l.length), p l[i] = true → (∀ j (h : j < l.length), j < i → p l[j] = false) → placeQ p l = some i
  | x :: r, 0, hi, h, _ => by
    unfold placeQ
    simp only [List.getElem_cons_zero] at h
    rw [if_pos h]
  | x :: r, i + 1, hi, h, hb => by
    have h0 := hb 0 (by simp) (by omega)
    have h1 := placeQ_some (l := r) (i := i) (by simpa using hi) (by simpa using h) (fun j hj hji => hb (j + 1) (by simpa using hj) (by omega))
    unfold placeQ
    simp only [List.getElem_cons_zero] at h0
    rw [h0, h1]
    rfl
theorem placeQ_at {p : Nat × Nat → Bool} : ∀ {l : List (Nat × Nat)} {i : Nat}, placeQ p l = some i → ∃ h : i < l.length, p l[i] = true
  | [], i, h => by cases h
  | x :: r, i, h => by
    unfold placeQ at h
    split at h
    · rename_i hp
      cases h
      exact ⟨by simp, hp⟩
    · cases hr : placeQ p r with
      | none => rw [hr] at h; cases h
      | some j =>
        rw [hr] at h
        obtain rfl : j + 1 = i := Option.some.inj h
        obtain ⟨h1, h2⟩ := placeQ_at hr
        exact ⟨by simpa using h1, by simpa using h2⟩
theorem QP.at_get {q : QP} {i : Nat} (h : i < q.l.length) : q.at_ i = q.l[i] := by simp [QP.at_, List.getD, h]
section
variable {q : QP}
theorem QP.add_asc {id : Nat} (h : q.ok) (hl : q.last < id) : ((q.l ++ [((id, 0) : Nat × Nat)]).map (fun x : Nat × Nat => x.1)).Pairwise (· < ·) ∧ ∀ x ∈ q.l ++ [((id, 0) : Nat × Nat)], x.1 ≤ id := by
  refine ⟨?_, fun x hx => ?_⟩
  · rw [List.map_append, List.pairwise_append]
    refine ⟨h.asc, by simp, fun a ha b hb => ?_⟩
    obtain ⟨x, hx, rfl⟩ := List.mem_map.1 ha
    simp at hb
    subst hb
    exact Nat.lt_of_le_of_lt (h.top x hx) hl
  · rcases List.mem_append.1 hx with hx | hx
    · exact Nat.le_of_lt (Nat.lt_of_le_of_lt (h.top x hx) hl)
    · simp at hx
      subst hx
      exact Nat.le_refl _
theorem QP.ok.add {id : Nat} (h : q.ok) (hi : id < 18446744073709551616) (hl : q.last < id) (hf : q.l.length + 1 + q.kept ≤ q.lim) : (q.add id).ok :=
  ⟨h.lim, by simp only [QP.add, List.length_append, List.length_singleton]; exact hf, fun x hx => by
    simp only [QP.add, List.mem_append, List.mem_singleton] at hx
    rcases hx with hx | rfl
    · exact h.ms x hx
    · exact ⟨hi, by omega⟩, hi, (QP.add_asc h hl).1, (QP.add_asc h hl).2⟩
theorem QP.ok.put {id : Nat} (h : q.ok) (hi : id < 18446744073709551616) : (q.put id).2.ok := by
  unfold QP.put
  split
  · exact h
  · split
    · exact h
    · rename_i h0 hr
      have := h.fit
      exact h.add hi (by omega) (by unfold QP.room at hr; omega)
theorem QP.ok.keep {n : Int} (h : q.ok) : (q.keep n).2.ok := by
  unfold QP.keep
  split
  · exact h
  · split
    · exact h
    · rename_i h1 h2
      have := h.fit
      exact ⟨h.lim, by show q.l.length + (q.kept + n.toNat) ≤ q.lim; unfold QP.room at h2; omega, h.ms, h.last, h.asc, h.top⟩
theorem QP.ok.give {n : Int} (h : q.ok) : (q.give n).2.ok := by
  unfold QP.give
  split
  · exact h
  · have := h.fit
    exact ⟨h.lim, by show q.l.length + (q.kept - n.toNat) ≤ q.lim; omega, h.ms, h.last, h.asc, h.top⟩
theorem QP.ok.fill {id : Nat} (h : q.ok) (hi : id < 18446744073709551616) : (q.fill id).2.ok := by
  unfold QP.fill
  split
  · exact h
  · split
    · exact h
    · rename_i h0 _
      have := h.fit
      have hl : q.last < id := by omega
      refine ⟨h.lim, ?_, fun x hx => ?_, hi, (QP.add_asc h hl).1, (QP.add_asc h hl).2⟩
      · show (q.l ++ [(id, 0)]).length + (q.kept - 1) ≤ q.lim
        rw [List.length_append, List.length_singleton]
        omega
      · simp only [QP.add, List.mem_append, List.mem_singleton] at hx
        rcases hx with hx | rfl
        · exact h.ms x hx
        · exact ⟨hi, by omega⟩
theorem QP.own_map (q : QP) (i ow : Nat) : (q.own i ow).l.map (·.1) = q.l.map (·.1) := by
  show (q.l.set i ((q.at_ i).1, ow)).map (·.1) = _
  apply List.ext_getElem (by simp)
  intro j h1 h2
  rw [List.getElem_map, List.getElem_map, List.getElem_set]
  split
  · rename_i e
    subst e
    rw [QP.at_get (by simpa using h2)]
  · rfl
theorem QP.ok.own {i ow : Nat} (h : q.ok) (ho : ow < 18446744073709551616) : (q.own i ow).ok := by
  refine ⟨h.lim, by show (q.l.set i _).length + q.kept ≤ q.lim; rw [List.length_set]; exact h.fit, fun x hx => ?_, h.last, by rw [QP.own_map]; exact h.asc, fun x hx => ?_⟩
  · rcases List.mem_or_eq_of_mem_set hx with hx | rfl
    · exact h.ms x hx
    · refine ⟨?_, ho⟩
      by_cases hi : i < q.l.length
      · rw [QP.at_get hi]; exact (h.ms _ (List.getElem_mem hi)).1
      · have : q.at_ i = (0, 0) := by simp [QP.at_, List.getD, hi]
        rw [this]; show 0 < 18446744073709551616; omega
  · have hm : x.1 ∈ (q.own i ow).l.map (·.1) := List.mem_map.2 ⟨x, hx, rfl⟩
    rw [QP.own_map] at hm
    obtain ⟨y, hy, e⟩ := List.mem_map.1 hm
    rw [← e]
    exact h.top y hy
theorem QP.ok.next {ow : Nat} (h : q.ok) (ho : ow < 18446744073709551616) : (q.next ow).2.ok := by
  unfold QP.next
  split
  · exact h
  · split
    · exact h
    · exact h.own ho
theorem QP.ok.pass {id f t : Nat} (h : q.ok) (ht : t < 18446744073709551616) : (q.pass id f t).2.ok := by
  unfold QP.pass
  split
  · exact h
  · split
    · exact h
    · exact h.own ht
theorem QP.ok.drop {id ow : Nat} (h : q.ok) : (q.drop id ow).2.ok := by
  unfold QP.drop
  split
  · exact h
  · split
    · exact h
    · have := h.fit
      have hsub : ∀ i, (q.l.take i ++ q.l.drop (i + 1)).Sublist q.l := fun i => by
        rw [← List.eraseIdx_eq_take_drop_succ]; exact List.eraseIdx_sublist _ _
      refine ⟨h.lim, ?_, fun x hx => ?_, h.last, h.asc.sublist ((hsub _).map _), fun x hx => h.top x ((hsub _).mem hx)⟩
      · show (q.l.take _ ++ q.l.drop _).length + q.kept ≤ q.lim
        rw [List.length_append, List.length_take, List.length_drop]
        omega
      · rcases List.mem_append.1 hx with hx | hx
        · exact h.ms x (List.mem_of_mem_take hx)
        · exact h.ms x (List.mem_of_mem_drop hx)
theorem QP.ok.purge (h : q.ok) : q.purge.2.ok := by
  have := h.fit
  refine ⟨h.lim, ?_, fun x hx => h.ms x (List.mem_filter.1 hx).1, h.last, h.asc.sublist (List.filter_sublist.map _), fun x hx => h.top x (List.mem_filter.1 hx).1⟩
  show (heldQ q.l).length + q.kept ≤ q.lim
  have h2 : (heldQ q.l).length ≤ q.l.length := List.length_filter_le _ _
  omega
end
/-- Each number stands once. -/
theorem QP.find_at {q : QP} (h : q.ok) {i : Nat} (hi : i < q.l.length) : q.find q.l[i].1 = some i := by
  refine placeQ_some hi (by simp) (fun j hj hji => ?_)
  have := List.pairwise_iff_getElem.1 h.asc j i (by simpa using hj) (by simpa using hi) hji
  simp only [List.getElem_map] at this
  simp only [decide_eq_false_iff_not]
  omega
theorem ofQ_take (ow : Nat) (l : List (Nat × Nat)) (j : Nat) (h : j < l.length) : ofQ ow (l.take (j + 1)) = if l[j].2 = ow then ofQ ow (l.take j) ++ [l[j].1] else ofQ ow (l.take j) := by
  unfold ofQ
  rw [List.take_succ_eq_append_getElem h, List.filter_append, List.map_append]
  by_cases c : l[j].2 = ow <;> simp [c]
theorem allQ_take (l : List (Nat × Nat)) (j : Nat) (h : j < l.length) : allQ (l.take (j + 1)) = allQ (l.take j) ++ [l[j].1] := by
  unfold allQ
  rw [List.take_succ_eq_append_getElem h, List.map_append]
  rfl
theorem heldQ_take (l : List (Nat × Nat)) (j : Nat) (h : j < l.length) : heldQ (l.take (j + 1)) = if l[j].2 ≠ 0 then heldQ (l.take j) ++ [l[j]] else heldQ (l.take j) := by
  unfold heldQ
  rw [List.take_succ_eq_append_getElem h, List.filter_append]
  by_cases c : l[j].2 = 0 <;> simp [c]
theorem ofQ_len (ow : Nat) (l : List (Nat × Nat)) : (ofQ ow l).length ≤ l.length := by
  unfold ofQ
  rw [List.length_map]
  exact List.length_filter_le _ _

end Go.Proofs.Ytkcbkimconaegaa
