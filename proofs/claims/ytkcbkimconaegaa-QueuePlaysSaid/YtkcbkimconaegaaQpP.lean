/-
  Without the program: the rows that the program's queue holds, told of the document's row of numbers and owners.
  Conditions: none.
-/
import Derived.Test.YtkcbkimconaegaaQuP
import Derived.Test.YtkcbkimconaegaaMapS
namespace Go.Proofs.Ytkcbkimconaegaa
open Go.RowKit
set_option linter.unusedVariables false
set_option linter.unusedSimpArgs false

theorem ofQ_append (ow : Nat) (a b : List (Nat × Nat)) : ofQ ow (a ++ b) = ofQ ow a ++ ofQ ow b := by simp [ofQ]
theorem ofQ_cons (ow : Nat) (x : Nat × Nat) (b : List (Nat × Nat)) : ofQ ow (x :: b) = (if x.2 = ow then [x.1] else []) ++ ofQ ow b := by
  unfold ofQ
  by_cases c : x.2 = ow <;> simp [c]
theorem heldQ_append (a b : List (Nat × Nat)) : heldQ (a ++ b) = heldQ a ++ heldQ b := by simp [heldQ]
theorem heldQ_cons (x : Nat × Nat) (b : List (Nat × Nat)) : heldQ (x :: b) = (if x.2 = 0 then [] else [x]) ++ heldQ b := by
  unfold heldQ
  by_cases c : x.2 = 0 <;> simp [c]
theorem mem_ofQ {ow n : Nat} {l : List (Nat × Nat)} : n ∈ ofQ ow l ↔ (n, ow) ∈ l := by
  unfold ofQ
  rw [List.mem_map]
  constructor
  · rintro ⟨x, hx, rfl⟩
    obtain ⟨h1, h2⟩ := List.mem_filter.1 hx
    simp only [decide_eq_true_eq] at h2
    rw [← h2]
    exact h1
  · intro h
    exact ⟨_, List.mem_filter.2 ⟨h, by simp⟩, rfl⟩
theorem mem_heldQ {x : Nat × Nat} {l : List (Nat × Nat)} : x ∈ heldQ l ↔ x ∈ l ∧ x.2 ≠ 0 := by simp [heldQ]
theorem two_len (l : List (Nat × Nat)) : (ofQ 0 l).length + (heldQ l).length = l.length := by
  induction l with
  | nil => rfl
  | cons x r ih =>
    rw [ofQ_cons, heldQ_cons, List.length_append, List.length_append, List.length_cons]
    by_cases c : x.2 = 0
    · rw [if_pos c, if_pos c]; simp only [List.length_singleton, List.length_nil]; omega
    · rw [if_neg c, if_neg c]; simp only [List.length_singleton, List.length_nil]; omega
/-- A rising row is cut at a number. -/
theorem asc_split (id : Nat) : ∀ {l : List (Nat × Nat)}, (l.map (·.1)).Pairwise (· < ·) → ∃ a b, l = a ++ b ∧ (∀ x ∈ a, x.1 < id) ∧ (∀ x ∈ b, id ≤ x.1)
  | [], _ => ⟨[], [], rfl, by simp, by simp⟩
  | x :: r, h => by
    rw [List.map_cons, List.pairwise_cons] at h
    by_cases c : x.1 < id
    · obtain ⟨a, b, e, h1, h2⟩ := asc_split id h.2
      refine ⟨x :: a, b, by rw [e]; rfl, fun y hy => ?_, h2⟩
      rcases List.mem_cons.1 hy with rfl | hy
      · exact c
      · exact h1 y hy
    · refine ⟨[], x :: r, rfl, by simp, fun y hy => ?_⟩
      rcases List.mem_cons.1 hy with rfl | hy
      · omega
      · have := h.1 y.1 (List.mem_map.2 ⟨y, hy, rfl⟩)
        omega
/-- What stands at a number, and what around it. -/
structure SplitQ (q : QP) (id i o : Nat) (a b : List (Nat × Nat)) : Prop where
  row : q.l = a ++ (id, o) :: b
  len : a.length = i
  lo : ∀ x ∈ a, x.1 < id
  hi : ∀ x ∈ b, id < x.1
  at_ : q.at_ i = (id, o)
  own : ∀ t, (q.own i t).l = a ++ (id, t) :: b
  cut : q.l.take i ++ q.l.drop (i + 1) = a ++ b
theorem find_some {q : QP} (h : q.ok) {id i : Nat} (hf : q.find id = some i) : ∃ o a b, SplitQ q id i o a b := by
  obtain ⟨hi, hp⟩ := placeQ_at hf
  simp only [decide_eq_true_eq] at hp
  have hsp : q.l = q.l.take i ++ (id, q.l[i].2) :: q.l.drop (i + 1) := by
    have := (List.take_append_drop i q.l).symm
    rw [List.drop_eq_getElem_cons hi] at this
    rw [← hp]
    exact this
  have hlen : (q.l.take i).length = i := by rw [List.length_take]; omega
  have hasc := h.asc
  rw [hsp, List.map_append, List.map_cons, List.pairwise_append, List.pairwise_cons] at hasc
  refine ⟨q.l[i].2, q.l.take i, q.l.drop (i + 1), hsp, hlen, fun x hx => ?_, fun x hx => ?_, ?_, fun t => ?_, rfl⟩
  · exact hasc.2.2 x.1 (List.mem_map.2 ⟨x, hx, rfl⟩) id (by simp)
  · exact hasc.2.1.1 x.1 (List.mem_map.2 ⟨x, hx, rfl⟩)
  · rw [QP.at_get hi, ← hp]
  · show q.l.set i ((q.at_ i).1, t) = _
    rw [QP.at_get hi, hp, List.set_eq_take_append_cons_drop, if_pos hi]
theorem placeQ_is_none {p : Nat × Nat → Bool} : ∀ {l : List (Nat × Nat)}, placeQ p l = none → ∀ x ∈ l, p x = false
  | [], _, x, hx => by cases hx
  | y :: r, h, x, hx => by
    unfold placeQ at h
    split at h
    · cases h
    · rename_i hp
      cases hr : placeQ p r with
      | none =>
        rcases List.mem_cons.1 hx with rfl | hx
        · simpa using hp
        · exact placeQ_is_none hr x hx
      | some j => rw [hr] at h; cases h
theorem find_is_none {q : QP} {id : Nat} (hf : q.find id = none) : ∀ x ∈ q.l, x.1 ≠ id := fun x hx => by
  have := placeQ_is_none hf x hx
  simpa using this
/-- The first one that is so, and none ahead of it. -/
theorem placeQ_first {p : Nat × Nat → Bool} : ∀ {l : List (Nat × Nat)} {i : Nat}, placeQ p l = some i → ∃ a x b, l = a ++ x :: b ∧ a.length = i ∧ p x = true ∧ ∀ y ∈ a, p y = false
  | [], i, h => by cases h
  | x :: r, i, h => by
    unfold placeQ at h
    split at h
    · rename_i hp
      cases h
      exact ⟨[], x, r, rfl, rfl, hp, by simp⟩
    · rename_i hp
      cases hr : placeQ p r with
      | none => rw [hr] at h; cases h
      | some j =>
        rw [hr] at h
        obtain rfl : j + 1 = i := Option.some.inj h
        obtain ⟨a, y, b, e, h1, h2, h3⟩ := placeQ_first hr
        refine ⟨x :: a, y, b, by rw [e]; rfl, by simp [h1], h2, fun z hz => ?_⟩
        rcases List.mem_cons.1 hz with rfl | hz
        · simpa using hp
        · exact h3 z hz
/-- The first message that is ready. -/
theorem ready_first {q : QP} {i : Nat} (hf : placeQ (fun x => decide (x.2 = 0)) q.l = some i) : ∃ id a b, q.l = a ++ (id, 0) :: b ∧ a.length = i ∧ ofQ 0 a = [] ∧ q.at_ i = (id, 0) ∧ ∀ t, (q.own i t).l = a ++ (id, t) :: b := by
  obtain ⟨a, x, b, e, h1, h2, h3⟩ := placeQ_first hf
  obtain ⟨id, o⟩ := x
  simp only [decide_eq_true_eq] at h2
  subst h2
  have hi : i < q.l.length := by rw [e, List.length_append, List.length_cons]; omega
  have hat : q.l[i] = (id, 0) := by
    have : q.l[i]? = some (id, 0) := by rw [e, ← h1]; simp
    rw [List.getElem?_eq_getElem hi] at this
    exact Option.some.inj this
  refine ⟨id, a, b, e, h1, ?_, by rw [QP.at_get hi, hat], fun t => ?_⟩
  · apply List.eq_nil_iff_forall_not_mem.2
    intro n hn
    have := h3 _ (mem_ofQ.1 hn)
    simp at this
  · show q.l.set i ((q.at_ i).1, t) = _
    rw [QP.at_get hi, hat, List.set_eq_take_append_cons_drop, if_pos hi, e, ← h1]
    simp
theorem ready_none {q : QP} (hf : placeQ (fun x => decide (x.2 = 0)) q.l = none) : ofQ 0 q.l = [] := by
  apply List.eq_nil_iff_forall_not_mem.2
  intro n hn
  have := placeQ_is_none hf _ (mem_ofQ.1 hn)
  simp at this
theorem ready_some {q : QP} {n : Nat} {r : List Nat} (h : ofQ 0 q.l = n :: r) : ∃ i, placeQ (fun x => decide (x.2 = 0)) q.l = some i := by
  cases hf : placeQ (fun x => decide (x.2 = 0)) q.l with
  | none => rw [ready_none hf] at h; cases h
  | some i => exact ⟨i, rfl⟩

/-- What the map holds. -/
def ownV (x : Nat × Nat) : Nat × Value := (x.1, .agg #[.int .u64 x.2])
def MapQ (M : List (Nat × Value)) (l : List (Nat × Nat)) : Prop := M.Perm ((heldQ l).map ownV) ∧ (M.map (·.1)).Nodup
section
variable {M : List (Nat × Value)} {a b l : List (Nat × Nat)} {id o t : Nat}
theorem MapQ.len (h : MapQ M l) : M.length = (heldQ l).length := by rw [h.1.length_eq, List.length_map]
theorem MapQ.getNone (h : MapQ M l) (hn : ∀ x ∈ l, x.1 = id → x.2 = 0) : getA id M = none := by
  rw [getA_none_iff]
  intro x hx e
  have := h.1.mem_iff.1 hx
  obtain ⟨y, hy, rfl⟩ := List.mem_map.1 this
  exact (mem_heldQ.1 hy).2 (hn y (mem_heldQ.1 hy).1 e)
theorem MapQ.getSome (h : MapQ M l) (hm : (id, o) ∈ l) (ho : o ≠ 0) : getA id M = some (.agg #[.int .u64 o]) :=
  getA_of_mem h.2 (h.1.mem_iff.2 (List.mem_map.2 ⟨(id, o), mem_heldQ.2 ⟨hm, ho⟩, rfl⟩))
theorem held_del (hlo : ∀ x ∈ a, x.1 < id) (hhi : ∀ x ∈ b, id < x.1) : ((heldQ (a ++ (id, o) :: b)).map ownV).filter (fun x => decide (x.1 ≠ id)) = (heldQ (a ++ b)).map ownV := by
  have hf : ∀ c : List (Nat × Nat), (∀ x ∈ c, x.1 ≠ id) → ((heldQ c).map ownV).filter (fun x => decide (x.1 ≠ id)) = (heldQ c).map ownV := fun c hc => by
    rw [List.filter_eq_self]
    intro x hx
    obtain ⟨y, hy, rfl⟩ := List.mem_map.1 hx
    exact decide_eq_true (hc y (mem_heldQ.1 hy).1)
  rw [heldQ_append, heldQ_cons, heldQ_append, List.map_append, List.map_append, List.map_append, List.filter_append, List.filter_append, hf a fun x hx => by have := hlo x hx; omega, hf b fun x hx => by have := hhi x hx; omega]
  congr 1
  by_cases c : o = 0 <;> simp [c, ownV]
theorem MapQ.del (h : MapQ M (a ++ (id, o) :: b)) (hlo : ∀ x ∈ a, x.1 < id) (hhi : ∀ x ∈ b, id < x.1) : MapQ (delA id M) (a ++ b) := by
  refine ⟨?_, delA_nodup h.2⟩
  rw [← held_del (o := o) hlo hhi]
  exact h.1.filter _
theorem MapQ.put (h : MapQ M (a ++ (id, o) :: b)) (hlo : ∀ x ∈ a, x.1 < id) (hhi : ∀ x ∈ b, id < x.1) (ht : t ≠ 0) : MapQ (putA id (.agg #[.int .u64 t]) M) (a ++ (id, t) :: b) := by
  refine ⟨(putA_perm h.2).trans ?_, putA_nodup h.2⟩
  have h2 := (h.del hlo hhi).1
  rw [heldQ_append, heldQ_cons, if_neg ht]
  rw [heldQ_append] at h2
  simp only [List.map_append, List.map_cons, List.map_nil, List.singleton_append] at h2 ⊢
  exact (h2.cons _).trans List.perm_middle.symm
theorem MapQ.same (h : MapQ M l) (e : heldQ b = heldQ l) : MapQ M b := by unfold MapQ; rw [e]; exact h
theorem MapQ.free (h : MapQ M (a ++ (id, o) :: b)) (hlo : ∀ x ∈ a, x.1 < id) (hhi : ∀ x ∈ b, id < x.1) : MapQ (delA id M) (a ++ (id, 0) :: b) :=
  (h.del hlo hhi).same (by rw [heldQ_append, heldQ_cons, if_pos rfl, heldQ_append]; rfl)
theorem MapQ.nil : MapQ [] [] := ⟨List.Perm.nil, List.nodup_nil⟩
end
theorem heldQ_held (l : List (Nat × Nat)) : heldQ (heldQ l) = heldQ l := by simp [heldQ]
theorem ofQ_held (l : List (Nat × Nat)) : ofQ 0 (heldQ l) = [] := by
  apply List.eq_nil_iff_forall_not_mem.2
  intro n hn
  exact (mem_heldQ.1 (mem_ofQ.1 hn)).2 rfl
/-- A row of numbers below, at and above one. -/
theorem ready_split {q : QP} {id i o : Nat} {a b : List (Nat × Nat)} (h : SplitQ q id i o a b) : ofQ 0 q.l = ofQ 0 a ++ ((if o = 0 then [id] else []) ++ ofQ 0 b) ∧ (∀ n ∈ ofQ 0 a, n < id) ∧ (∀ n ∈ ofQ 0 b, id < n) :=
  ⟨by rw [h.row, ofQ_append, ofQ_cons], fun n hn => h.lo _ (mem_ofQ.1 hn), fun n hn => h.hi _ (mem_ofQ.1 hn)⟩
theorem ready_cut {q : QP} (h : q.ok) (id : Nat) (hn : ∀ x ∈ q.l, x.1 ≠ id) : ∃ r s, ofQ 0 q.l = r ++ s ∧ (∀ n ∈ r, n < id) ∧ ∀ n ∈ s, id < n := by
  obtain ⟨a, b, e, h1, h2⟩ := asc_split id h.asc
  refine ⟨ofQ 0 a, ofQ 0 b, by rw [e, ofQ_append], fun n hn => h1 _ (mem_ofQ.1 hn), fun n hm => ?_⟩
  have h3 := h2 _ (mem_ofQ.1 hm)
  have h4 := hn (n, 0) (by rw [e]; exact List.mem_append_right _ (mem_ofQ.1 hm))
  simp only [] at h3 h4
  omega

end Go.Proofs.Ytkcbkimconaegaa
