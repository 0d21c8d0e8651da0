/-
  Messages by their places: who has which; what comes back.
  Conditions: none. Nothing here speaks of the program.
-/
import Derived.Test.YtkcbkimconaegaaQlG
import Derived.Test.YtkcbkimconaegaaQsO
namespace Go.Proofs.Ytkcbkimconaegaa
open Go.RowKit
set_option linter.unusedVariables false
set_option linter.unusedSimpArgs false
set_option maxRecDepth 100000

/-- Messages 1 to n, the k-th one's owner by a function. -/
def fnL (n : Nat) (o : Nat → Nat) : List (Nat × Nat) := (List.range n).map fun k => (k + 1, o k)
def fnQ (n : Nat) (o : Nat → Nat) : QP := ⟨100, fnL n o, 0, n⟩
theorem fnL_len (n : Nat) (o : Nat → Nat) : (fnL n o).length = n := by simp [fnL]
theorem fnL_at {n : Nat} {o : Nat → Nat} {k : Nat} (h : k < (fnL n o).length) : (fnL n o)[k] = (k + 1, o k) := by simp [fnL]
theorem fnL_congr {n : Nat} {o o2 : Nat → Nat} (h : ∀ k, k < n → o k = o2 k) : fnL n o = fnL n o2 := by
  unfold fnL
  exact List.map_congr_left fun k hk => by rw [h k (List.mem_range.1 hk)]
theorem fnL_set {n : Nat} {o : Nat → Nat} {i ow : Nat} (h : i < n) : (fnL n o).set i (i + 1, ow) = fnL n (fun k => if k = i then ow else o k) := by
  apply List.ext_getElem
  · rw [List.length_set, fnL_len, fnL_len]
  · intro k h1 h2
    rw [List.getElem_set, fnL_at h2]
    split
    · subst_vars; rw [if_pos rfl]
    · rename_i hne
      rw [fnL_at, if_neg (fun e => hne e.symm)]
theorem fn_put {n : Nat} {o : Nat → Nat} (hn : n < 100) (ho : o n = 0) : (fnQ n o).put (n + 1) = (0, fnQ (n + 1) o) := by
  have hl := fnL_len n o
  unfold QP.put
  rw [if_neg (show ¬ n + 1 ≤ (fnQ n o).last by show ¬ n + 1 ≤ n; omega), if_neg (show ¬ (fnQ n o).room = 0 by show ¬ (100 - ((fnL n o).length + 0)) = 0; omega)]
  unfold QP.add fnQ fnL
  rw [List.range_succ, List.map_append, List.map_cons, List.map_nil, ho]
theorem fnQ_at {n : Nat} {o : Nat → Nat} {i : Nat} (h : i < n) : (fnQ n o).at_ i = (i + 1, o i) := by
  have hi : i < (fnL n o).length := by rw [fnL_len]; exact h
  exact (QP.at_get (q := fnQ n o) (i := i) hi).trans (fnL_at hi)
theorem fn_own {n : Nat} {o : Nat → Nat} {i ow : Nat} (h : i < n) : (fnQ n o).own i ow = fnQ n (fun k => if k = i then ow else o k) := by
  unfold QP.own
  rw [fnQ_at h]
  show (⟨100, (fnL n o).set i (i + 1, ow), 0, n⟩ : QP) = _
  rw [fnL_set h]
  rfl
theorem fn_next {n : Nat} {o : Nat → Nat} {i ow : Nat} (h : i < n) (ho : ow ≠ 0) (hz : o i = 0) (hb : ∀ k, k < i → o k ≠ 0) : (fnQ n o).next ow = ((i + 1, true), fnQ n (fun k => if k = i then ow else o k)) := by
  have hi : i < (fnL n o).length := by rw [fnL_len]; exact h
  have hp : placeQ (fun x => decide (x.2 = 0)) (fnQ n o).l = some i := placeQ_some (l := fnL n o) hi (by rw [fnL_at]; simpa using hz) fun k hk hki => by rw [fnL_at]; simpa using hb k hki
  unfold QP.next
  rw [if_neg ho, hp]
  show ((((fnQ n o).at_ i).1, true), (fnQ n o).own i ow) = _
  rw [fnQ_at h, fn_own h]
theorem fn_none {n : Nat} {o : Nat → Nat} {ow : Nat} (hb : ∀ k, k < n → o k ≠ 0) : (fnQ n o).next ow = ((0, false), fnQ n o) := by
  have hp : placeQ (fun x => decide (x.2 = 0)) (fnQ n o).l = none := placeQ_none (l := fnL n o) fun k hk => by rw [fnL_at]; simpa using hb k (by rw [fnL_len] at hk; exact hk)
  unfold QP.next
  split
  · rfl
  · rw [hp]
theorem fn_free {n : Nat} {o : Nat → Nat} {i ow : Nat} (h : i < n) (ho : ow ≠ 0) (hz : o i = ow) (hok : (fnQ n o).ok) : (fnQ n o).hands (i + 1) ow 0 = (0, fnQ n (fun k => if k = i then 0 else o k)) := by
  have hi : i < (fnQ n o).l.length := by show i < (fnL n o).length; rw [fnL_len]; exact h
  have e : (fnQ n o).l[i].1 = i + 1 := congrArg Prod.fst (fnL_at (n := n) (o := o) hi)
  have hf : (fnQ n o).find (i + 1) = some i := by have := QP.find_at (q := fnQ n o) hok (i := i) hi; rw [e] at this; exact this
  unfold QP.hands
  rw [if_neg ho]
  unfold QP.pass
  rw [hf]
  show (if ((fnQ n o).at_ i).2 ≠ ow then _ else _) = _
  rw [fnQ_at h, if_neg (by simpa using hz), fn_own h]
theorem fn_of (n : Nat) (o : Nat → Nat) (ow : Nat) : ofQ ow (fnL n o) = ((List.range n).filter fun k => decide (o k = ow)).map (· + 1) := by
  unfold ofQ fnL
  rw [List.filter_map, List.map_map]
  rfl
theorem fn_all (n : Nat) (o : Nat → Nat) : (allQ (fnL n o)).length = n := by simp [allQ, fnL]

/-- The places that are handed out again. -/
def backP (W : Nat → Bool) (i : Nat) : List Nat := (List.range i).filter W
def backL (W : Nat → Bool) (i : Nat) : List Nat := (backP W i).map (· + 1)
theorem backL_len (W : Nat → Bool) (i : Nat) : (backL W i).length ≤ i := by
  unfold backL backP
  rw [List.length_map]
  have := List.length_filter_le W (List.range i)
  rw [List.length_range] at this
  exact this
theorem backL_yes {W : Nat → Bool} {i : Nat} (h : W i = true) : backL W (i + 1) = backL W i ++ [i + 1] := by
  unfold backL backP
  rw [List.range_succ, List.filter_append]
  simp [h]
theorem backL_no {W : Nat → Bool} {i : Nat} (h : W i = false) : backL W (i + 1) = backL W i := by
  unfold backL backP
  rw [List.range_succ, List.filter_append]
  simp [h]
theorem backP_asc (W : Nat → Bool) (i : Nat) : (backP W i).Pairwise (· < ·) := List.pairwise_lt_range.filter _
/-- The first j of what came back are out again. -/
structure BackQ (W : Nat → Bool) (n j : Nat) (o : Nat → Nat) : Prop where
  out : ∀ k ∈ (backP W n).take j, o k = 6
  rdy : ∀ k, k < n → W k = true → k ∉ (backP W n).take j → o k = 0
  old : ∀ k, k < n → W k = false → o k = 5
theorem BackQ.step {W : Nat → Bool} {n j : Nat} {o : Nat → Nat} (h : BackQ W n j o) (hj : j < (backP W n).length) :
    (fnQ n o).next 6 = ((((backP W n)[j]) + 1, true), fnQ n (fun k => if k = (backP W n)[j] then 6 else o k)) ∧ BackQ W n (j + 1) (fun k => if k = (backP W n)[j] then 6 else o k) := by
  have hasc := backP_asc W n
  have hmem : (backP W n)[j] ∈ backP W n := List.getElem_mem hj
  have hm0 : ∀ x, x ∈ backP W n → x < n ∧ W x = true := fun x hx => by unfold backP at hx; rw [List.mem_filter, List.mem_range] at hx; exact hx
  have hm2 := hm0 _ hmem
  have hnot : (backP W n)[j] ∉ (backP W n).take j := by
    intro hx
    obtain ⟨m, hm, he⟩ := List.getElem_of_mem hx
    rw [List.length_take] at hm
    rw [List.getElem_take] at he
    have := List.pairwise_iff_getElem.1 hasc m j (by omega) hj (by omega)
    omega
  refine ⟨fn_next hm2.1 (by omega) (h.rdy _ hm2.1 hm2.2 hnot) fun k hk => ?_, ?_, ?_, ?_⟩
  · cases hw : W k with
    | false => rw [h.old k (by omega) hw]; omega
    | true =>
      have hkm : k ∈ backP W n := by unfold backP; rw [List.mem_filter, List.mem_range]; exact ⟨by omega, hw⟩
      obtain ⟨m, hm, he⟩ := List.getElem_of_mem hkm
      have hmj : m < j := by
        rcases Nat.lt_trichotomy m j with h1 | h1 | h1
        · exact h1
        · subst h1; omega
        · have := List.pairwise_iff_getElem.1 hasc j m hj hm h1; omega
      rw [h.out k (by rw [← he]; rw [List.mem_take_iff_getElem]; exact ⟨m, by omega, rfl⟩)]
      omega
  · intro k hk
    rw [List.take_succ_eq_append_getElem hj, List.mem_append, List.mem_singleton] at hk
    show (if _ then _ else _) = 6
    split
    · rfl
    · rename_i hne
      exact h.out k (hk.resolve_right hne)
  · intro k h1 h2 h3
    rw [List.take_succ_eq_append_getElem hj, List.mem_append, List.mem_singleton, not_or] at h3
    show (if _ then _ else _) = 0
    rw [if_neg h3.2]
    exact h.rdy k h1 h2 h3.1
  · intro k h1 h2
    show (if _ then _ else _) = 5
    rw [if_neg (fun e => by rw [e, hm2.2] at h2; cases h2)]
    exact h.old k h1 h2
theorem BackQ.done {W : Nat → Bool} {n : Nat} {o : Nat → Nat} (h : BackQ W n (backP W n).length o) : (fnQ n o).next 6 = ((0, false), fnQ n o) ∧ ofQ 6 (fnL n o) = backL W n := by
  rw [show BackQ W n (backP W n).length o ↔ BackQ W n (backP W n).length o from Iff.rfl] at h
  have hout : ∀ k, k < n → W k = true → o k = 6 := fun k h1 h2 => h.out k (by rw [List.take_length]; unfold backP; rw [List.mem_filter, List.mem_range]; exact ⟨h1, h2⟩)
  refine ⟨fn_none fun k hk => ?_, ?_⟩
  · cases hw : W k with
    | false => rw [h.old k hk hw]; omega
    | true => rw [hout k hk hw]; omega
  · rw [fn_of]
    unfold backL backP
    congr 1
    apply List.filter_congr
    intro k hk
    rw [List.mem_range] at hk
    cases hw : W k with
    | false => rw [h.old k hk hw]; rfl
    | true => rw [hout k hk hw]; rfl

end Go.Proofs.Ytkcbkimconaegaa
