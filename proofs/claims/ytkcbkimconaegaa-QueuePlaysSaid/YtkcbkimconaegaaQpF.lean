/-
  The program's hand of queues.
  Conditions: none but sizes.
-/
import Derived.Test.YtkcbkimconaegaaQpE
import Derived.Deep.RegionLaw
namespace Go.Proofs.Ytkcbkimconaegaa
open Go.RowKit
set_option linter.unusedVariables false
set_option linter.unusedSimpArgs false
set_option maxRecDepth 100000

section
variable {w w' : World} {B qb mb : Nat} {F : Nat → Prop} {q : QP}
/-- A number is taken out of a row: what stands ahead of it moves up. -/
theorem copy_hand {A : Option Addr} {n c x : Nat} {r s : List Nat} (h : RdQ w B (.slice A n c) (r ++ x :: s)) :
    ∃ w', (∀ ty, (Builtin.copy_ #[42, 42] ty #[.slice (if c = 1 then A else A.map (fun y => y.add 1)) r.length (c - 1), .slice A r.length c]).run Try.prog w = .ok (goInt r.length) w') ∧ RdQ w' B (.slice (if c = 1 then A else A.map (fun y => y.add 1)) (n - 1) (c - 1)) (r ++ s) ∧ w.grownBy w' (Value.slice A n c).ownBlock := by
  have hlen : (r ++ x :: s).length = r.length + s.length + 1 := by rw [List.length_append, List.length_cons]; omega
  obtain ⟨g, off, cs, rfl, rfl, hB, hb, h3, h1, h2, h4⟩ := h.at_ (by omega)
  rw [hlen] at h1 ⊢
  have hp : ∀ j (hj : j < r.length), cs[off + j]? = some (.int .u64 r[j]) := fun j hj => by rw [h4 j (by omega), List.getElem_append_left hj]
  by_cases hc : c = 1
  · have hr0 : r.length = 0 := by omega
    have hs0 : s.length = 0 := by omega
    have hr := List.eq_nil_of_length_eq_zero hr0
    have hs := List.eq_nil_of_length_eq_zero hs0
    subst hr hs hc
    refine ⟨w, fun ty => ?_, .inr ⟨g, off, 0, cs, rfl, hB, hb, by simp, by omega, by omega, fun j hj => by simp at hj⟩, ⟨rfl, rfl, rfl, Nat.le_refl _, fun _ _ _ => rfl⟩⟩
    exact run_copy_cells (P := Try.prog) w 42 42 ty 22 g off 0 0 ⟨g, off, none⟩ 0 1 [] Try.underlying42 sizeN (by simp) (fun j v hj => by simp at hj) (fun j hj => by simp at hj) (fun j hj => by simp at hj) (by simp)
  · obtain ⟨cs', k1, k2, k3⟩ := setCells_row (encU r) (off + 1) w cs hb (by rw [encU_len]; omega)
    refine ⟨w.setCells g (off + 1) (encU r), fun ty => ?_, .inr ⟨g, off + 1, c - 1, cs', by rw [if_neg hc, List.length_append]; rfl, hB, k1, by rw [List.length_append]; omega, by omega, by omega, fun j hj => ?_⟩, (setCells_moved (F := fun k => k = g) (fun _ => rfl) _ _ _ (MovedQ.refl _ _)).grown _ (fun k _ e => by subst e; rfl)⟩
    · rw [if_neg hc]
      have := run_copy_cells (P := Try.prog) w 42 42 ty 22 g (off + 1) r.length (c - 1) ⟨g, off, none⟩ r.length c (encU r) Try.underlying42 sizeN (by rw [encU_len]; simp) (fun j v hj => by
        rw [encU_get] at hj
        cases hm : r[j]? with
        | none => rw [hm] at hj; cases hj
        | some y =>
          rw [hm] at hj
          obtain ⟨hjl, rfl⟩ := List.getElem?_eq_some_iff.1 hm
          rw [Addr.add_lit, cell_of_row _ _ _ _ _ (0, 0) hb, hp j hjl]
          exact hj) (fun j hj => by
        rw [encU_len] at hj
        rw [cell_of_row _ _ _ _ _ (0, 0) hb, Array.getElem?_eq_getElem (by omega)]; rfl) (fun j hj => frozen_of_row w g _ _ _ hb) (encU_one r)
      rw [encU_len] at this
      exact this
    · rw [List.length_append] at hj
      rw [k3]
      by_cases c1 : j < r.length
      · rw [if_pos (by rw [encU_len]; omega), List.getElem_append_left c1, show off + 1 + j - (off + 1) = j by omega, encU_get, List.getElem?_eq_getElem c1]
        rfl
      · rw [if_neg (by rw [encU_len]; omega), List.getElem_append_right (by omega)]
        have := h4 (j + 1) (by omega)
        rw [show off + 1 + j = off + (j + 1) by omega, this, List.getElem_append_right (by omega)]
        simp only [show j + 1 - r.length = (j - r.length) + 1 by omega, List.getElem_cons_succ]
theorem pmap_store {M : List (Nat × Value)} (h : MapS u64Fam w mb M) {id : Nat} (hi : id < 18446744073709551616) (t : Nat) :
    ∃ w', (Instr.mapUpdate 55 (.map (some mb)) (.int .u64 id) (.agg #[.int .u64 t])).run Try.prog w = .ok () w' ∧ MapS u64Fam w' mb (putA id (.agg #[.int .u64 t]) M) ∧ w.grownBy w' (some mb) ∧ w'.heap.size = w.heap.size :=
  h.store Try.underlying55 (q := id) hi _
theorem k_wraps {k k1 : Nat} (hm : k1 = k + 1) (h : k1 ≤ 1000000) : IntKind.i64.wrap ((k : Int) + 1) = (k1 : Int) ∧ wrap64 ((k : Int) + 1) = (k1 : Int) := succ_wraps hm h
theorem maxLen_int {c : Nat} (h : c ≤ maxLen) : (c : Int) ≤ 9223372036854775807 := by
  simp only [maxLen] at h
  omega
set_option maxHeartbeats 2000000 in
theorem phand_walk {w w1 w2 : World} {qb mb n c k k1 id t : Nat} {A : Option Addr} {g off : Nat} (hA : A = some ⟨g, off, none⟩)
    (c3 : w.cell? ⟨qb, 3, none⟩ = some (.slice A n c)) (c4 : w.cell? ⟨qb, 4, none⟩ = some (.map (some mb))) (hcell : w.cell? ⟨g, off + k, none⟩ = some (.int .u64 id))
    (hst : (Instr.mapUpdate 55 (.map (some mb)) (.int .u64 id) (.agg #[.int .u64 t])).run Try.prog w.drew = .ok () w1)
    (c3b : w1.cell? ⟨qb, 3, none⟩ = some (.slice A n c))
    (hcp : ∀ ty, (Builtin.copy_ #[42, 42] ty #[.slice (if c = 1 then A else A.map (fun y => y.add 1)) k (c - 1), .slice A k c]).run Try.prog w1.drew = .ok (goInt k) w2)
    (c3c : w2.cell? ⟨qb, 3, none⟩ = some (.slice A n c)) (f3c : w2.frozen? ⟨qb, 3, none⟩ = false)
    (hk : k1 = k + 1) (hk1 : k1 ≤ n) (hn : n ≤ 1000000) (hnc : n ≤ c) (hc : c ≤ maxLen) :
    Calls Try.prog 45 #[.pointer (some ⟨qb, 0, none⟩), .int .i64 k, .int .u64 t] w fun e w' => e = .returned (.tuple #[]) ∧ w' = w2.setCell ⟨qb, 3, none⟩ (.slice (if c = 1 then A else A.map (fun y => y.add 1)) (n - 1) (c - 1)) := by
  obtain ⟨b1, b2⟩ := k_wraps hk (Nat.le_trans hk1 hn)
  have hkn : (k : Int) < (n : Int) := by omega
  have hkc : (k1 : Int) ≤ (c : Int) := by omega
  have hkl : (k : Int) ≤ (c : Int) := by omega
  have h1k : (1 : Int) ≤ (k1 : Int) := by omega
  have h1n : (1 : Int) ≤ (n : Int) := by omega
  have hnc' : (n : Int) ≤ (c : Int) := by omega
  have ek : k1 - 1 = k := by omega
  have h63 := maxLen_int hc
  obtain ⟨A1, hA1⟩ : ∃ A1, (if c = 1 then A else A.map (fun y => y.add 1)) = A1 := ⟨_, rfl⟩
  rw [hA1] at hcp ⊢
  have HCP := Lib.hid hcp
  have HH := Lib.hid (And.intro hk (And.intro hk1 (And.intro hn (And.intro hnc hc))))
  clear hk hk1 hn hnc hc hcp
  subst hA
  have hA2 : (if c = 1 then some ⟨g, off, none⟩ else some ⟨g, off + 1, none⟩) = A1 := hA1
  clear hA1
  go_enter Try.func45, Try.ntmps45
  go_wp2_with fail
  go_region
  clear hst hcell c3 c4
  go_wp2_with fail
  go_region_law (refine step_copy_runI rfl (.tmp 25) (.tmp 31) 42 42 rfl _ _ rfl rfl (v' := goInt k) (w' := w2) (by exact HCP.out _) ?_)
  go_wp2_with fail
  all_goals
    first | go_end0 | refine bodyPost_ret (results_none rfl _ _ _) rfl ?_
    exact ⟨rfl, rfl⟩
set_option maxHeartbeats 2000000 in
theorem phand_any {v : Value} {M : List (Nat × Value)} {a b : List (Nat × Nat)} {id t : Nat} (h : PI w B qb v mb M q) (hn : q.l.length ≤ 1000000) (hs : q.l = a ++ (id, 0) :: b) (hlo : ∀ x ∈ a, x.1 < id) (hhi : ∀ x ∈ b, id < x.1) (hi : id < 18446744073709551616) (ht : t ≠ 0) :
    Calls Try.prog 45 #[.pointer (some ⟨qb, 0, none⟩), .int .i64 (ofQ 0 a).length, .int .u64 t] w fun e w' => e = .returned (.tuple #[]) ∧ LeftP w B qb (FP qb mb v) { q with l := a ++ (id, t) :: b } w' := by
  obtain ⟨A, c, rfl, hc1, hc2⟩ := h.row.form
  have hr : ofQ 0 q.l = ofQ 0 a ++ id :: ofQ 0 b := by rw [hs, ofQ_append, ofQ_cons, if_pos rfl]; rfl
  have hlen : (ofQ 0 q.l).length = (ofQ 0 a).length + (ofQ 0 b).length + 1 := by rw [hr, List.length_append, List.length_cons]; omega
  have hl := two_len q.l
  have hrow := h.row
  rw [hr] at hrow
  have c3 := h.box.c3
  have c4 := h.box.c4
  obtain ⟨w1, hst, hm1, hg1, hz1⟩ := pmap_store (h.map.keep (w' := w.drew) rfl) hi t
  obtain ⟨g, off, cs, hA, _, hgB, hgb, hg3, hg4, hg5, hg6⟩ := hrow.at_ (by rw [← hr]; omega)
  subst hA
  have hcell : w.cell? ⟨g, off + (ofQ 0 a).length, none⟩ = some (.int .u64 id) := by
    rw [cell_of_row _ _ _ _ _ (0, 0) hgb, hg6 (ofQ 0 a).length (by rw [← hr]; omega), List.getElem_append_right (Nat.le_refl _)]
    simp only [Nat.sub_self, List.getElem_cons_zero]
  have hrow1 : RdQ w1 B _ _ := hrow.keep (w' := w1) fun k hk => hg1.block k (by cases hk; exact (Array.getElem?_eq_some_iff.1 hgb).1) (fun e => by cases e; cases hk; exact h.neRowM rfl)
  have hbox1 : BoxP w1 qb q.lim q.kept q.last _ mb := (hg1.block qb h.box.lt (fun e => h.neMb (by injection e))).trans h.box
  obtain ⟨w2, hcp, hrow2, hg2⟩ := copy_hand (w := w1.drew) (hrow1.keep fun _ _ => rfl)
  have hbox2 : BoxP w2 qb q.lim q.kept q.last _ mb := (hg2.block qb hbox1.lt (fun e => h.neRow e.symm)).trans hbox1
  have hm2 : MapS u64Fam w2 mb _ := hm1.keep (hg2.block mb hm1.lt (fun e => h.neRowM e.symm))
  have hmq := (show MapQ M (a ++ (id, 0) :: b) from by rw [← hs]; exact h.mq).put hlo hhi ht
  have hPI := PI.store3 (l := a ++ (id, t) :: b) hbox2 (by rw [show ofQ 0 (a ++ (id, t) :: b) = ofQ 0 a ++ ofQ 0 b from by rw [ofQ_append, ofQ_cons, if_neg ht]; rfl]; exact hrow2) hm2 hmq h.hB h.hM
  have HFIN := Lib.hid (LeftP.mk_ (w := w) (v := .slice (some ⟨g, off, none⟩) (ofQ 0 q.l).length c) hPI ((((MovedQ.of_grown (F := FP qb mb (.slice (some ⟨g, off, none⟩) (ofQ 0 q.l).length c)) (show w.grownBy w1 (some mb) from ⟨hg1.os, hg1.tape, hg1.output, hg1.size, hg1.block⟩) fun k e _ => by cases e; exact .inr (.inl rfl))).trans (MovedQ.of_grown (F := FP qb mb (.slice (some ⟨g, off, none⟩) (ofQ 0 q.l).length c)) (show w1.grownBy w2 _ from ⟨hg2.os, hg2.tape, hg2.output, hg2.size, hg2.block⟩) fun k e _ => .inr (.inr e)) fun k hk => .inl hk).setCell (fun _ => .inl rfl) _ _) (fun k hk => by
    left
    by_cases hc : c = 1
    · rw [if_pos hc] at hk; exact hk
    · rw [if_neg hc] at hk; exact hk))
  refine (phand_walk (k1 := (ofQ 0 a).length + 1) rfl h.box.c3 h.box.c4 hcell hst hbox1.c3 (fun ty => hcp ty) hbox2.c3 (hbox2.fr 3) rfl (by omega) (by omega) hc1 hc2).mono ?_
  rintro e w' ⟨rfl, rfl⟩
  refine ⟨rfl, ?_⟩
  have := HFIN.out
  rw [← hr] at this
  exact this
end

end Go.Proofs.Ytkcbkimconaegaa
