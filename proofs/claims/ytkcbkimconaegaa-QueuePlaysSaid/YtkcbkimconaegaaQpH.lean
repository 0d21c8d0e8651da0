/-
  The program's Pass and Drop of queues.
  Conditions: none but sizes.
-/
import Derived.Test.YtkcbkimconaegaaQpG
namespace Go.Proofs.Ytkcbkimconaegaa
open Go.RowKit
set_option linter.unusedVariables false
set_option linter.unusedSimpArgs false
set_option maxRecDepth 100000

theorem pmap_drop {w : World} {mb : Nat} {M : List (Nat × Value)} (h : MapS u64Fam w mb M) {id : Nat} (hi : id < 18446744073709551616) (ty : TypeId) :
    ∃ w', (Builtin.delete_ #[55, 22] ty #[.map (some mb), .int .u64 id]).run Try.prog w = .ok (.tuple #[]) w' ∧ MapS u64Fam w' mb (delA id M) ∧ w.grownBy w' (some mb) ∧ w'.heap.size = w.heap.size :=
  h.drop Try.underlying55 (q := id) hi ty
section
variable {w w' : World} {B qb mb : Nat} {F : Nat → Prop} {q : QP}
/-- The map is turned. -/
theorem PI.turn {v : Value} {M M' : List (Nat × Value)} {l : List (Nat × Nat)} (h : PI w B qb v mb M q) (hg : w.grownBy w' (some mb)) (hm : MapS u64Fam w' mb M') (hq : MapQ M' l) (hr : ofQ 0 l = ofQ 0 q.l) : PI w' B qb v mb M' { q with l := l } :=
  ⟨(hg.block qb h.box.lt (fun e => h.neMb (by injection e))).trans h.box, by
    show RdQ w' B v (ofQ 0 l)
    rw [hr]
    exact h.row.keep fun g hg2 => hg.block g (h.row.block g hg2).2 (fun e => h.neRowM (by rw [hg2, e])), hm, hq, h.hB, h.hM⟩
theorem LeftP.turn {v : Value} {M M' : List (Nat × Value)} {l : List (Nat × Nat)} (h : PI w B qb v mb M q) (hg : w.grownBy w' (some mb)) (hm : MapS u64Fam w' mb M') (hq : MapQ M' l) (hr : ofQ 0 l = ofQ 0 q.l) : LeftP w B qb (FP qb mb v) { q with l := l } w' :=
  LeftP.mk_ (h.turn hg hm hq hr) (MovedQ.of_grown hg fun k e _ => .inr (.inl (by injection e with e; exact e.symm))) (fun g hg => .inl hg)
set_option maxHeartbeats 1000000 in
theorem rpass_any (h : PW w B qb q F) (ho : q.ok) (hn : q.l.length ≤ 1000000) (hB : B ≤ w.heap.size) (id f t : Nat) (hi : id < 18446744073709551616) (hi2 : f < 18446744073709551616) (hi3 : t < 18446744073709551616) : Calls Try.prog 24 #[.pointer (some ⟨qb, 0, none⟩), .int .u64 id, .int .u64 f, .int .u64 t] w (AnsP w B qb F (q.pass2 id f t)) := by
  have HM := Lib.hid (pmade_any h)
  have H0 := Lib.hid (LeftP.same h)
  have HHB := Lib.hid (pheld_any f w)
  have HLA := Lib.hid (fun w1 (hb : Below w.heap.size w w1) (hc : w1.cell? ⟨w.heap.size, 0, none⟩ = some (.int .u64 f)) (hx : w.heap.size < w1.heap.size) => (placks1_any (h.below hb) ho hn id hi f w.heap.size hc hx).mono fun e w' hx => (show e = .returned (.int .i64 (lackE (heldBy f) (q.owner id))) ∧ Below w.heap.size w w' from ⟨hx.1, hb.trans (hx.2.mono hb.size)⟩))
  have HS := Lib.hid (fun w' (hb : Below w.heap.size w w') => LeftP.of_below h hb)
  unfold AnsP
  have hbA : Below w.heap.size w (w.alloc (.cells #[.int .u64 f] 22)) := (Below.refl _ _).alloc (Nat.le_refl _) _
  have hcA : (w.alloc (.cells #[.int .u64 f] 22)).cell? ⟨w.heap.size, 0, none⟩ = some (.int .u64 f) := by rw [cell_of_row _ _ _ _ _ (0, 0) (heap_alloc_new w _)]; rfl
  have HLA := Lib.hid (HLA.out _ hbA hcA (by simp))
  clear hbA hcA
  by_cases h0 : t = 0
  · subst h0
    have e : q.pass2 id f 0 = (2, q) := if_pos rfl
    rw [e]
    clear h ho e
    go_enter Try.func24, Try.ntmps24
    go_wp2_with fail
    refine HM.out.mono ?_
    rintro e w1 ⟨rfl, rfl⟩
    go_wp2_with fail
    go_ret
    exact ⟨rfl, H0.out⟩
  · have t1 : ((t : Int) == 0) = false := by rw [beq_eq_false_iff_ne]; omega
    rcases pass2_cases q id f t h0 with ⟨E, hE, e, e2⟩ | ⟨i, hf, hf0, hat, e, e2⟩
    · rw [e]
      rw [e2] at HLA
      have tE : ((E : Int) == 0) = false := by rw [beq_eq_false_iff_ne]; omega
      clear h ho e e2
      go_enter Try.func24, Try.ntmps24
      go_wp2_with fail
      refine HM.out.mono ?_
      rintro e w1 ⟨rfl, rfl⟩
      go_wp2_with fail
      refine HHB.out.mono ?_
      rintro e w2 ⟨rfl, rfl⟩
      go_wp2_with fail
      refine HLA.out.mono ?_
      rintro e w3 ⟨rfl, hb3⟩
      go_wp2_with fail
      go_ret
      exact ⟨rfl, HS.out _ hb3⟩
    · obtain ⟨o, a, b, hs⟩ := find_some ho hf
      have hof : o = f := by rw [← hat, hs.at_]
      rw [e]
      have e3 : q.own i t = { q with l := a ++ (id, t) :: b } := by rw [← hs.own t]; rfl
      rw [e3]
      rw [e2] at HLA
      obtain ⟨v, mb, M, h1, rfl⟩ := h
      have HX := Lib.hid (fun w1 (hb : Below w.heap.size w w1) => (show w1.cell? ⟨qb, 4, none⟩ = some (.map (some mb)) ∧ ∃ w2, (Instr.mapUpdate 55 (.map (some mb)) (.int .u64 id) (.agg #[.int .u64 t])).run Try.prog w1 = .ok () w2 ∧ LeftP w B qb (FP qb mb v) { q with l := a ++ (id, t) :: b } w2 from by
        have hp := h1.below hb
        obtain ⟨w2, g1, g2, g3, g4⟩ := pmap_store hp.map hi t
        refine ⟨hp.box.c4, w2, g1, LeftP.after hb (LeftP.turn hp g3 g2 ?_ ?_)⟩
        · exact (show MapQ M (a ++ (id, o) :: b) from by rw [← hs.row]; exact hp.mq).put hs.lo hs.hi h0
        · rw [hs.row, ofQ_append, ofQ_cons, ofQ_append, ofQ_cons, if_neg h0, if_neg (by rw [hof]; exact hf0)]))
      clear h1 ho e e2 e3 hs hf hat H0 HS
      go_enter Try.func24, Try.ntmps24
      go_wp2_with fail
      refine HM.out.mono ?_
      rintro e w1 ⟨rfl, rfl⟩
      go_wp2_with fail
      refine HHB.out.mono ?_
      rintro e w2 ⟨rfl, rfl⟩
      go_wp2_with fail
      refine HLA.out.mono ?_
      rintro e w3 ⟨rfl, hb3⟩
      obtain ⟨c4, w4, hst, hl4⟩ := HX.out _ hb3
      have HL4 := Lib.hid hl4
      clear hl4
      go_wp2_with fail
      go_ret
      exact ⟨rfl, HL4.out⟩
set_option maxHeartbeats 1000000 in
theorem rdropP_any (h : PW w B qb q F) (ho : q.ok) (hn : q.l.length ≤ 1000000) (id f : Nat) (hi : id < 18446744073709551616) (hi2 : f < 18446744073709551616) : Calls Try.prog 25 #[.pointer (some ⟨qb, 0, none⟩), .int .u64 id, .int .u64 f] w (AnsP w B qb F (q.drop id f)) := by
  have H0 := Lib.hid (LeftP.same h)
  have HHB := Lib.hid (pheld_any f w)
  have HLA := Lib.hid (fun w1 (hb : Below w.heap.size w w1) (hc : w1.cell? ⟨w.heap.size, 0, none⟩ = some (.int .u64 f)) (hx : w.heap.size < w1.heap.size) => (placks1_any (h.below hb) ho hn id hi f w.heap.size hc hx).mono fun e w' hx => (show e = .returned (.int .i64 (lackE (heldBy f) (q.owner id))) ∧ Below w.heap.size w w' from ⟨hx.1, hb.trans (hx.2.mono hb.size)⟩))
  have HS := Lib.hid (fun w' (hb : Below w.heap.size w w') => LeftP.of_below h hb)
  unfold AnsP
  have hbA : Below w.heap.size w (w.alloc (.cells #[.int .u64 f] 22)) := (Below.refl _ _).alloc (Nat.le_refl _) _
  have hcA : (w.alloc (.cells #[.int .u64 f] 22)).cell? ⟨w.heap.size, 0, none⟩ = some (.int .u64 f) := by rw [cell_of_row _ _ _ _ _ (0, 0) (heap_alloc_new w _)]; rfl
  have HLA := Lib.hid (HLA.out _ hbA hcA (by simp))
  clear hbA hcA
  rcases drop_cases q id f with ⟨E, hE, e, _, e2⟩ | ⟨i, hf, hf0, hat, e, _, e2⟩
  · rw [e]
    rw [e2] at HLA
    have tE : ((E : Int) == 0) = false := by rw [beq_eq_false_iff_ne]; omega
    clear h ho e e2
    go_enter Try.func25, Try.ntmps25
    go_wp2_with fail
    refine HHB.out.mono ?_
    rintro e w2 ⟨rfl, rfl⟩
    go_wp2_with fail
    refine HLA.out.mono ?_
    rintro e w3 ⟨rfl, hb3⟩
    go_wp2_with fail
    go_ret
    exact ⟨rfl, HS.out _ hb3⟩
  · obtain ⟨o, a, b, hs⟩ := find_some ho hf
    have hof : o = f := by rw [← hat, hs.at_]
    rw [e, hs.cut]
    rw [e2] at HLA
    obtain ⟨v, mb, M, h1, rfl⟩ := h
    have HX := Lib.hid (fun w1 (hb : Below w.heap.size w w1) => (show w1.cell? ⟨qb, 4, none⟩ = some (.map (some mb)) ∧ ∃ w2, (∀ ty, (Builtin.delete_ #[55, 22] ty #[.map (some mb), .int .u64 id]).run Try.prog w1 = .ok (.tuple #[]) w2) ∧ LeftP w B qb (FP qb mb v) { q with l := a ++ b } w2 from by
      have hp := h1.below hb
      obtain ⟨w2, g1, g2, g3, g4⟩ := pmap_drop hp.map hi 0
      refine ⟨hp.box.c4, w2, fun ty => g1, LeftP.after hb (LeftP.turn hp g3 g2 ?_ ?_)⟩
      · exact (show MapQ M (a ++ (id, o) :: b) from by rw [← hs.row]; exact hp.mq).del hs.lo hs.hi
      · rw [hs.row, ofQ_append, ofQ_append, ofQ_cons, if_neg (by rw [hof]; exact hf0)]
        rfl))
    clear h1 ho e e2 hs hf hat H0 HS
    go_enter Try.func25, Try.ntmps25
    go_wp2_with fail
    refine HHB.out.mono ?_
    rintro e w2 ⟨rfl, rfl⟩
    go_wp2_with fail
    refine HLA.out.mono ?_
    rintro e w3 ⟨rfl, hb3⟩
    obtain ⟨c4, w4, hst, hl4⟩ := HX.out _ hb3
    have HL4 := Lib.hid hl4
    clear hl4
    go_wp2_with fail
    go_ret
    exact ⟨rfl, HL4.out⟩
end

end Go.Proofs.Ytkcbkimconaegaa
