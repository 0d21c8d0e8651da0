/-
  The program's Owner, lacks and its closures, of queues.
  Conditions: none but sizes.
-/
import Derived.Test.YtkcbkimconaegaaQpB
namespace Go.Proofs.Ytkcbkimconaegaa
open Go.RowKit
set_option linter.unusedVariables false
set_option linter.unusedSimpArgs false
set_option maxRecDepth 100000

theorem zeroHolder (w : World) : (zeroValue 70).run Try.prog w = .ok (.agg #[.int .u64 0]) w := by rw [Try.zeroValue70]
theorem pmap_look {w : World} {mb : Nat} {M : List (Nat × Value)} (h : MapS u64Fam w mb M) {id : Nat} (hi : id < 18446744073709551616) : (Instr.lookup 55 (.map (some mb)) (.int .u64 id) true).run Try.prog w = .ok (.tuple #[(getA id M).getD (.agg #[.int .u64 0]), .bool (getA id M).isSome]) w :=
  h.look Try.underlying55 (q := id) hi (zeroHolder w)
/-- Who holds a message, told of the map and the row. -/
theorem owner_cases {q : QP} {M : List (Nat × Value)} (ho : q.ok) (hm : MapQ M q.l) (id : Nat) :
    (∃ o, o ≠ 0 ∧ q.owner id = (o, 0) ∧ getA id M = some (.agg #[.int .u64 o])) ∨ ∃ (b : Bool) (r s : List Nat), q.owner id = (0, if b then 0 else 7) ∧ getA id M = none ∧ ofQ 0 q.l = r ++ s ∧ (∀ y ∈ r, y < id) ∧ (∀ y ∈ s, id ≤ y) ∧ decide (s.head? = some id) = b := by
  cases hf : q.find id with
  | none =>
    obtain ⟨r, s, e, h1, h2⟩ := ready_cut ho id (find_is_none hf)
    refine .inr ⟨false, r, s, by simp [QP.owner, hf], hm.getNone fun x hx e => absurd e (find_is_none hf x hx), e, h1, fun y hy => Nat.le_of_lt (h2 y hy), ?_⟩
    rw [decide_eq_false_iff_not]
    intro e
    have := h2 id (List.mem_of_mem_head? e)
    omega
  | some i =>
    obtain ⟨o, a, b, hs⟩ := find_some ho hf
    by_cases h0 : o = 0
    · subst h0
      obtain ⟨e, h1, h2⟩ := ready_split hs
      rw [if_pos rfl] at e
      refine .inr ⟨true, ofQ 0 a, id :: ofQ 0 b, by simp [QP.owner, hf, hs.at_], hm.getNone fun x hx e => ?_, e, h1, fun y hy => ?_, by simp⟩
      · rw [hs.row] at hx
        rcases List.mem_append.1 hx with hx | hx
        · have := hs.lo x hx; omega
        · rcases List.mem_cons.1 hx with rfl | hx
          · rfl
          · have := hs.hi x hx; omega
      · rcases List.mem_cons.1 hy with rfl | hy
        · exact Nat.le_refl _
        · exact Nat.le_of_lt (h2 y hy)
    · exact .inl ⟨o, h0, by simp [QP.owner, hf, hs.at_], hm.getSome (by rw [hs.row]; simp) h0⟩
section
variable {w w' : World} {B qb : Nat} {F : Nat → Prop} {q : QP}
set_option maxHeartbeats 1000000 in
theorem rowner_any (h : PW w B qb q F) (ho : q.ok) (hn : q.l.length ≤ 1000000) (id : Nat) (hi : id < 18446744073709551616) : Calls Try.prog 10 #[.pointer (some ⟨qb, 0, none⟩), .int .u64 id] w fun e w' => e = .returned (.tuple #[.int .u64 (q.owner id).1, .int .i64 (q.owner id).2]) ∧ Below w.heap.size w w' := by
  have HM := Lib.hid (pmade_any h)
  obtain ⟨v, mb, M, h1, _⟩ := h
  have c3 := h1.box.c3
  have c4 := h1.box.c4
  have hlk := pmap_look h1.map hi
  rcases owner_cases ho h1.mq id with ⟨o, h0, e, hg⟩ | ⟨b, r, s, e, hg, hr, hlo, hhi, hb⟩
  · rw [e]
    rw [hg] at hlk
    clear h1 e hg c3
    go_enter Try.func10, Try.ntmps10
    go_wp2_with fail
    refine HM.out.mono ?_
    rintro e w1 ⟨rfl, rfl⟩
    go_wp2_with fail
    go_ret2
    exact ⟨rfl, (Below.refl _ _).alloc (Nat.le_refl _) _⟩
  · obtain ⟨A, c, rfl, hc1, hc2⟩ := h1.row.form
    obtain ⟨d, _, hsh⟩ := h1.row.shows
    have hl := two_len q.l
    rw [hr] at c3 hsh
    have HF := Lib.hid (fun w' (hb : Below w.heap.size w w') => (pfind_any A c _ d id r s w' rfl (hsh.below' hb (Nat.le_refl _)) hlo hhi (by rw [← hr]; omega)).mono fun e w'' hx => (show e = .returned (.tuple #[.int .i64 r.length, .bool (decide (s.head? = some id))]) ∧ Below w.heap.size w w'' from ⟨hx.1, hb.trans (hx.2.mono hb.size)⟩))
    have hbw : Below w.heap.size w (w.alloc (.cells #[.int .u64 0] 70)) := (Below.refl _ _).alloc (Nat.le_refl _) _
    have HB := Lib.hid hbw
    rw [e]
    rw [hg] at hlk
    rw [hb] at HF
    generalize (r ++ s).length = n at *
    generalize r.length = k at *
    have h3 : ∀ x, (w.alloc (.cells #[.int .u64 0] 70)).cell? ⟨qb, x, none⟩ = w.cell? ⟨qb, x, none⟩ := fun x => World.cell?_of_block (w := w) (hbw.block qb h1.box.lt)
    have c3' := (h3 3).trans c3
    clear h1 e hg hsh hr hlo hhi hb hbw hl c3 h3
    cases b
    all_goals
      go_enter Try.func10, Try.ntmps10
      go_wp2_with fail
      refine HM.out.mono ?_
      rintro e w1 ⟨rfl, rfl⟩
      go_wp2_with fail
      refine (HF.out _ HB.out).mono ?_
      rintro e w2 ⟨rfl, hb2⟩
      go_wp2_with fail
      go_ret2
      exact ⟨rfl, hb2⟩
theorem pheld_any (o : Nat) (w : World) : Calls Try.prog 50 #[.int .u64 o] w fun e w' => e = .returned (.func (.func 60) #[] #[.pointer (some ⟨w.heap.size, 0, none⟩)]) ∧ w' = w.alloc (.cells #[.int .u64 o] 22) := by
  go_enter Try.func50, Try.ntmps50
  go_wp2_with fail
  go_ret
  exact ⟨rfl, rfl⟩
/-- What the closure says. -/
def heldBy (o by_ : Nat) : Bool := decide (o ≠ 0 ∧ by_ = o)
theorem pclo1_any (o by_ bx : Nat) (w : World) (hc : w.cell? ⟨bx, 0, none⟩ = some (.int .u64 o)) : Calls Try.prog 60 #[.int .u64 by_, .pointer (some ⟨bx, 0, none⟩)] w fun e w' => e = .returned (.bool (heldBy o by_)) ∧ w' = w := by
  by_cases h0 : o = 0
  · have e : heldBy o by_ = false := by simp [heldBy, h0]
    rw [e]
    subst h0
    clear e
    go_enter Try.func60, Try.ntmps60
    go_wp2_with fail
    go_ret
    exact ⟨rfl, rfl⟩
  · obtain ⟨b, hb⟩ : ∃ b, b = heldBy o by_ := ⟨_, rfl⟩
    have h1 : ((o : Int) == 0) = false := by rw [beq_eq_false_iff_ne]; omega
    have h2 : ((by_ : Int) == (o : Int)) = b := by rw [hb, Bool.eq_iff_iff, beq_iff_eq]; unfold heldBy; rw [decide_eq_true_iff]; omega
    have h3 : decide ((by_ : Int) = (o : Int)) = b := by rw [← h2]; rfl
    rw [← hb]
    clear hb
    go_enter Try.func60, Try.ntmps60
    go_wp2_with fail
    go_ret
    exact ⟨by first | rfl | (simp; intro _; exact h0) | simp, rfl⟩
theorem pclo2_any (by_ : Nat) (w : World) : Calls Try.prog 52 #[.int .u64 by_] w fun e w' => e = .returned (.bool (decide (by_ = 0))) ∧ w' = w := by
  obtain ⟨b, hb⟩ : ∃ b, b = decide (by_ = 0) := ⟨_, rfl⟩
  have h2 : ((by_ : Int) == 0) = b := by rw [hb, Bool.eq_iff_iff, beq_iff_eq, decide_eq_true_iff]; omega
  have h3 : decide ((by_ : Int) = 0) = b := by rw [← h2]; rfl
  rw [← hb]
  clear hb
  go_enter Try.func52, Try.ntmps52
  go_wp2_with fail
  go_ret
  exact ⟨by first | rfl | simp, rfl⟩
theorem pclo3_any (by_ : Nat) (w : World) : Calls Try.prog 48 #[.int .u64 by_] w fun e w' => e = .returned (.bool true) ∧ w' = w := by
  go_enter Try.func48, Try.ntmps48
  go_wp2_with fail
  go_ret
  exact ⟨rfl, rfl⟩
/-- What lacks answers. -/
def lackE (p : Nat → Bool) (r : Nat × Nat) : Nat := if r.2 = 0 then (if p r.1 then 0 else 9) else r.2
set_option maxHeartbeats 1000000 in
theorem placks1_any (h : PW w B qb q F) (ho : q.ok) (hn : q.l.length ≤ 1000000) (id : Nat) (hi : id < 18446744073709551616) (ow bx : Nat) (hc : w.cell? ⟨bx, 0, none⟩ = some (.int .u64 ow)) (hbx : bx < w.heap.size) : Calls Try.prog 51 #[.pointer (some ⟨qb, 0, none⟩), .int .u64 id, .func (.func 60) #[] #[.pointer (some ⟨bx, 0, none⟩)]] w fun e w' => e = .returned (.int .i64 (lackE (heldBy ow) (q.owner id))) ∧ Below w.heap.size w w' := by
  have HO := Lib.hid (rowner_any h ho hn id hi)
  have H2 : (q.owner id).2 = 0 ∨ (q.owner id).2 = 7 := by unfold QP.owner; split <;> simp
  generalize q.owner id = R at *
  obtain ⟨o, e⟩ := R
  simp only [] at HO H2
  have HC := Lib.hid (fun w' (hb : Below w.heap.size w w') => pclo1_any ow o bx w' ((World.cell?_of_block (w := w) (hb.block bx hbx)).trans hc))
  clear hc
  clear h
  rcases H2 with rfl | rfl
  · obtain ⟨b, hb⟩ : ∃ b, b = heldBy ow o := ⟨_, rfl⟩
    rw [← hb] at HC
    have e1 : lackE (heldBy ow) (o, 0) = if b then 0 else 9 := by rw [hb]; rfl
    rw [e1]
    clear e1 hb
    cases b
    all_goals
      go_enter Try.func51, Try.ntmps51
      go_wp2_with fail
      refine HO.out.mono ?_
      rintro e w1 ⟨rfl, hb1⟩
      have HC1 := HC.out w1 hb1
      go_wp2_with fail
      refine HC1.mono ?_
      rintro e w2 ⟨rfl, rfl⟩
      go_wp2_with fail
      go_ret
      exact ⟨rfl, hb1⟩
  · have e1 : lackE (heldBy ow) (o, 7) = 7 := rfl
    rw [e1]
    clear e1 HC
    go_enter Try.func51, Try.ntmps51
    go_wp2_with fail
    refine HO.out.mono ?_
    rintro e w1 ⟨rfl, hb1⟩
    go_wp2_with fail
    go_ret
    exact ⟨rfl, hb1⟩
set_option maxHeartbeats 1000000 in
theorem placks2_any (h : PW w B qb q F) (ho : q.ok) (hn : q.l.length ≤ 1000000) (id : Nat) (hi : id < 18446744073709551616) : Calls Try.prog 51 #[.pointer (some ⟨qb, 0, none⟩), .int .u64 id, .func (.func 52) #[] #[]] w fun e w' => e = .returned (.int .i64 (lackE (fun o => decide (o = 0)) (q.owner id))) ∧ Below w.heap.size w w' := by
  have HO := Lib.hid (rowner_any h ho hn id hi)
  have H2 : (q.owner id).2 = 0 ∨ (q.owner id).2 = 7 := by unfold QP.owner; split <;> simp
  generalize q.owner id = R at *
  obtain ⟨o, e⟩ := R
  simp only [] at HO H2
  have HC := Lib.hid (fun w' (hb : Below w.heap.size w w') => pclo2_any o w')
  clear h
  rcases H2 with rfl | rfl
  · obtain ⟨b, hb⟩ : ∃ b, b = decide (o = 0) := ⟨_, rfl⟩
    rw [← hb] at HC
    have e1 : lackE (fun o => decide (o = 0)) (o, 0) = if b then 0 else 9 := by rw [hb]; rfl
    rw [e1]
    clear e1 hb
    cases b
    all_goals
      go_enter Try.func51, Try.ntmps51
      go_wp2_with fail
      refine HO.out.mono ?_
      rintro e w1 ⟨rfl, hb1⟩
      have HC1 := HC.out w1 hb1
      go_wp2_with fail
      refine HC1.mono ?_
      rintro e w2 ⟨rfl, rfl⟩
      go_wp2_with fail
      go_ret
      exact ⟨rfl, hb1⟩
  · have e1 : lackE (fun o => decide (o = 0)) (o, 7) = 7 := rfl
    rw [e1]
    clear e1 HC
    go_enter Try.func51, Try.ntmps51
    go_wp2_with fail
    refine HO.out.mono ?_
    rintro e w1 ⟨rfl, hb1⟩
    go_wp2_with fail
    go_ret
    exact ⟨rfl, hb1⟩
end

end Go.Proofs.Ytkcbkimconaegaa
