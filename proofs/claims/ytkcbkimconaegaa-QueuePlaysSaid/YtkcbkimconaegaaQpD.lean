/-
  The program's add, Put, Fill, Keep, Give and Purge of queues.
  Conditions: none but sizes.
-/
import Derived.Test.YtkcbkimconaegaaQpR
import Derived.Deep.CutRange
import Derived.Deep.DeepCutAuto
namespace Go.Proofs.Ytkcbkimconaegaa
open Go.RowKit
set_option linter.unusedVariables false
set_option linter.unusedSimpArgs false
set_option maxRecDepth 100000

section
variable {w w' : World} {B qb mb lim kp last : Nat} {F : Nat → Prop} {q q' : QP} {v v' v0 : Value} {M M' : List (Nat × Value)} {l : List (Nat × Nat)}
theorem LeftP.mk_ (h : PI w' B qb v' mb M' q') (hm : MovedQ (FP qb mb v) w w') (hnew : ∀ g, v'.ownBlock = some g → v.ownBlock = some g ∨ w.heap.size ≤ g) : LeftP w B qb (FP qb mb v) q' w' :=
  ⟨FP qb mb v', ⟨v', mb, M', h, rfl⟩, fun k hk => by
    rcases hk with rfl | rfl | hk
    · exact .inl (.inl rfl)
    · exact .inl (.inr (.inl rfl))
    · rcases hnew k hk with h | h
      · exact .inl (.inr (.inr h))
      · exact .inr h, hm⟩
theorem PI.store3 (hb : BoxP w qb lim kp last v0 mb) (hr : RdQ w B v (ofQ 0 l)) (hm : MapS u64Fam w mb M) (hq : MapQ M l) (hB : B ≤ qb) (hM : B ≤ mb) : PI (w.setCell ⟨qb, 3, none⟩ v) B qb v mb M ⟨lim, l, kp, last⟩ :=
  ⟨hb.set3 v, hr.keep fun g hg => Below.heap_setCell _ _ _ _ (by show g ≠ qb; rintro rfl; exact hr.ne hb (by decide) hg), hm.keep (Below.heap_setCell _ _ _ _ (by show mb ≠ qb; exact fun e => hm.neCells hb e.symm)), hq, hB, hM⟩
theorem PI.set2 (h : PI w B qb v mb M q) (k : Nat) : PI (w.setCell ⟨qb, 2, none⟩ (.int .u64 k)) B qb v mb M { q with last := k } :=
  ⟨h.box.set2 k, h.row.keep fun g hg => Below.heap_setCell _ _ _ _ (by show g ≠ qb; rintro rfl; exact h.neRow hg), h.map.keep (Below.heap_setCell _ _ _ _ (by show mb ≠ qb; exact fun e => h.neMb e.symm)), h.mq, h.hB, h.hM⟩
theorem PI.set1 (h : PI w B qb v mb M q) (k : Nat) : PI (w.setCell ⟨qb, 1, none⟩ (.int .i64 k)) B qb v mb M { q with kept := k } :=
  ⟨h.box.set1 k, h.row.keep fun g hg => Below.heap_setCell _ _ _ _ (by show g ≠ qb; rintro rfl; exact h.neRow hg), h.map.keep (Below.heap_setCell _ _ _ _ (by show mb ≠ qb; exact fun e => h.neMb e.symm)), h.mq, h.hB, h.hM⟩
theorem LeftP.kept (h : PI w B qb v mb M q) (k : Nat) : LeftP w B qb (FP qb mb v) { q with kept := k } (w.setCell ⟨qb, 1, none⟩ (.int .i64 k)) :=
  LeftP.mk_ (h.set1 k) ((MovedQ.refl _ _).setCell (fun _ => .inl rfl) _ _) (fun g hg => .inl hg)

set_option maxHeartbeats 1000000 in
theorem padd_any (h : PW w B qb q F) (hn : q.l.length ≤ 1000000) (id : Nat) : Calls Try.prog 44 #[.pointer (some ⟨qb, 0, none⟩), .int .u64 id] w fun e w' => e = .returned (.tuple #[]) ∧ LeftP w B qb F (q.add id) w' := by
  obtain ⟨v, mb, M, h1, rfl⟩ := h
  obtain ⟨W, hW⟩ : ∃ W, W = w.alloc (Obj.cells #[.int .u64 id] 22) := ⟨_, rfl⟩
  have hb : Below w.heap.size w W := by rw [hW]; exact (Below.refl _ _).alloc (Nat.le_refl _) _
  have hW1 : W.heap.size = w.heap.size + 1 := by rw [hW]; simp
  have hm : ShowsG (natC .u64) W w.heap.size (.slice (some ⟨w.heap.size, 0, none⟩) 1 1) [id] := by rw [hW]; exact ShowsG.lit (C := natC .u64) [id] (by simp [Code.all, natC]) (by simp [maxLen])
  have h2 := h1.below hb
  have hl := two_len q.l
  have hBw : B ≤ w.heap.size := by have := h1.hB; have := h1.box.lt; omega
  have c3 := h1.box.c3
  have HAP := Lib.hid (fun ty => run_append_rd h2.row hm ty (by simp; omega) (by omega))
  have HM0 : MovedQ (FP qb mb v) w W := MovedQ.of_below hb
  have HN := Lib.hid (fun v' w' (h3 : RdQ w' B v' (ofQ 0 q.l ++ [id])) (hg : W.grownBy w' v.ownBlock) (hv : v'.ownBlock = v.ownBlock ∨ v'.ownBlock = some W.heap.size) => (show BoxP w' qb q.lim q.kept q.last v mb ∧ LeftP w B qb (FP qb mb v) (q.add id) ((w'.setCell ⟨qb, 3, none⟩ v').setCell ⟨qb, 2, none⟩ (.int .u64 id)) ∧ BoxP (w'.setCell ⟨qb, 3, none⟩ v') qb q.lim q.kept q.last v' mb from by
    have k1 : w'.heap[qb]? = W.heap[qb]? := hg.block _ h2.box.lt fun e => h2.neRow e.symm
    have k2 : w'.heap[mb]? = W.heap[mb]? := hg.block _ h2.map.lt fun e => h2.neRowM e.symm
    have bx : BoxP w' qb q.lim q.kept q.last v mb := k1.trans h2.box
    have hPI := PI.store3 (l := (q.add id).l) bx (by rw [show ofQ 0 (q.add id).l = ofQ 0 q.l ++ [id] from by simp [QP.add, ofQ_append, ofQ]]; exact h3) (h2.map.keep k2) (h2.mq.same (by simp [QP.add, heldQ])) h1.hB h1.hM
    refine ⟨bx, LeftP.mk_ (hPI.set2 id) ((((HM0.trans (MovedQ.of_grown (F := FP qb mb v) hg fun k e _ => .inr (.inr e)) fun k hk => .inl hk)).setCell (fun _ => .inl rfl) _ _).setCell (fun _ => .inl rfl) _ _) (fun g hg2 => ?_), hPI.box⟩
    rcases hv with e | e
    · exact .inl (by rw [← e]; exact hg2)
    · rw [e] at hg2
      cases hg2
      exact .inr (by omega)))
  have hf := h2.box.fr 3
  clear h1 h2 hl hBw hb hm HM0
  go_enter Try.func44, Try.ntmps44
  go_wp2_with (at_builtin; rw [← hW]; clear hW; obtain ⟨v', w1, hr, g1, g2, g3⟩ := HAP.out _; obtain ⟨A9, c9', hv9, _, _⟩ := g1.form; obtain ⟨n9, hn9⟩ : ∃ n9, n9 = (ofQ 0 q.l ++ [id]).length := ⟨_, rfl⟩; rw [← hn9] at hv9; clear hn9; subst hv9; refine Lib.wpList_append_run _ rfl (.tmp 8) (.tmp 10) _ _ rfl v _ rfl rfl _ w1 hr ?_; have hx := HN.out _ w1 g1 g2 g3; have f3 := hx.1.fr 3; have f2 := hx.2.2.fr 2; have c9 := hx.1.c3; have c8 := hx.2.2.c2; have HX := Lib.hid hx.2.1; clear hx hr g1 g2 g3)
  first | go_end0 | refine bodyPost_ret (results_none rfl _ _ _) rfl ?_
  exact ⟨rfl, HX.out⟩

end

end Go.Proofs.Ytkcbkimconaegaa
