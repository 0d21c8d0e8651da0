/-
  A queue of the program and one of the document's side by side; the law's hands.
  Conditions: none but sizes.
-/
import Derived.Test.YtkcbkimconaegaaQuX
import Derived.Deep.RegionHeld3
namespace Go.Proofs.Ytkcbkimconaegaa
open Go.RowKit
set_option linter.unusedVariables false
set_option linter.unusedSimpArgs false
set_option maxRecDepth 100000

/-- Both queues, apart from one another and from the blocks of X. -/
structure Duo (w0 : World) (pb qb : Nat) (p q : QP) (X : Nat → Prop) (w : World) : Prop where
  bel : Below w0.heap.size w0 w
  okp : p.ok
  okq : q.ok
  two : ∃ F G, PW w w0.heap.size pb p F ∧ QW w w0.heap.size qb q G ∧ (∀ k, F k → ¬ G k) ∧ ∀ k, X k → k < w.heap.size ∧ ¬ F k ∧ ¬ G k
/-- The blocks of X are as they were. -/
def KeptX (X : Nat → Prop) (w w' : World) : Prop := ∀ k, X k → w'.heap[k]? = w.heap[k]?
theorem KeptX.trans {X : Nat → Prop} {w w1 w2 : World} (h : KeptX X w w1) (h2 : KeptX X w1 w2) : KeptX X w w2 := fun k hk => (h2 k hk).trans (h k hk)
section
variable {w0 w w' : World} {pb qb : Nat} {p p' q q' : QP} {X Y : Nat → Prop} {r : Ending} {f : FuncId} {args : Array Value}
theorem Duo.step (h : Duo w0 pb qb p q X w) (hb : Below w.heap.size w w') : Duo w0 pb qb p q X w' ∧ KeptX X w w' := by
  obtain ⟨F, G, h1, h2, h3, h4⟩ := h.two
  exact ⟨⟨h.bel.trans (hb.mono h.bel.size), h.okp, h.okq, F, G, h1.keep fun k hk => hb.block k (h1.foot k hk).2, h2.keep fun k hk => hb.block k (h2.foot k hk).2, h3, fun k hk => ⟨Nat.lt_of_lt_of_le (h4 k hk).1 hb.size, (h4 k hk).2⟩⟩, fun k hk => hb.block k (h4 k hk).1⟩
theorem Duo.drw (h : Duo w0 pb qb p q X w) : Duo w0 pb qb p q X w.drew := (h.step (below_drew1 (Below.refl _ _))).1
/-- More blocks are kept. -/
theorem Duo.more (h : Duo w0 pb qb p q X w) (o : Obj) : Duo w0 pb qb p q (fun k => X k ∨ k = w.heap.size) (w.alloc o) := by
  obtain ⟨F, G, h1, h2, h3, h4⟩ := h.two
  have hb : Below w.heap.size w (w.alloc o) := (Below.refl _ _).alloc (Nat.le_refl _) _
  refine ⟨h.bel.trans (hb.mono h.bel.size), h.okp, h.okq, F, G, h1.keep fun k hk => hb.block k (h1.foot k hk).2, h2.keep fun k hk => hb.block k (h2.foot k hk).2, h3, fun k hk => ?_⟩
  rcases hk with hk | rfl
  · exact ⟨Nat.lt_of_lt_of_le (h4 k hk).1 hb.size, (h4 k hk).2⟩
  · exact ⟨by simp, fun hF => by have := (h1.foot _ hF).2; omega, fun hG => by have := (h2.foot _ hG).2; omega⟩
theorem Duo.less (h : Duo w0 pb qb p q X w) (hs : ∀ k, Y k → X k) : Duo w0 pb qb p q Y w := by
  obtain ⟨F, G, h1, h2, h3, h4⟩ := h.two
  exact ⟨h.bel, h.okp, h.okq, F, G, h1, h2, h3, fun k hk => h4 k (hs k hk)⟩
/-- A call of the program's queue. -/
theorem Duo.callP (h : Duo w0 pb qb p q X w) (ho : p'.ok) (hc : ∀ F, PW w w0.heap.size pb p F → Calls Try.prog f args w fun e w' => e = r ∧ LeftP w w0.heap.size pb F p' w') : Calls Try.prog f args w fun e w' => e = r ∧ Duo w0 pb qb p' q X w' ∧ KeptX X w w' := by
  obtain ⟨F, G, h1, h2, h3, h4⟩ := h.two
  refine (hc F h1).mono ?_
  rintro e w' ⟨rfl, F', g1, g2, g3⟩
  refine ⟨rfl, ⟨g3.below h.bel (fun k hk => (h1.foot k hk).1) h.bel.size, ho, h.okq, F', G, g1, h2.keep fun k hk => g3.block k (h2.foot k hk).2 (fun hF => h3 k hF hk), fun k hk hG => ?_, fun k hk => ⟨Nat.lt_of_lt_of_le (h4 k hk).1 g3.size, fun hF => ?_, (h4 k hk).2.2⟩⟩, fun k hk => g3.block k (h4 k hk).1 (h4 k hk).2.1⟩
  · rcases g2 k hk with h5 | h5
    · exact h3 k h5 hG
    · have := (h2.foot k hG).2; omega
  · rcases g2 k hF with h5 | h5
    · exact (h4 k hk).2.1 h5
    · have := (h4 k hk).1; omega
/-- A call of the document's. -/
theorem Duo.callQ (h : Duo w0 pb qb p q X w) (ho : q'.ok) (hc : ∀ G, QW w w0.heap.size qb q G → Calls Try.prog f args w fun e w' => e = r ∧ LeftQ w w0.heap.size qb G q' w') : Calls Try.prog f args w fun e w' => e = r ∧ Duo w0 pb qb p q' X w' ∧ KeptX X w w' := by
  obtain ⟨F, G, h1, h2, h3, h4⟩ := h.two
  refine (hc G h2).mono ?_
  rintro e w' ⟨rfl, G', g1, g2, g3⟩
  refine ⟨rfl, ⟨g3.below h.bel (fun k hk => (h2.foot k hk).1) h.bel.size, h.okp, ho, F, G', h1.keep fun k hk => g3.block k (h1.foot k hk).2 (fun hG => h3 k hk hG), g1, fun k hk hG => ?_, fun k hk => ⟨Nat.lt_of_lt_of_le (h4 k hk).1 g3.size, (h4 k hk).2.1, fun hG => ?_⟩⟩, fun k hk => g3.block k (h4 k hk).1 (h4 k hk).2.2⟩
  · rcases g2 k hG with h5 | h5
    · exact h3 k hk h5
    · have := (h1.foot k hk).2; omega
  · rcases g2 k hG with h5 | h5
    · exact (h4 k hk).2.2 h5
    · have := (h4 k hk).1; omega
/-- A call that only reads. -/
theorem Duo.callR (h : Duo w0 pb qb p q X w) (hc : ∀ F G, PW w w0.heap.size pb p F → QW w w0.heap.size qb q G → Calls Try.prog f args w fun e w' => e = r ∧ Below w.heap.size w w') : Calls Try.prog f args w fun e w' => e = r ∧ Duo w0 pb qb p q X w' ∧ KeptX X w w' := by
  obtain ⟨F, G, h1, h2, h3, h4⟩ := h.two
  refine (hc F G h1 h2).mono ?_
  rintro e w' ⟨rfl, hb⟩
  exact ⟨rfl, h.step hb⟩
end

section
variable {w w' : World} {B qb : Nat} {F : Nat → Prop} {q : QP}
set_option maxHeartbeats 1000000 in
theorem hands_any (h : QW w B qb q F) (hn : q.l.length ≤ 1000000) (id f t : Nat) : Calls Try.prog 35 #[.pointer (some ⟨qb, 0, none⟩), .int .u64 id, .int .u64 f, .int .u64 t] w (AnsQ w B qb F (q.hands id f t)) := by
  have H0 := Lib.hid (LeftQ.same h)
  have HFD := Lib.hid (qfind_any h hn id)
  have HP := Lib.hid (qpass_any h hn id f t)
  unfold AnsQ at HP ⊢
  clear h
  by_cases h0 : f = 0
  · subst h0
    cases hr : q.find id with
    | none =>
      have e : q.hands id 0 t = (7, q) := by unfold QP.hands; rw [if_pos rfl, hr]
      rw [e]
      rw [hr] at HFD
      unfold placeV at HFD
      clear e hr HP
      go_enter Try.func35, Try.ntmps35
      go_wp2_with fail
      refine HFD.out.mono ?_
      rintro e w1 ⟨rfl, rfl⟩
      go_wp2_with fail
      go_ret
      exact ⟨rfl, H0.out⟩
    | some i =>
      have e : q.hands id 0 t = (9, q) := by unfold QP.hands; rw [if_pos rfl, hr]
      rw [e]
      rw [hr] at HFD
      unfold placeV at HFD
      simp only [] at HFD
      have b0 : ¬ (i : Int) < 0 := by omega
      clear e hr HP
      go_enter Try.func35, Try.ntmps35
      go_wp2_with fail
      refine HFD.out.mono ?_
      rintro e w1 ⟨rfl, rfl⟩
      go_wp2_with fail
      go_ret
      exact ⟨rfl, H0.out⟩
  · have t0 : ((f : Int) == 0) = false := by rw [beq_eq_false_iff_ne]; omega
    have e : q.hands id f t = q.pass id f t := if_neg h0
    rw [e]
    generalize q.pass id f t = R at *
    clear e h0 HFD
    go_enter Try.func35, Try.ntmps35
    go_wp2_with fail
    refine HP.out.mono ?_
    rintro e w1 ⟨rfl, hl⟩
    go_wp2_with fail
    go_ret
    exact ⟨rfl, hl⟩
end

end Go.Proofs.Ytkcbkimconaegaa
