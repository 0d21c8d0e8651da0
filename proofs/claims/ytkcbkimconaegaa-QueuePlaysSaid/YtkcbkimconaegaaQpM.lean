/-
  The program's queue in memory: its box, its row of ready numbers (which may begin anywhere in its block), its map of owners.
  Conditions: none.
-/
import Derived.Test.YtkcbkimconaegaaQpP
import Derived.Test.YtkcbkimconaegaaQuF
import Derived.Deep.AppendSrc
namespace Go.Proofs.Ytkcbkimconaegaa
open Go.RowKit
set_option linter.unusedVariables false
set_option linter.unusedSimpArgs false

theorem typesSizeQ : ∃ m, Try.prog.types.size = m + 1 := ⟨Try.prog.types.size - 1, by have : 0 < Try.prog.types.size := of_decide_eq_true (by kernel_rfl); omega⟩
/-- Keys that are numbers. -/
def u64Fam : KeyFam Try.prog 22 Nat where
  kv q := .int .u64 q
  ok q := q < 18446744073709551616
  law := Maps.int_keyed Try.underlying22
  lit q hq := ⟨.int .u64 q, by
    have h0 : IntKind.u64.wrap (q : Int) = q := by rw [IntKind.wrap_u64]; omega
    have h1 : (Lit.int IntKind.u64 (q : Int)).wf = true := by
      have e1 : IntKind.u64.min = 0 := by decide
      have e2 : IntKind.u64.max = 18446744073709551615 := by decide
      simp only [Lit.wf, e1, e2, Bool.and_eq_true, decide_eq_true_eq]
      omega
    simp [keyOf, Try.underlying22, mapKey, h1]⟩
  inj p q h := by
    have : (p : Int) = q := by injection h
    omega

/-- A row of numbers that may begin anywhere in its block. -/
def RdQ (w : World) (B : Nat) (v : Value) (l : List Nat) : Prop :=
  (v = .slice none 0 0 ∧ l = []) ∨ ∃ g off c cs, v = .slice (some ⟨g, off, none⟩) l.length c ∧ B ≤ g ∧ w.heap[g]? = some (.cells cs 22 (0, 0)) ∧ l.length ≤ c ∧ c ≤ maxLen ∧ off + c ≤ cs.size ∧ ∀ j (h : j < l.length), cs[off + j]? = some (.int .u64 l[j])
section
variable {w w' : World} {B : Nat} {v : Value} {l : List Nat}
theorem RdQ.form (h : RdQ w B v l) : ∃ A c, v = .slice A l.length c ∧ l.length ≤ c ∧ c ≤ maxLen := by
  rcases h with ⟨rfl, rfl⟩ | ⟨g, off, c, cs, rfl, _, _, h1, h2, _⟩
  · exact ⟨none, 0, rfl, Nat.le_refl _, by simp [maxLen]⟩
  · exact ⟨_, c, rfl, h1, h2⟩
theorem RdQ.block (h : RdQ w B v l) : ∀ g, v.ownBlock = some g → B ≤ g ∧ g < w.heap.size := by
  rcases h with ⟨rfl, rfl⟩ | ⟨g, off, c, cs, rfl, hB, hb, _⟩
  · intro g hg; cases hg
  · intro k hk; cases hk; exact ⟨hB, (Array.getElem?_eq_some_iff.1 hb).1⟩
theorem RdQ.keep (h : RdQ w B v l) (hk : ∀ g, v.ownBlock = some g → w'.heap[g]? = w.heap[g]?) : RdQ w' B v l := by
  rcases h with ⟨rfl, rfl⟩ | ⟨g, off, c, cs, rfl, hB, hb, h1, h2, h3, h4⟩
  · exact .inl ⟨rfl, rfl⟩
  · exact .inr ⟨g, off, c, cs, rfl, hB, (hk g rfl).trans hb, h1, h2, h3, h4⟩
theorem RdQ.shows (h : RdQ w B v l) : ∃ d, (0 < l.length → v.ownBlock = some d) ∧ ShowsG (natC .u64) w d v l := by
  rcases h with ⟨rfl, rfl⟩ | ⟨g, off, c, cs, rfl, hB, hb, h1, h2, h3, h4⟩
  · exact ⟨0, fun h => by simp at h, ShowsG.nil_ _ _ _⟩
  · refine ⟨g, fun _ => rfl, _, c, rfl, h1, h2, fun _ => ⟨off, rfl, (Array.getElem?_eq_some_iff.1 hb).1, fun j hj k hk => ?_⟩⟩
    have hk0 : k = 0 := by simp [natC] at hk; exact hk
    subst hk0
    rw [cell_of_row _ _ _ _ _ (0, 0) hb]
    have := h4 j hj
    simpa [natC] using this
theorem RdQ.ne {k : Nat} {cs : Array Value} {e : TypeId} {fr : Nat × Nat} (h : RdQ w B v l) (hk : w.heap[k]? = some (.cells cs e fr)) (he : 22 ≠ e) : v.ownBlock ≠ some k := by
  rcases h with ⟨rfl, rfl⟩ | ⟨g, off, c, cs, rfl, hB, hb, h1, h2, h3, h4⟩
  · intro h; cases h
  · intro h
    cases h
    rw [hb] at hk
    injection hk with hk
    injection hk with _ hk _
    exact he hk
theorem RdQ.neMap {κ : Type} {P : Program} {K : TypeId} {fam : KeyFam P K κ} {k : Nat} {M : List (κ × Value)} (h : RdQ w B v l) (hk : MapS fam w k M) : v.ownBlock ≠ some k := by
  rcases h with ⟨rfl, rfl⟩ | ⟨g, off, c, cs, rfl, hB, hb, h1, h2, h3, h4⟩
  · intro h; cases h
  · intro h
    cases h
    exact hk.neCells hb rfl
/-- The cells of a row that is not empty. -/
theorem RdQ.at_ {A : Option Addr} {n c : Nat} (h : RdQ w B (.slice A n c) l) (hp : 0 < l.length) : ∃ g off cs, A = some ⟨g, off, none⟩ ∧ n = l.length ∧ B ≤ g ∧ w.heap[g]? = some (.cells cs 22 (0, 0)) ∧ off + c ≤ cs.size ∧ l.length ≤ c ∧ c ≤ maxLen ∧ ∀ j (h : j < l.length), cs[off + j]? = some (.int .u64 l[j]) := by
  rcases h with ⟨e, rfl⟩ | ⟨g, off, c', cs, e, hB, hb, h1, h2, h3, h4⟩
  · simp at hp
  · cases e
    exact ⟨g, off, cs, rfl, rfl, hB, hb, h3, h1, h2, h4⟩
/-- What is behind the first one. -/
theorem RdQ.tail {A : Option Addr} {c n x : Nat} {r : List Nat} (h : RdQ w B (.slice A n c) (x :: r)) : RdQ w B (.slice (if c = 1 then A else A.map (fun y => y.add 1)) (n - 1) (c - 1)) r := by
  obtain ⟨g, off, cs, rfl, rfl, hB, hb, h3, h1, h2, h4⟩ := h.at_ (by simp)
  simp only [List.length_cons] at h1 h4 ⊢
  by_cases hc : c = 1
  · rw [if_pos hc]
    have : r.length = 0 := by omega
    have hr := List.eq_nil_of_length_eq_zero this
    subst hr
    exact .inr ⟨g, off, c - 1, cs, rfl, hB, hb, by simp, by omega, by omega, fun j hj => by simp at hj⟩
  · rw [if_neg hc]
    refine .inr ⟨g, off + 1, c - 1, cs, rfl, hB, hb, by omega, by omega, by omega, fun j hj => ?_⟩
    have := h4 (j + 1) (by omega)
    simpa [Nat.add_assoc, Nat.add_comm 1 j] using this
end

/-- The queue's box. -/
def BoxP (w : World) (qb lim kept last : Nat) (v : Value) (mb : Nat) : Prop := w.heap[qb]? = some (.cells #[.int .u64 lim, .int .i64 kept, .int .u64 last, v, .map (some mb)] 57 (0, 0))
section
variable {w w' : World} {qb lim kept last mb : Nat} {v : Value}
theorem BoxP.lt (h : BoxP w qb lim kept last v mb) : qb < w.heap.size := (Array.getElem?_eq_some_iff.1 h).1
theorem BoxP.c0 (h : BoxP w qb lim kept last v mb) : w.cell? ⟨qb, 0, none⟩ = some (.int .u64 lim) := by rw [cell_of_row _ _ _ _ _ (0, 0) h]; rfl
theorem BoxP.c1 (h : BoxP w qb lim kept last v mb) : w.cell? ⟨qb, 1, none⟩ = some (.int .i64 kept) := by rw [cell_of_row _ _ _ _ _ (0, 0) h]; rfl
theorem BoxP.c2 (h : BoxP w qb lim kept last v mb) : w.cell? ⟨qb, 2, none⟩ = some (.int .u64 last) := by rw [cell_of_row _ _ _ _ _ (0, 0) h]; rfl
theorem BoxP.c3 (h : BoxP w qb lim kept last v mb) : w.cell? ⟨qb, 3, none⟩ = some v := by rw [cell_of_row _ _ _ _ _ (0, 0) h]; rfl
theorem BoxP.c4 (h : BoxP w qb lim kept last v mb) : w.cell? ⟨qb, 4, none⟩ = some (.map (some mb)) := by rw [cell_of_row _ _ _ _ _ (0, 0) h]; rfl
theorem BoxP.fr (h : BoxP w qb lim kept last v mb) (j : Nat) : w.frozen? ⟨qb, j, none⟩ = false := frozen_of_row w qb j _ _ h
theorem BoxP.set1 (h : BoxP w qb lim kept last v mb) (k : Nat) : BoxP (w.setCell ⟨qb, 1, none⟩ (.int .i64 k)) qb lim k last v mb := heap_setCell_same w qb 1 _ 57 (.int .i64 k) h
theorem BoxP.set2 (h : BoxP w qb lim kept last v mb) (k : Nat) : BoxP (w.setCell ⟨qb, 2, none⟩ (.int .u64 k)) qb lim kept k v mb := heap_setCell_same w qb 2 _ 57 (.int .u64 k) h
theorem BoxP.set3 (h : BoxP w qb lim kept last v mb) (u : Value) : BoxP (w.setCell ⟨qb, 3, none⟩ u) qb lim kept last u mb := heap_setCell_same w qb 3 _ 57 u h
end

/-- The program's queue. -/
structure PI (w : World) (B qb : Nat) (v : Value) (mb : Nat) (M : List (Nat × Value)) (q : QP) : Prop where
  box : BoxP w qb q.lim q.kept q.last v mb
  row : RdQ w B v (ofQ 0 q.l)
  map : MapS u64Fam w mb M
  mq : MapQ M q.l
  hB : B ≤ qb
  hM : B ≤ mb
def FP (qb mb : Nat) (v : Value) (k : Nat) : Prop := k = qb ∨ k = mb ∨ v.ownBlock = some k
section
variable {w w' : World} {B qb mb : Nat} {v : Value} {M : List (Nat × Value)} {q : QP}
theorem PI.foot (h : PI w B qb v mb M q) : ∀ k, FP qb mb v k → B ≤ k ∧ k < w.heap.size := fun k hk => by
  rcases hk with rfl | rfl | hk
  · exact ⟨h.hB, h.box.lt⟩
  · exact ⟨h.hM, h.map.lt⟩
  · exact h.row.block k hk
theorem PI.keep (h : PI w B qb v mb M q) (hk : ∀ k, FP qb mb v k → w'.heap[k]? = w.heap[k]?) : PI w' B qb v mb M q :=
  ⟨(hk qb (.inl rfl)).trans h.box, h.row.keep fun g hg => hk g (.inr (.inr hg)), h.map.keep (hk mb (.inr (.inl rfl))), h.mq, h.hB, h.hM⟩
theorem PI.below (h : PI w B qb v mb M q) (hb : Below w.heap.size w w') : PI w' B qb v mb M q := h.keep fun k hk => hb.block k (h.foot k hk).2
theorem PI.neMb (h : PI w B qb v mb M q) : qb ≠ mb := fun e => h.map.neCells h.box e
theorem PI.neRow (h : PI w B qb v mb M q) : v.ownBlock ≠ some qb := h.row.ne h.box (by decide)
theorem PI.neRowM (h : PI w B qb v mb M q) : v.ownBlock ≠ some mb := h.row.neMap h.map
end
/-- A queue with its blocks. -/
def PW (w : World) (B qb : Nat) (q : QP) (F : Nat → Prop) : Prop := ∃ v mb M, PI w B qb v mb M q ∧ F = FP qb mb v
theorem PW.foot {w : World} {B qb : Nat} {q : QP} {F : Nat → Prop} (h : PW w B qb q F) : ∀ k, F k → B ≤ k ∧ k < w.heap.size := by
  obtain ⟨v, mb, M, h1, rfl⟩ := h
  exact h1.foot
theorem PW.keep {w w' : World} {B qb : Nat} {q : QP} {F : Nat → Prop} (h : PW w B qb q F) (hk : ∀ k, F k → w'.heap[k]? = w.heap[k]?) : PW w' B qb q F := by
  obtain ⟨v, mb, M, h1, rfl⟩ := h
  exact ⟨v, mb, M, h1.keep hk, rfl⟩
theorem PW.below {w w' : World} {B qb : Nat} {q : QP} {F : Nat → Prop} (h : PW w B qb q F) (hb : Below w.heap.size w w') : PW w' B qb q F := h.keep fun k hk => hb.block k (h.foot k hk).2
def LeftP (w : World) (B qb : Nat) (F : Nat → Prop) (q' : QP) (w' : World) : Prop := ∃ F', PW w' B qb q' F' ∧ (∀ k, F' k → F k ∨ w.heap.size ≤ k) ∧ MovedQ F w w'
def AnsP (w : World) (B qb : Nat) (F : Nat → Prop) (r : Nat × QP) (e : Ending) (w' : World) : Prop := e = .returned (.int .i64 r.1) ∧ LeftP w B qb F r.2 w'
def NextSaidP (w : World) (B qb : Nat) (F : Nat → Prop) (r : (Nat × Bool) × QP) (e : Ending) (w' : World) : Prop := e = .returned (.tuple #[.int .u64 r.1.1, .bool r.1.2]) ∧ LeftP w B qb F r.2 w'
section
variable {w w' : World} {B qb : Nat} {F : Nat → Prop} {q : QP}
theorem LeftP.same (h : PW w B qb q F) : LeftP w B qb F q w := ⟨F, h, fun k hk => .inl hk, MovedQ.refl _ _⟩
theorem LeftP.trans {w1 w2 : World} {F1 : Nat → Prop} {q2 : QP} (hs : ∀ k, F1 k → F k ∨ w.heap.size ≤ k) (hm : MovedQ F w w1) (h2 : LeftP w1 B qb F1 q2 w2) : LeftP w B qb F q2 w2 := by
  obtain ⟨F2, hq, hs2, hm2⟩ := h2
  refine ⟨F2, hq, fun k hk => ?_, hm.trans hm2 hs⟩
  rcases hs2 k hk with h | h
  · exact hs k h
  · exact .inr (Nat.le_trans hm.size h)
theorem LeftP.of_below (h : PW w B qb q F) (hb : Below w.heap.size w w') : LeftP w B qb F q w' := ⟨F, h.below hb, fun k hk => .inl hk, MovedQ.of_below hb⟩
theorem LeftP.after {w1 : World} {q1 : QP} (hb : Below w.heap.size w w1) (h2 : LeftP w1 B qb F q1 w') : LeftP w B qb F q1 w' :=
  LeftP.trans (F1 := F) (fun k hk => .inl hk) (MovedQ.of_below hb) h2
end
/-- What goes from an owner to another one. -/
def QP.hands (q : QP) (id f t : Nat) : Nat × QP := if f = 0 then (match q.find id with | none => (7, q) | some _ => (9, q)) else q.pass id f t
def QP.hold (q : QP) (id ow : Nat) : Nat × QP := if ow = 0 then (2, q) else q.pass id 0 ow
def QP.pass2 (q : QP) (id f t : Nat) : Nat × QP := if t = 0 then (2, q) else q.hands id f t
def QP.owner (q : QP) (id : Nat) : Nat × Nat := match q.find id with | none => (0, 7) | some i => ((q.at_ i).2, 0)
def ofP (ow : Nat) (l : List (Nat × Nat)) : List Nat := if ow = 0 then [] else ofQ ow l
theorem QP.ok.hands {q : QP} {id f t : Nat} (h : q.ok) (ht : t < 18446744073709551616) : (q.hands id f t).2.ok := by
  unfold QP.hands
  split
  · split <;> exact h
  · exact h.pass ht
theorem QP.ok.hold {q : QP} {id ow : Nat} (h : q.ok) (ht : ow < 18446744073709551616) : (q.hold id ow).2.ok := by
  unfold QP.hold
  split
  · exact h
  · exact h.pass ht
theorem QP.ok.pass2 {q : QP} {id f t : Nat} (h : q.ok) (ht : t < 18446744073709551616) : (q.pass2 id f t).2.ok := by
  unfold QP.pass2
  split
  · exact h
  · exact h.hands ht

end Go.Proofs.Ytkcbkimconaegaa
