/-
  The document's queue in memory; what a call of it leaves.
  Conditions: none.
-/
import Derived.Test.YtkcbkimconaegaaQuP
import Derived.Test.YtkcbkimconaegaaP
import Derived.Test.YtkcbkimconaegaaBig
namespace Go.Proofs.Ytkcbkimconaegaa
open Go.RowKit
set_option linter.unusedVariables false
set_option linter.unusedSimpArgs false

theorem infoMs : (Try.prog.info? 68).map (fun i => (i.zero, i.size, i.bytes)) = some (some (.agg #[.int .u64 0, .int .u64 0]), (pairC .u64).sz, 16) := by kernel_rfl
theorem infoU64 : (Try.prog.info? 22).map (fun i => (i.zero, i.size, i.bytes)) = some (some (.int .u64 0), (natC .u64).sz, 8) := by kernel_rfl

/-- The queue's box, and its row. -/
structure QI (w : World) (B qb : Nat) (A : Option Addr) (c : Nat) (q : QP) : Prop where
  box : w.heap[qb]? = some (.cells #[.int .u64 q.lim, .slice A q.l.length c, .int .i64 q.kept, .int .u64 q.last] 29 (0, 0))
  row : OwnG (pairC .u64) 68 w B (.slice A q.l.length c) q.l
  ne : ∀ g, (Value.slice A q.l.length c).ownBlock = some g → g ≠ qb
  hB : B ≤ qb
/-- Which blocks are the queue's. -/
def FQ (qb : Nat) (A : Option Addr) (n c : Nat) (k : Nat) : Prop := k = qb ∨ (Value.slice A n c).ownBlock = some k
section
variable {w w' : World} {B qb : Nat} {A : Option Addr} {c : Nat} {q : QP}
theorem QI.lt (h : QI w B qb A c q) : qb < w.heap.size := (Array.getElem?_eq_some_iff.1 h.box).1
theorem QI.c0 (h : QI w B qb A c q) : w.cell? ⟨qb, 0, none⟩ = some (.int .u64 q.lim) := cell_of_row w qb 0 _ 29 (0, 0) h.box
theorem QI.c1 (h : QI w B qb A c q) : w.cell? ⟨qb, 1, none⟩ = some (.slice A q.l.length c) := cell_of_row w qb 1 _ 29 (0, 0) h.box
theorem QI.c2 (h : QI w B qb A c q) : w.cell? ⟨qb, 2, none⟩ = some (.int .i64 q.kept) := cell_of_row w qb 2 _ 29 (0, 0) h.box
theorem QI.c3 (h : QI w B qb A c q) : w.cell? ⟨qb, 3, none⟩ = some (.int .u64 q.last) := cell_of_row w qb 3 _ 29 (0, 0) h.box
theorem QI.fr (h : QI w B qb A c q) (i : Nat) : w.frozen? ⟨qb, i, none⟩ = false := frozen_of_row w qb i _ 29 h.box
theorem QI.foot (h : QI w B qb A c q) : ∀ k, FQ qb A q.l.length c k → B ≤ k ∧ k < w.heap.size := fun k hk => by
  rcases hk with rfl | hk
  · exact ⟨h.hB, h.lt⟩
  · exact h.row.block k hk
theorem QI.keep (h : QI w B qb A c q) (hk : ∀ k, FQ qb A q.l.length c k → w'.heap[k]? = w.heap[k]?) : QI w' B qb A c q :=
  ⟨(hk qb (.inl rfl)).trans h.box, h.row.keep fun g hg => hk g (.inr hg), h.ne, h.hB⟩
theorem QI.below (h : QI w B qb A c q) (hb : Below w.heap.size w w') : QI w' B qb A c q := h.keep fun k hk => hb.block k (h.foot k hk).2
/-- A message's cells. -/
theorem QI.at_ (h : QI w B qb A c q) {j : Nat} (hj : j < q.l.length) : ∃ b, A = some ⟨b, 0, none⟩ ∧ b ≠ qb ∧ w.cell? ⟨b, j * 2, none⟩ = some (.int .u64 (q.l[j].1 : Nat)) ∧ w.cell? ⟨b, j * 2 + 1, none⟩ = some (.int .u64 (q.l[j].2 : Nat)) ∧ ∀ i, w.frozen? ⟨b, i, none⟩ = false := by
  obtain ⟨b, rfl, _, _, hf, hc⟩ := h.row.at_ (by omega)
  exact ⟨b, rfl, h.ne b rfl, hc j hj 0 (by decide), hc j hj 1 (by decide), hf⟩
end
/-- A queue with its blocks. -/
def QW (w : World) (B qb : Nat) (q : QP) (F : Nat → Prop) : Prop := ∃ A c, QI w B qb A c q ∧ F = FQ qb A q.l.length c
theorem QW.foot {w : World} {B qb : Nat} {q : QP} {F : Nat → Prop} (h : QW w B qb q F) : ∀ k, F k → B ≤ k ∧ k < w.heap.size := by
  obtain ⟨A, c, h1, rfl⟩ := h
  exact h1.foot
theorem QW.keep {w w' : World} {B qb : Nat} {q : QP} {F : Nat → Prop} (h : QW w B qb q F) (hk : ∀ k, F k → w'.heap[k]? = w.heap[k]?) : QW w' B qb q F := by
  obtain ⟨A, c, h1, rfl⟩ := h
  exact ⟨A, c, h1.keep hk, rfl⟩
/-- w' is w but for blocks of F and new ones. -/
structure MovedQ (F : Nat → Prop) (w w' : World) : Prop where
  os : w'.os = w.os
  tape : w'.tape = w.tape
  output : w'.output = w.output
  size : w.heap.size ≤ w'.heap.size
  block : ∀ k, k < w.heap.size → ¬ F k → w'.heap[k]? = w.heap[k]?
section
variable {F : Nat → Prop} {w w1 w2 : World}
theorem MovedQ.refl (F : Nat → Prop) (w : World) : MovedQ F w w := ⟨rfl, rfl, rfl, Nat.le_refl _, fun _ _ _ => rfl⟩
theorem MovedQ.of_below (h : Below w.heap.size w w1) : MovedQ F w w1 := ⟨h.os, h.tape, h.output, h.size, fun k hk _ => h.block k hk⟩
theorem MovedQ.step (h : MovedQ F w w1) (hb : Below w1.heap.size w1 w2) : MovedQ F w w2 :=
  ⟨hb.os.trans h.os, hb.tape.trans h.tape, hb.output.trans h.output, Nat.le_trans h.size hb.size, fun k hk hF => (hb.block k (Nat.lt_of_lt_of_le hk h.size)).trans (h.block k hk hF)⟩
theorem MovedQ.setCell (h : MovedQ F w w1) {k : Nat} (hF : k < w.heap.size → F k) (i : Nat) (v : Value) : MovedQ F w (w1.setCell ⟨k, i, none⟩ v) :=
  ⟨h.os, h.tape, h.output, by simpa using h.size, fun j hj hn => (Below.heap_setCell _ _ _ _ (by show j ≠ k; rintro rfl; exact hn (hF hj))).trans (h.block j hj hn)⟩
theorem MovedQ.below {w0 : World} {B : Nat} (hb : Below B w0 w) (h : MovedQ F w w1) (hB : ∀ k, F k → B ≤ k) (hw : B ≤ w.heap.size) : Below B w0 w1 :=
  ⟨h.os.trans hb.os, h.tape.trans hb.tape, h.output.trans hb.output, Nat.le_trans hb.size h.size, fun k hk => (h.block k (by omega) (fun e => by have := hB k e; omega)).trans (hb.block k hk)⟩
theorem MovedQ.trans {F' : Nat → Prop} (h : MovedQ F w w1) (h1 : MovedQ F' w1 w2) (hs : ∀ k, F' k → F k ∨ w.heap.size ≤ k) : MovedQ F w w2 :=
  ⟨h1.os.trans h.os, h1.tape.trans h.tape, h1.output.trans h.output, Nat.le_trans h.size h1.size, fun k hk hF => (h1.block k (Nat.lt_of_lt_of_le hk h.size) fun e => by rcases hs k e with h | h; exact hF h; omega).trans (h.block k hk hF)⟩
end
/-- What a call leaves of a queue that is q' then. -/
def LeftQ (w : World) (B qb : Nat) (F : Nat → Prop) (q' : QP) (w' : World) : Prop := ∃ F', QW w' B qb q' F' ∧ (∀ k, F' k → F k ∨ w.heap.size ≤ k) ∧ MovedQ F w w'
theorem LeftQ.same {w : World} {B qb : Nat} {F : Nat → Prop} {q : QP} (h : QW w B qb q F) : LeftQ w B qb F q w := ⟨F, h, fun k hk => .inl hk, MovedQ.refl _ _⟩
theorem LeftQ.trans {w w1 w2 : World} {B qb : Nat} {F F1 : Nat → Prop} {q2 : QP} (hs : ∀ k, F1 k → F k ∨ w.heap.size ≤ k) (hm : MovedQ F w w1) (h2 : LeftQ w1 B qb F1 q2 w2) : LeftQ w B qb F q2 w2 := by
  obtain ⟨F2, hq, hs2, hm2⟩ := h2
  refine ⟨F2, hq, fun k hk => ?_, hm.trans hm2 hs⟩
  rcases hs2 k hk with h | h
  · exact hs k h
  · exact .inr (Nat.le_trans hm.size h)

end Go.Proofs.Ytkcbkimconaegaa
