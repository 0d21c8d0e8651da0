/-
  The document's queue in memory; what a call of it leaves.
  Conditions: none.
-/
import Derived.Test.YtgomlpmbmemkiaaQuP
import Derived.Test.YtgomlpmbmemkiaaP
import Derived.Test.YtgomlpmbmemkiaaBig
namespace Go.Proofs.Ytgomlpmbmemkiaa
open Go.RowKit
set_option linter.unusedVariables false
set_option linter.unusedSimpArgs false

theorem infoU64 : (Try.prog.info? 27).map (fun i => (i.zero, i.size, i.bytes)) = some (some (.int .u64 0), (natC .u64).sz, 8) := by kernel_rfl

/-- Which blocks are the queue's. -/
def FQ (qb : Nat) (A : Option Addr) (n c : Nat) (k : Nat) : Prop := k = qb ∨ (Value.slice A n c).ownBlock = some k
section
variable {w w' : World} {B qb : Nat} {A : Option Addr} {c : Nat} {q : QP}
end
/-- w' is w but for blocks of F and new ones. -/
structure MovedQ (F : Nat → Prop) (w w' : World) : Prop where
  os : w'.os = w.os
  tape : w'.tape = w.tape
  output : w'.output = w.output
  size : w.heap.size ≤ w'.heap.size
  block : ∀ k, k < w.heap.size → ¬ F k → w'.heap[k]? = w.heap[k]?
section
variable {F : Nat → Prop} {w w1 w2 : World}
theorem MovedQ.refl (F : Nat → Prop) (w : World) : MovedQ F w w := ⟨rfl, rfl, rfl, Nat.le_refl _, fun _ _ _ => rfl⟩
theorem MovedQ.of_below (h : Below w.heap.size w w1) : MovedQ F w w1 := ⟨h.os, h.tape, h.output, h.size, fun k hk _ => h.block k hk⟩
theorem MovedQ.step (h : MovedQ F w w1) (hb : Below w1.heap.size w1 w2) : MovedQ F w w2 :=
  ⟨hb.os.trans h.os, hb.tape.trans h.tape, hb.output.trans h.output, Nat.le_trans h.size hb.size, fun k hk hF => (hb.block k (Nat.lt_of_lt_of_le hk h.size)).trans (h.block k hk hF)⟩
theorem MovedQ.setCell (h : MovedQ F w w1) {k : Nat} (hF : k < w.heap.size → F k) (i : Nat) (v : Value) : MovedQ F w (w1.setCell ⟨k, i, none⟩ v) :=
  ⟨h.os, h.tape, h.output, by simpa using h.size, fun j hj hn => (Below.heap_setCell _ _ _ _ (by show j ≠ k; rintro rfl; exact hn (hF hj))).trans (h.block j hj hn)⟩
theorem MovedQ.below {w0 : World} {B : Nat} (hb : Below B w0 w) (h : MovedQ F w w1) (hB : ∀ k, F k → B ≤ k) (hw : B ≤ w.heap.size) : Below B w0 w1 :=
  ⟨h.os.trans hb.os, h.tape.trans hb.tape, h.output.trans hb.output, Nat.le_trans hb.size h.size, fun k hk => (h.block k (by omega) (fun e => by have := hB k e; omega)).trans (hb.block k hk)⟩
theorem MovedQ.trans {F' : Nat → Prop} (h : MovedQ F w w1) (h1 : MovedQ F' w1 w2) (hs : ∀ k, F' k → F k ∨ w.heap.size ≤ k) : MovedQ F w w2 :=
  ⟨h1.os.trans h.os, h1.tape.trans h.tape, h1.output.trans h.output, Nat.le_trans h.size h1.size, fun k hk hF => (h1.block k (Nat.lt_of_lt_of_le hk h.size) fun e => by rcases hs k e with h | h; exact hF h; omega).trans (h.block k hk hF)⟩
end
end Go.Proofs.Ytgomlpmbmemkiaa
