/-
  What the program's queue answers, in the form in which the laws' walks want it.
  Conditions: none but sizes.
-/
import Derived.Test.YtkcbkimconaegaaQpJ
namespace Go.Proofs.Ytkcbkimconaegaa
open Go.RowKit
set_option linter.unusedVariables false
set_option linter.unusedSimpArgs false

section
variable {w w' : World} {B qb : Nat} {F : Nat → Prop} {q : QP}
theorem pnewQ_any (lim : Nat) (w : World) (h : lim < 18446744073709551616) : Calls Try.prog 7 #[.int .u64 lim] w fun e w' => ∃ qb F, e = .returned (.pointer (some ⟨qb, 0, none⟩)) ∧ PW w' w.heap.size qb ⟨min lim 4611686018427387904, [], 0, 0⟩ F ∧ Below w.heap.size w w' := rnewQ_any lim w h
theorem pputQ_any (h : PW w B qb q F) (ho : q.ok) (hn : q.l.length ≤ 1000000) (hB : B ≤ w.heap.size) (id : Nat) (hi : id < 18446744073709551616) : Calls Try.prog 13 #[.pointer (some ⟨qb, 0, none⟩), .int .u64 id] w (AnsP w B qb F (q.put id)) := rputQ_any h ho hn id hi
theorem pkeep_any (h : PW w B qb q F) (ho : q.ok) (hn : q.l.length ≤ 1000000) (hB : B ≤ w.heap.size) (n : Int) (h1 : -9223372036854775808 ≤ n) (h2 : n < 9223372036854775808) : Calls Try.prog 20 #[.pointer (some ⟨qb, 0, none⟩), .int .i64 n] w (AnsP w B qb F (q.keep n)) := rkeep_any h ho n h1 h2
theorem pgive_any (h : PW w B qb q F) (ho : q.ok) (hn : q.l.length ≤ 1000000) (hB : B ≤ w.heap.size) (n : Int) (h1 : -9223372036854775808 ≤ n) (h2 : n < 9223372036854775808) : Calls Try.prog 21 #[.pointer (some ⟨qb, 0, none⟩), .int .i64 n] w (AnsP w B qb F (q.give n)) := rgive_any h ho n h1 h2
theorem pfill_any (h : PW w B qb q F) (ho : q.ok) (hn : q.l.length ≤ 1000000) (hB : B ≤ w.heap.size) (id : Nat) (hi : id < 18446744073709551616) : Calls Try.prog 22 #[.pointer (some ⟨qb, 0, none⟩), .int .u64 id] w (AnsP w B qb F (q.fill id)) := rfill_any h ho hn id hi
theorem pnext_any (h : PW w B qb q F) (ho : q.ok) (hn : q.l.length ≤ 1000000) (hB : B ≤ w.heap.size) (ow : Nat) (hi : ow < 18446744073709551616) : Calls Try.prog 14 #[.pointer (some ⟨qb, 0, none⟩), .int .u64 ow] w (NextSaidP w B qb F (q.next ow)) := rnext_any h ho hn ow hi
theorem phold_any (h : PW w B qb q F) (ho : q.ok) (hn : q.l.length ≤ 1000000) (hB : B ≤ w.heap.size) (id ow : Nat) (hi : id < 18446744073709551616) (hi2 : ow < 18446744073709551616) : Calls Try.prog 23 #[.pointer (some ⟨qb, 0, none⟩), .int .u64 id, .int .u64 ow] w (AnsP w B qb F (q.hold id ow)) := rhold_any h ho hn id ow hi hi2
theorem ppass_any (h : PW w B qb q F) (ho : q.ok) (hn : q.l.length ≤ 1000000) (hB : B ≤ w.heap.size) (id f t : Nat) (hi : id < 18446744073709551616) (hi2 : f < 18446744073709551616) (hi3 : t < 18446744073709551616) : Calls Try.prog 24 #[.pointer (some ⟨qb, 0, none⟩), .int .u64 id, .int .u64 f, .int .u64 t] w (AnsP w B qb F (q.pass2 id f t)) := rpass_any h ho hn hB id f t hi hi2 hi3
theorem pfree_any (h : PW w B qb q F) (ho : q.ok) (hn : q.l.length ≤ 1000000) (hB : B ≤ w.heap.size) (id ow : Nat) (hi : id < 18446744073709551616) (hi2 : ow < 18446744073709551616) : Calls Try.prog 16 #[.pointer (some ⟨qb, 0, none⟩), .int .u64 id, .int .u64 ow] w (AnsP w B qb F (q.hands id ow 0)) := rfree_any h ho hn hB id ow hi hi2
theorem pdropP_any (h : PW w B qb q F) (ho : q.ok) (hn : q.l.length ≤ 1000000) (hB : B ≤ w.heap.size) (id ow : Nat) (hi : id < 18446744073709551616) (hi2 : ow < 18446744073709551616) : Calls Try.prog 25 #[.pointer (some ⟨qb, 0, none⟩), .int .u64 id, .int .u64 ow] w (AnsP w B qb F (q.drop id ow)) := rdropP_any h ho hn id ow hi hi2
theorem ppurge_any (h : PW w B qb q F) (ho : q.ok) (hn : q.l.length ≤ 1000000) (hB : B ≤ w.heap.size) : Calls Try.prog 26 #[.pointer (some ⟨qb, 0, none⟩)] w (PurgeSaidP w B qb F q.purge) := rpurge_any h ho
theorem powner_any (h : PW w B qb q F) (ho : q.ok) (hn : q.l.length ≤ 1000000) (id : Nat) (hi : id < 18446744073709551616) : Calls Try.prog 10 #[.pointer (some ⟨qb, 0, none⟩), .int .u64 id] w fun e w' => e = .returned (.tuple #[.int .u64 (q.owner id).1, .int .i64 (q.owner id).2]) ∧ Below w.heap.size w w' := rowner_any h ho hn id hi
theorem pready_any (h : PW w B qb q F) (ho : q.ok) (hn : q.l.length ≤ 1000000) : Calls Try.prog 15 #[.pointer (some ⟨qb, 0, none⟩)] w fun e w' => e = .returned (.int .i64 (ofQ 0 q.l).length) ∧ Below w.heap.size w w' := (rready_any h).mono fun e w' hx => ⟨hx.1, by rw [hx.2]; exact Below.refl _ _⟩
theorem pkept_any (h : PW w B qb q F) (ho : q.ok) : Calls Try.prog 27 #[.pointer (some ⟨qb, 0, none⟩)] w fun e w' => e = .returned (.int .i64 q.kept) ∧ Below w.heap.size w w' := (rkept_any h).mono fun e w' hx => ⟨hx.1, by rw [hx.2]; exact Below.refl _ _⟩
theorem proom_any (h : PW w B qb q F) (ho : q.ok) : Calls Try.prog 28 #[.pointer (some ⟨qb, 0, none⟩)] w fun e w' => e = .returned (.int .u64 q.room) ∧ Below w.heap.size w w' := rroom_any h ho
end

end Go.Proofs.Ytkcbkimconaegaa
