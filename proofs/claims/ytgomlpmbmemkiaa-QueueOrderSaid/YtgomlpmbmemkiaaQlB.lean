/-
  The law's does: a call on both queues.
  Conditions: none but sizes.
-/
import Derived.Test.YtgomlpmbmemkiaaQlA
import Derived.Deep.CutRange
import Derived.Deep.CutBlock
import Derived.Deep.DeepCutAuto
namespace Go.Proofs.Ytgomlpmbmemkiaa
open Go.RowKit
set_option linter.unusedVariables false
set_option linter.unusedSimpArgs false
set_option maxRecDepth 100000

section
variable {w0 W w w' : World} {pb qb : Nat} {p p' q q' : QP} {X : Nat → Prop} {r : Ending} {f : FuncId} {args : Array Value}
end

/-- A call. -/
structure CallQ where
  what : Nat
  a : Nat
  b : Nat
  c : Nat
  n : Int
  more : Bool
structure CallQ.ok (x : CallQ) : Prop where
  what : x.what < 256
  a : x.a < 18446744073709551616
  b : x.b < 18446744073709551616
  c : x.c < 18446744073709551616
  n1 : -9223372036854775808 ≤ x.n
  n2 : x.n < 9223372036854775808
def callV (x : CallQ) : Value := .agg #[.int .u8 x.what, .int .u64 x.a, .int .u64 x.b, .int .u64 x.c, .int .i64 x.n, .bool x.more]
/-- What the switch does. -/
def stepQ (x : CallQ) (q : QP) : QP :=
  if x.what % 10 ≤ 1 then (q.put x.a).2 else if x.what % 10 = 2 then (q.keep x.n).2 else if x.what % 10 = 3 then (q.give x.n).2 else if x.what % 10 = 4 then (q.fill x.a).2 else if x.what % 10 = 5 then (q.next x.b).2
  else if x.what % 10 = 6 then (q.hold x.a x.b).2 else if x.what % 10 = 7 then (q.pass2 x.a x.b x.c).2 else if x.what % 10 = 8 then (q.hands x.a x.b 0).2 else (q.drop x.a x.b).2
def actQ (x : CallQ) (q : QP) : QP := if x.more = true then (stepQ x q).purge.2 else stepQ x q
theorem stepQ_ok {x : CallQ} {q : QP} (h : q.ok) (hx : x.ok) : (stepQ x q).ok := by
  unfold stepQ
  split
  · exact h.put hx.a
  split
  · exact h.keep
  split
  · exact h.give
  split
  · exact h.fill hx.a
  split
  · exact h.next hx.b
  split
  · exact h.hold hx.b
  split
  · exact h.pass2 hx.c
  split
  · exact h.hands (by omega)
  · exact h.drop

theorem own_len (q : QP) (i ow : Nat) : (q.own i ow).l.length = q.l.length := by simp [QP.own]
theorem pass_len (q : QP) (a b c : Nat) : (q.pass a b c).2.l.length ≤ q.l.length := by
  unfold QP.pass
  split
  · exact Nat.le_refl _
  · split
    · exact Nat.le_refl _
    · rw [own_len]; exact Nat.le_refl _
theorem hands_len (q : QP) (a b c : Nat) : (q.hands a b c).2.l.length ≤ q.l.length := by
  unfold QP.hands
  split
  · split <;> exact Nat.le_refl _
  · exact pass_len q a b c
theorem stepQ_len (x : CallQ) (q : QP) : (stepQ x q).l.length ≤ q.l.length + 1 := by
  have hadd : ∀ id, (q.add id).l.length = q.l.length + 1 := fun id => by simp [QP.add]
  unfold stepQ
  split
  · unfold QP.put
    split
    · exact Nat.le_succ _
    split
    · exact Nat.le_succ _
    · rw [hadd]; exact Nat.le_refl _
  split
  · unfold QP.keep
    split
    · exact Nat.le_succ _
    split <;> exact Nat.le_succ _
  split
  · unfold QP.give
    split <;> exact Nat.le_succ _
  split
  · unfold QP.fill
    split
    · exact Nat.le_succ _
    split
    · exact Nat.le_succ _
    · show (q.add x.a).l.length ≤ _
      rw [hadd]; exact Nat.le_refl _
  split
  · unfold QP.next
    split
    · exact Nat.le_succ _
    split
    · exact Nat.le_succ _
    · rw [own_len]; exact Nat.le_succ _
  split
  · unfold QP.hold
    split
    · exact Nat.le_succ _
    · exact Nat.le_succ_of_le (pass_len _ _ _ _)
  split
  · unfold QP.pass2
    split
    · exact Nat.le_succ _
    · exact Nat.le_succ_of_le (hands_len _ _ _ _)
  split
  · exact Nat.le_succ_of_le (hands_len _ _ _ _)
  · unfold QP.drop
    split
    · exact Nat.le_succ _
    split
    · exact Nat.le_succ _
    · show (q.l.take _ ++ q.l.drop _).length ≤ _
      rw [List.length_append, List.length_take, List.length_drop]
      omega
section
variable {w0 w w' : World} {pb qb : Nat} {p q : QP} {X : Nat → Prop}
end

end Go.Proofs.Ytgomlpmbmemkiaa
