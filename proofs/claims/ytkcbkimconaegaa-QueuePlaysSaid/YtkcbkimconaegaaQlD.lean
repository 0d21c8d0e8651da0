/-
  One queue of the program; the law's head.
  Conditions: none.
-/
import Derived.Test.YtkcbkimconaegaaQlB
namespace Go.Proofs.Ytkcbkimconaegaa
open Go.RowKit
set_option linter.unusedVariables false
set_option linter.unusedSimpArgs false
set_option maxRecDepth 100000

/-- A queue of the program. -/
structure Uno (w0 : World) (pb : Nat) (p : QP) (w : World) : Prop where
  bel : Below w0.heap.size w0 w
  ok : p.ok
  one : ∃ F, PW w w0.heap.size pb p F
section
variable {w0 w w' : World} {pb : Nat} {p p' : QP} {r : Ending} {f : FuncId} {args : Array Value}
theorem Uno.step (h : Uno w0 pb p w) (hb : Below w.heap.size w w') : Uno w0 pb p w' := by
  obtain ⟨F, h1⟩ := h.one
  exact ⟨h.bel.trans (hb.mono h.bel.size), h.ok, F, h1.keep fun k hk => hb.block k (h1.foot k hk).2⟩
theorem Uno.call (h : Uno w0 pb p w) (ho : p'.ok) (hc : ∀ F, PW w w0.heap.size pb p F → Calls Try.prog f args w fun e w' => e = r ∧ LeftP w w0.heap.size pb F p' w') : Calls Try.prog f args w fun e w' => e = r ∧ Uno w0 pb p' w' := by
  obtain ⟨F, h1⟩ := h.one
  refine (hc F h1).mono ?_
  rintro e w' ⟨rfl, F', g1, g2, g3⟩
  exact ⟨rfl, g3.below h.bel (fun k hk => (h1.foot k hk).1) h.bel.size, ho, F', g1⟩
theorem Uno.put (h : Uno w0 pb p w) (hn : p.l.length ≤ 1000000) (id : Nat) (hi : id < 18446744073709551616) : Calls Try.prog 13 #[.pointer (some ⟨pb, 0, none⟩), .int .u64 id] w fun e w' => e = .returned (.int .i64 (p.put id).1) ∧ Uno w0 pb (p.put id).2 w' :=
  h.call (h.ok.put hi) fun F hF => pputQ_any hF h.ok hn h.bel.size id hi
theorem Uno.next (h : Uno w0 pb p w) (hn : p.l.length ≤ 1000000) (ow : Nat) (hi : ow < 18446744073709551616) : Calls Try.prog 14 #[.pointer (some ⟨pb, 0, none⟩), .int .u64 ow] w fun e w' => e = .returned (.tuple #[.int .u64 (p.next ow).1.1, .bool (p.next ow).1.2]) ∧ Uno w0 pb (p.next ow).2 w' :=
  h.call (h.ok.next hi) fun F hF => pnext_any hF h.ok hn h.bel.size ow hi
theorem Uno.free (h : Uno w0 pb p w) (hn : p.l.length ≤ 1000000) (id ow : Nat) (hi : id < 18446744073709551616) (hi2 : ow < 18446744073709551616) : Calls Try.prog 16 #[.pointer (some ⟨pb, 0, none⟩), .int .u64 id, .int .u64 ow] w fun e w' => e = .returned (.int .i64 (p.hands id ow 0).1) ∧ Uno w0 pb (p.hands id ow 0).2 w' :=
  h.call (h.ok.hands (by omega)) fun F hF => pfree_any hF h.ok hn h.bel.size id ow hi hi2
theorem Uno.room (h : Uno w0 pb p w) : Calls Try.prog 28 #[.pointer (some ⟨pb, 0, none⟩)] w fun e w' => e = .returned (.int .u64 p.room) ∧ Uno w0 pb p w' := by
  obtain ⟨F, h1⟩ := h.one
  exact (proom_any h1 h.ok).mono fun e w' hx => ⟨hx.1, h.step hx.2⟩
theorem Uno.new (lim : Nat) (w : World) (h : lim < 18446744073709551616) : Calls Try.prog 7 #[.int .u64 lim] w fun e w' => ∃ pb, e = .returned (.pointer (some ⟨pb, 0, none⟩)) ∧ Uno w pb ⟨min lim 4611686018427387904, [], 0, 0⟩ w' :=
  (pnewQ_any lim w h).mono fun e w' ⟨pb, F, h1, h2, h3⟩ => ⟨pb, h1, h3, ⟨by show min _ _ ≤ _; omega, by show 0 + 0 ≤ min _ _; omega, fun x hx => (by cases hx), by show 0 < 18446744073709551616; omega, List.Pairwise.nil, fun x hx => (by cases hx)⟩, F, h2⟩
end

theorem owner_at {q : QP} (h : q.ok) {i : Nat} (hi : i < q.l.length) : q.owner q.l[i].1 = (q.l[i].2, 0) := by
  unfold QP.owner
  rw [QP.find_at h hi]
  show ((q.at_ i).2, 0) = _
  rw [QP.at_get hi]

def callC : Code CallQ := { enc := fun x => [.int .u8 x.what, .int .u64 x.a, .int .u64 x.b, .int .u64 x.c, .int .i64 x.n, .bool x.more], sz := 6, len := fun _ => rfl, one := fun x u hu => by simp at hu; rcases hu with rfl | rfl | rfl | rfl | rfl | rfl <;> rfl, pos := by omega }
def flagC : Code Bool := { enc := fun b => [.bool b], sz := 1, len := fun _ => rfl, one := fun x u hu => by simp at hu; rcases hu with rfl; rfl, pos := by omega }
def hq0 : QP := ⟨3, [], 0, 0⟩
def hq1 : QP := ⟨3, [(1, 0)], 0, 1⟩
def hq2 : QP := ⟨3, [(1, 0), (2, 0)], 0, 2⟩
def hq3 : QP := ⟨3, [(1, 7), (2, 0)], 0, 2⟩
def hq4 : QP := ⟨3, [(1, 7), (2, 8)], 0, 2⟩
def hq5 : QP := ⟨3, [(1, 0), (2, 8)], 0, 2⟩
def hq6 : QP := ⟨3, [(1, 9), (2, 8)], 0, 2⟩
theorem hp1 : hq0.put 1 = (0, hq1) := by rfl
theorem hp2 : hq1.put 2 = (0, hq2) := by rfl
theorem hp3 : hq2.next 7 = ((1, true), hq3) := by rfl
theorem hp4 : hq3.next 8 = ((2, true), hq4) := by rfl
theorem hp5 : hq4.next 7 = ((0, false), hq4) := by rfl
theorem hp6 : hq4.hands 1 8 0 = (9, hq4) := by rfl
theorem hp7 : hq4.hands 1 7 0 = (0, hq5) := by rfl
theorem hp8 : hq5.next 9 = ((1, true), hq6) := by rfl
theorem hp9 : hq6.room = 1 := by rfl

set_option maxHeartbeats 4000000 in
theorem qhead_any (w : World) : Calls Try.prog 12 #[] w fun e w' => e = .returned (.bool true) ∧ Below w.heap.size w w' := by
  have H0 := Lib.hid (fun w' => Uno.new 3 w' (by omega))
  rw [show min 3 4611686018427387904 = 3 from rfl, show (⟨3, [], 0, 0⟩ : QP) = hq0 from rfl] at H0
  have H1 : Hid (∀ pb w', Uno w pb hq0 w' → Calls Try.prog 13 #[.pointer (some ⟨pb, 0, none⟩), .int .u64 1] w' fun e w'' => e = .returned (.int .i64 0) ∧ Uno w pb hq1 w'') := Lib.hid fun pb w' h => by
    have := h.put (by decide) 1 (by omega); rw [hp1] at this; exact this
  have H2 : Hid (∀ pb w', Uno w pb hq1 w' → Calls Try.prog 13 #[.pointer (some ⟨pb, 0, none⟩), .int .u64 2] w' fun e w'' => e = .returned (.int .i64 0) ∧ Uno w pb hq2 w'') := Lib.hid fun pb w' h => by
    have := h.put (by decide) 2 (by omega); rw [hp2] at this; exact this
  have H3 : Hid (∀ pb w', Uno w pb hq2 w' → Calls Try.prog 14 #[.pointer (some ⟨pb, 0, none⟩), .int .u64 7] w' fun e w'' => e = .returned (.tuple #[.int .u64 1, .bool true]) ∧ Uno w pb hq3 w'') := Lib.hid fun pb w' h => by
    have := h.next (by decide) 7 (by omega); rw [hp3] at this; exact this
  have H4 : Hid (∀ pb w', Uno w pb hq3 w' → Calls Try.prog 14 #[.pointer (some ⟨pb, 0, none⟩), .int .u64 8] w' fun e w'' => e = .returned (.tuple #[.int .u64 2, .bool true]) ∧ Uno w pb hq4 w'') := Lib.hid fun pb w' h => by
    have := h.next (by decide) 8 (by omega); rw [hp4] at this; exact this
  have H5 : Hid (∀ pb w', Uno w pb hq4 w' → Calls Try.prog 14 #[.pointer (some ⟨pb, 0, none⟩), .int .u64 7] w' fun e w'' => e = .returned (.tuple #[.int .u64 0, .bool false]) ∧ Uno w pb hq4 w'') := Lib.hid fun pb w' h => by
    have := h.next (by decide) 7 (by omega); rw [hp5] at this; exact this
  have H6 : Hid (∀ pb w', Uno w pb hq4 w' → Calls Try.prog 16 #[.pointer (some ⟨pb, 0, none⟩), .int .u64 1, .int .u64 8] w' fun e w'' => e = .returned (.int .i64 9) ∧ Uno w pb hq4 w'') := Lib.hid fun pb w' h => by
    have := h.free (by decide) 1 8 (by omega) (by omega); rw [hp6] at this; exact this
  have H7 : Hid (∀ pb w', Uno w pb hq4 w' → Calls Try.prog 16 #[.pointer (some ⟨pb, 0, none⟩), .int .u64 1, .int .u64 7] w' fun e w'' => e = .returned (.int .i64 0) ∧ Uno w pb hq5 w'') := Lib.hid fun pb w' h => by
    have := h.free (by decide) 1 7 (by omega) (by omega); rw [hp7] at this; exact this
  have H8 : Hid (∀ pb w', Uno w pb hq5 w' → Calls Try.prog 14 #[.pointer (some ⟨pb, 0, none⟩), .int .u64 9] w' fun e w'' => e = .returned (.tuple #[.int .u64 1, .bool true]) ∧ Uno w pb hq6 w'') := Lib.hid fun pb w' h => by
    have := h.next (by decide) 9 (by omega); rw [hp8] at this; exact this
  have H9 : Hid (∀ pb w', Uno w pb hq6 w' → Calls Try.prog 28 #[.pointer (some ⟨pb, 0, none⟩)] w' fun e w'' => e = .returned (.int .u64 1) ∧ Uno w pb hq6 w'') := Lib.hid fun pb w' h => by
    have := h.room; rw [hp9] at this; exact this
  go_enter Try.func12, Try.ntmps12
  go_wp2_with fail
  refine (H0.out _).mono ?_
  rintro e w1 ⟨pb, rfl, h1⟩
  go_wp2_with fail
  refine (H1.out _ _ h1).mono ?_
  rintro e w2 ⟨rfl, h2⟩
  go_wp2_with fail
  refine (H2.out _ _ h2).mono ?_
  rintro e w3 ⟨rfl, h3⟩
  go_wp2_with fail
  refine (H3.out _ _ h3).mono ?_
  rintro e w4 ⟨rfl, h4⟩
  go_wp2_with fail
  refine (H4.out _ _ h4).mono ?_
  rintro e w5 ⟨rfl, h5⟩
  go_wp2_with fail
  refine (H5.out _ _ h5).mono ?_
  rintro e w6 ⟨rfl, h6⟩
  go_wp2_with fail
  refine (H6.out _ _ h6).mono ?_
  rintro e w7 ⟨rfl, h7⟩
  go_wp2_with fail
  refine (H7.out _ _ h7).mono ?_
  rintro e w8 ⟨rfl, h8⟩
  go_wp2_with fail
  refine (H8.out _ _ h8).mono ?_
  rintro e w9 ⟨rfl, h9⟩
  go_wp2_with fail
  refine (H9.out _ _ h9).mono ?_
  rintro e w10 ⟨rfl, h10⟩
  go_wp2_with fail
  go_ret
  exact ⟨rfl, h10.bel⟩

end Go.Proofs.Ytkcbkimconaegaa
