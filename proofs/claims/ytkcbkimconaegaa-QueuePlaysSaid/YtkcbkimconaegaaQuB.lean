/-
  The document's Put, Keep, Give and Fill of queues.
  Conditions: none but sizes.
-/
import Derived.Test.YtkcbkimconaegaaQuA
namespace Go.Proofs.Ytkcbkimconaegaa
open Go.RowKit
set_option linter.unusedVariables false
set_option linter.unusedSimpArgs false
set_option maxRecDepth 100000

/-- What a call that answers an error leaves. -/
def AnsQ (w : World) (B qb : Nat) (F : Nat → Prop) (r : Nat × QP) (e : Ending) (w' : World) : Prop := e = .returned (.int .i64 r.1) ∧ LeftQ w B qb F r.2 w'
section
variable {w w' : World} {B qb : Nat} {F : Nat → Prop} {q : QP}
theorem LeftQ.of_below (h : QW w B qb q F) (hb : Below w.heap.size w w') : LeftQ w B qb F q w' := ⟨F, h.keep fun k hk => hb.block k (h.foot k hk).2, fun k hk => .inl hk, MovedQ.of_below hb⟩
theorem LeftQ.after {w1 : World} {q1 : QP} (h : QW w B qb q F) (hb : Below w.heap.size w w1) (h2 : LeftQ w1 B qb F q1 w') : LeftQ w B qb F q1 w' :=
  LeftQ.trans (F1 := F) (fun k hk => .inl hk) (MovedQ.of_below hb) h2
theorem QW.below (h : QW w B qb q F) (hb : Below w.heap.size w w') : QW w' B qb q F := h.keep fun k hk => hb.block k (h.foot k hk).2
/-- The reserved amount is stored. -/
theorem QI.kept {A : Option Addr} {c : Nat} (h : QI w B qb A c q) (n : Nat) : QI (w.setCell ⟨qb, 2, none⟩ (.int .i64 n)) B qb A c { q with kept := n } :=
  ⟨heap_setCell_same w qb 2 _ 29 _ h.box, h.row.keep fun g hg => Below.heap_setCell _ _ _ _ (by show g ≠ qb; exact h.ne g hg), h.ne, h.hB⟩
theorem LeftQ.kept {A : Option Addr} {c : Nat} (h : QI w B qb A c q) (n : Nat) : LeftQ w B qb (FQ qb A q.l.length c) { q with kept := n } (w.setCell ⟨qb, 2, none⟩ (.int .i64 n)) :=
  ⟨_, ⟨A, c, h.kept n, rfl⟩, fun k hk => .inl hk, (MovedQ.refl _ _).setCell (fun _ => .inl rfl) _ _⟩

set_option maxHeartbeats 1000000 in
theorem qputQ_any (h : QW w B qb q F) (ho : q.ok) (hn : q.l.length ≤ 1000000) (id : Nat) (hi : id < 18446744073709551616) : Calls Try.prog 29 #[.pointer (some ⟨qb, 0, none⟩), .int .u64 id] w (AnsQ w B qb F (q.put id)) := by
  have HR := Lib.hid (qroom_any h ho)
  have HA := Lib.hid (fun w' (hb : Below w.heap.size w w') => (qadd_any (h.below hb) ho hn id hi).mono fun e w'' hx => (show e = .returned (.tuple #[]) ∧ LeftQ w B qb F (q.add id) w'' from ⟨hx.1, LeftQ.after h hb hx.2⟩))
  have HS := Lib.hid (fun w' (hb : Below w.heap.size w w') => LeftQ.of_below h hb)
  obtain ⟨A, c, h1, _⟩ := (show QW w B qb q F from h)
  have c3 := h1.c3
  unfold AnsQ
  have H0 := Lib.hid (LeftQ.same h)
  clear h h1
  by_cases t : id ≤ q.last
  · have tI : (id : Int) ≤ (q.last : Int) := by omega
    have e : q.put id = (2, q) := if_pos t
    rw [e]
    clear e t ho
    go_enter Try.func29, Try.ntmps29
    go_wp2_with fail
    go_ret
    exact ⟨rfl, H0.out⟩
  · have tI : ¬ (id : Int) ≤ (q.last : Int) := by omega
    by_cases hr : q.room = 0
    · have e : q.put id = (6, q) := by unfold QP.put; rw [if_neg t, if_pos hr]
      rw [e]
      rw [hr] at HR
      clear e t hr ho
      go_enter Try.func29, Try.ntmps29
      go_wp2_with fail
      refine HR.out.mono ?_
      rintro e w1 ⟨rfl, hb1⟩
      go_wp2_with fail
      go_ret
      exact ⟨rfl, HS.out _ hb1⟩
    · have e : q.put id = (0, q.add id) := by unfold QP.put; rw [if_neg t, if_neg hr]
      rw [e]
      have hr2 : ((q.room : Int) == 0) = false := by rw [beq_eq_false_iff_ne]; omega
      generalize q.room = r at *
      clear e t hr ho
      go_enter Try.func29, Try.ntmps29
      go_wp2_with fail
      refine HR.out.mono ?_
      rintro e w1 ⟨rfl, hb1⟩
      go_wp2_with fail
      refine (HA.out _ hb1).mono ?_
      rintro e w2 ⟨rfl, hl2⟩
      go_wp2_with fail
      go_ret
      exact ⟨rfl, hl2⟩
set_option maxHeartbeats 1000000 in
theorem qkeep_any (h : QW w B qb q F) (ho : q.ok) (n : Int) (hn1 : -9223372036854775808 ≤ n) (hn2 : n < 9223372036854775808) : Calls Try.prog 30 #[.pointer (some ⟨qb, 0, none⟩), .int .i64 n] w (AnsQ w B qb F (q.keep n)) := by
  have HR := Lib.hid (qroom_any h ho)
  have HS := Lib.hid (fun w' (hb : Below w.heap.size w w') => LeftQ.of_below h hb)
  have H0 := Lib.hid (LeftQ.same h)
  obtain ⟨A, c, h1, hF⟩ := (show QW w B qb q F from h)
  have hfit := ho.fit
  have hlim := ho.lim
  unfold AnsQ
  by_cases t : n < 0
  · have e : q.keep n = (2, q) := if_pos t
    rw [e]
    clear e ho h h1 hF
    go_enter Try.func30, Try.ntmps30
    go_wp2_with fail
    go_ret
    exact ⟨rfl, H0.out⟩
  · have u1 : IntKind.u64.wrap n = n := by rw [IntKind.wrap_u64]; omega
    by_cases hr : (q.room : Int) < n
    · have e : q.keep n = (6, q) := by unfold QP.keep; rw [if_neg t, if_pos hr]
      rw [e]
      generalize q.room = r at *
      clear e ho h h1 hF hfit hlim
      go_enter Try.func30, Try.ntmps30
      go_wp2_with fail
      refine HR.out.mono ?_
      rintro e w1 ⟨rfl, hb1⟩
      go_wp2_with fail
      go_ret
      exact ⟨rfl, HS.out _ hb1⟩
    · obtain ⟨m, hm⟩ : ∃ m, m = q.kept + n.toNat := ⟨_, rfl⟩
      have e : q.keep n = (0, { q with kept := m }) := by unfold QP.keep; rw [if_neg t, if_neg hr, hm]
      rw [e]
      have em : (q.kept : Int) + n = (m : Int) := by omega
      have hml : m ≤ 4611686018427387904 := by unfold QP.room at hr; omega
      have u2 : wrap64 ((q.kept : Int) + n) = (m : Int) := by rw [em]; exact w64_id _ (by omega) (by omega)
      have u3 : IntKind.i64.wrap ((q.kept : Int) + n) = (m : Int) := by rw [em]; exact i64_id _ (by omega) (by omega)
      have HK := Lib.hid (fun w' (hb : Below w.heap.size w w') => (show QI w' B qb A c q ∧ LeftQ w B qb F { q with kept := m } (w'.setCell ⟨qb, 2, none⟩ (.int .i64 m)) from ⟨h1.below hb, LeftQ.after h hb (by rw [hF]; exact LeftQ.kept (h1.below hb) m)⟩))
      generalize q.room = r at *
      generalize hkk : q.kept = kk at *
      have HKK := Lib.hid hkk
      clear e ho h h1 hF hfit hlim em hml hm hkk H0 HS
      go_enter Try.func30, Try.ntmps30
      go_wp2_with fail
      refine HR.out.mono ?_
      rintro e w1 ⟨rfl, hb1⟩
      have c2 := (HK.out w1 hb1).1.c2
      rw [HKK.out] at c2
      have f2 := (HK.out w1 hb1).1.fr 2
      go_wp2_with fail
      go_ret
      exact ⟨rfl, (HK.out w1 hb1).2⟩
set_option maxHeartbeats 1000000 in
theorem qgive_any (h : QW w B qb q F) (ho : q.ok) (n : Int) (hn1 : -9223372036854775808 ≤ n) (hn2 : n < 9223372036854775808) : Calls Try.prog 31 #[.pointer (some ⟨qb, 0, none⟩), .int .i64 n] w (AnsQ w B qb F (q.give n)) := by
  have H0 := Lib.hid (LeftQ.same h)
  obtain ⟨A, c, h1, hF⟩ := (show QW w B qb q F from h)
  have hfit := ho.fit
  have hlim := ho.lim
  have c2 := h1.c2
  have f2 := h1.fr 2
  unfold AnsQ
  by_cases t : n < 0
  · have e : q.give n = (2, q) := if_pos (.inl t)
    rw [e]
    clear e ho h h1 hF
    go_enter Try.func31, Try.ntmps31
    go_wp2_with fail
    go_ret
    exact ⟨rfl, H0.out⟩
  · by_cases t2 : (q.kept : Int) < n
    · have e : q.give n = (2, q) := if_pos (.inr t2)
      rw [e]
      clear e ho h h1 hF
      go_enter Try.func31, Try.ntmps31
      go_wp2_with fail
      go_ret
      exact ⟨rfl, H0.out⟩
    · obtain ⟨m, hm⟩ : ∃ m, m = q.kept - n.toNat := ⟨_, rfl⟩
      have e : q.give n = (0, { q with kept := m }) := by unfold QP.give; rw [if_neg (by omega), hm]
      rw [e]
      have em : (q.kept : Int) - n = (m : Int) := by omega
      have u2 : wrap64 ((q.kept : Int) - n) = (m : Int) := by rw [em]; exact w64_id _ (by omega) (by omega)
      have u3 : IntKind.i64.wrap ((q.kept : Int) - n) = (m : Int) := by rw [em]; exact i64_id _ (by omega) (by omega)
      have HK := Lib.hid (show LeftQ w B qb F { q with kept := m } (w.setCell ⟨qb, 2, none⟩ (.int .i64 m)) from by rw [hF]; exact LeftQ.kept h1 m)
      generalize hkk : q.kept = kk at *
      clear e ho h h1 hF hfit hlim em hm hkk H0
      go_enter Try.func31, Try.ntmps31
      go_wp2_with fail
      go_ret
      exact ⟨rfl, HK.out⟩
set_option maxHeartbeats 1000000 in
theorem qfill_any (h : QW w B qb q F) (ho : q.ok) (hn : q.l.length ≤ 1000000) (id : Nat) (hi : id < 18446744073709551616) : Calls Try.prog 32 #[.pointer (some ⟨qb, 0, none⟩), .int .u64 id] w (AnsQ w B qb F (q.fill id)) := by
  have H0 := Lib.hid (LeftQ.same h)
  obtain ⟨A, c, h1, hF⟩ := (show QW w B qb q F from h)
  have hfit := ho.fit
  have hlim := ho.lim
  have c2 := h1.c2
  have c3 := h1.c3
  have f2 := h1.fr 2
  unfold AnsQ
  by_cases t : id ≤ q.last
  · have tI : (id : Int) ≤ (q.last : Int) := by omega
    have e : q.fill id = (2, q) := if_pos t
    rw [e]
    clear e t ho h h1 hF
    go_enter Try.func32, Try.ntmps32
    go_wp2_with fail
    go_ret
    exact ⟨rfl, H0.out⟩
  · have tI : ¬ (id : Int) ≤ (q.last : Int) := by omega
    by_cases hr : q.kept = 0
    · have e : q.fill id = (7, q) := by unfold QP.fill; rw [if_neg t, if_pos hr]
      rw [e]
      rw [hr] at c2
      clear e t hr ho h h1 hF hfit
      go_enter Try.func32, Try.ntmps32
      go_wp2_with fail
      go_ret
      exact ⟨rfl, H0.out⟩
    · obtain ⟨m, hm⟩ : ∃ m, m = q.kept - 1 := ⟨_, rfl⟩
      have e : q.fill id = (0, { (q.add id) with kept := m }) := by unfold QP.fill; rw [if_neg t, if_neg hr, hm]
      rw [e]
      have hr2 : ((q.kept : Int) == 0) = false := by rw [beq_eq_false_iff_ne]; omega
      have em : (q.kept : Int) - 1 = (m : Int) := by omega
      have u2 : wrap64 ((q.kept : Int) - 1) = (m : Int) := by rw [em]; exact w64_id _ (by omega) (by omega)
      have u3 : IntKind.i64.wrap ((q.kept : Int) - 1) = (m : Int) := by rw [em]; exact i64_id _ (by omega) (by omega)
      have ho2 : ({ q with kept := m } : QP).ok := ⟨ho.lim, by show q.l.length + m ≤ q.lim; omega, ho.ms, ho.last, ho.asc, ho.top⟩
      have HK : Hid (∃ F1, QW (w.setCell ⟨qb, 2, none⟩ (.int .i64 m)) B qb { q with kept := m } F1 ∧ (∀ k, F1 k → F k ∨ w.heap.size ≤ k) ∧ MovedQ F w (w.setCell ⟨qb, 2, none⟩ (.int .i64 m))) := Lib.hid (by rw [hF]; exact LeftQ.kept h1 m)
      have HA : Hid (Calls Try.prog 53 #[.pointer (some ⟨qb, 0, none⟩), .int .u64 id] (w.setCell ⟨qb, 2, none⟩ (.int .i64 m)) fun e w'' => e = .returned (.tuple #[]) ∧ LeftQ w B qb F { (q.add id) with kept := m } w'') := Lib.hid (by
        obtain ⟨F1, g1, g2, g3⟩ := HK.out
        exact (qadd_any g1 ho2 hn id hi).mono fun e w'' hx => ⟨hx.1, LeftQ.trans g2 g3 hx.2⟩)
      generalize hkk : q.kept = kk at *
      clear e ho h h1 hF hfit hlim em hm hkk H0 HK ho2 hr
      go_enter Try.func32, Try.ntmps32
      go_wp2_with fail
      refine HA.out.mono ?_
      rintro e w2 ⟨rfl, hl2⟩
      go_wp2_with fail
      go_ret
      exact ⟨rfl, hl2⟩
end

end Go.Proofs.Ytkcbkimconaegaa
