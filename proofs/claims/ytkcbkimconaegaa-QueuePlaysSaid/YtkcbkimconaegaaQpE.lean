/-
  The program's Put, Fill, Keep, Give and Purge of queues.
  Conditions: none but sizes.
-/
import Derived.Test.YtkcbkimconaegaaQpD
namespace Go.Proofs.Ytkcbkimconaegaa
open Go.RowKit
set_option linter.unusedVariables false
set_option linter.unusedSimpArgs false
set_option maxRecDepth 100000

section
variable {w w' : World} {B qb mb : Nat} {F : Nat → Prop} {q : QP}
set_option maxHeartbeats 1000000 in
theorem rputQ_any (h : PW w B qb q F) (ho : q.ok) (hn : q.l.length ≤ 1000000) (id : Nat) (hi : id < 18446744073709551616) : Calls Try.prog 13 #[.pointer (some ⟨qb, 0, none⟩), .int .u64 id] w (AnsP w B qb F (q.put id)) := by
  have HR := Lib.hid (rroom_any h ho)
  have HA := Lib.hid (fun w' (hb : Below w.heap.size w w') => (padd_any (h.below hb) hn id).mono fun e w'' hx => (show e = .returned (.tuple #[]) ∧ LeftP w B qb F (q.add id) w'' from ⟨hx.1, LeftP.after hb hx.2⟩))
  have HS := Lib.hid (fun w' (hb : Below w.heap.size w w') => LeftP.of_below h hb)
  have H0 := Lib.hid (LeftP.same h)
  unfold AnsP
  by_cases t : id ≤ q.last
  · have HF := Lib.hid (prefused_any h id 2 (by rw [if_pos t]))
    have e : q.put id = (2, q) := if_pos t
    rw [e]
    clear e t ho h
    go_enter Try.func13, Try.ntmps13
    go_wp2_with fail
    refine HF.out.mono ?_
    rintro e w1 ⟨rfl, rfl⟩
    go_wp2_with fail
    go_ret
    exact ⟨rfl, H0.out⟩
  · have HF := Lib.hid (prefused_any h id 0 (by rw [if_neg t]))
    by_cases hr : q.room = 0
    · have e : q.put id = (6, q) := by unfold QP.put; rw [if_neg t, if_pos hr]
      rw [e]
      rw [hr] at HR
      clear e t hr ho h
      go_enter Try.func13, Try.ntmps13
      go_wp2_with fail
      refine HF.out.mono ?_
      rintro e w1 ⟨rfl, rfl⟩
      go_wp2_with fail
      refine HR.out.mono ?_
      rintro e w1 ⟨rfl, hb1⟩
      go_wp2_with fail
      go_ret
      exact ⟨rfl, HS.out _ hb1⟩
    · have e : q.put id = (0, q.add id) := by unfold QP.put; rw [if_neg t, if_neg hr]
      rw [e]
      have hr2 : ((q.room : Int) == 0) = false := by rw [beq_eq_false_iff_ne]; omega
      generalize q.room = r at *
      clear e t hr ho h
      go_enter Try.func13, Try.ntmps13
      go_wp2_with fail
      refine HF.out.mono ?_
      rintro e w1 ⟨rfl, rfl⟩
      go_wp2_with fail
      refine HR.out.mono ?_
      rintro e w1 ⟨rfl, hb1⟩
      go_wp2_with fail
      refine (HA.out _ hb1).mono ?_
      rintro e w2 ⟨rfl, hl2⟩
      go_wp2_with fail
      go_ret
      exact ⟨rfl, hl2⟩
set_option maxHeartbeats 1000000 in
theorem rfill_any (h : PW w B qb q F) (ho : q.ok) (hn : q.l.length ≤ 1000000) (id : Nat) (hi : id < 18446744073709551616) : Calls Try.prog 22 #[.pointer (some ⟨qb, 0, none⟩), .int .u64 id] w (AnsP w B qb F (q.fill id)) := by
  have H0 := Lib.hid (LeftP.same h)
  unfold AnsP
  by_cases t : id ≤ q.last
  · have HF := Lib.hid (prefused_any h id 2 (by rw [if_pos t]))
    have e : q.fill id = (2, q) := if_pos t
    rw [e]
    clear e t ho h
    go_enter Try.func22, Try.ntmps22
    go_wp2_with fail
    refine HF.out.mono ?_
    rintro e w1 ⟨rfl, rfl⟩
    go_wp2_with fail
    go_ret
    exact ⟨rfl, H0.out⟩
  · have HF := Lib.hid (prefused_any h id 0 (by rw [if_neg t]))
    obtain ⟨v, mb, M, h1, rfl⟩ := h
    have c1 := h1.box.c1
    have f1 := h1.box.fr 1
    by_cases hr : q.kept = 0
    · have e : q.fill id = (7, q) := by unfold QP.fill; rw [if_neg t, if_pos hr]
      rw [e]
      rw [hr] at c1
      clear e t hr ho h1
      go_enter Try.func22, Try.ntmps22
      go_wp2_with fail
      refine HF.out.mono ?_
      rintro e w1 ⟨rfl, rfl⟩
      go_wp2_with fail
      go_ret
      exact ⟨rfl, H0.out⟩
    · have e : q.fill id = (0, { (q.add id) with kept := q.kept - 1 }) := by unfold QP.fill; rw [if_neg t, if_neg hr]
      rw [e]
      obtain ⟨k, hk⟩ : ∃ k, q.kept = k + 1 := ⟨q.kept - 1, by omega⟩
      rw [hk] at c1 ⊢
      have hfit := ho.fit
      have hlim := ho.lim
      have u0 : ((k + 1 : Nat) : Int) = (k : Int) + 1 := by omega
      rw [u0] at c1
      have u1 : wrap64 ((k : Int) + 1 - 1) = (k : Int) := by rw [show (k : Int) + 1 - 1 = k by omega]; exact w64_id _ (by omega) (by omega)
      have u2 : IntKind.i64.wrap ((k : Int) + 1 - 1) = (k : Int) := by rw [show (k : Int) + 1 - 1 = k by omega]; exact i64_id _ (by omega) (by omega)
      have u3 : IntKind.i64.wrap (k : Int) = (k : Int) := i64_id _ (by omega) (by omega)
      have t0 : (((k : Int) + 1) == 0) = false := by rw [beq_eq_false_iff_ne]; omega
      have t1 : ¬ ((k : Int) + 1 = 0) := by omega
      have HL := LeftP.kept h1 k
      obtain ⟨F1, hp1, hs1, hm1⟩ := HL
      have HA := Lib.hid ((padd_any hp1 hn id).mono fun e w'' hx => (show e = .returned (.tuple #[]) ∧ LeftP w B qb (FP qb mb v) { (q.add id) with kept := k } w'' from ⟨hx.1, LeftP.trans hs1 hm1 hx.2⟩))
      rw [show k + 1 - 1 = k by omega]
      clear e t hr ho h1 hk hfit hlim hp1 hs1 hm1 H0 u0
      go_enter Try.func22, Try.ntmps22
      go_wp2_with fail
      refine HF.out.mono ?_
      rintro e w1 ⟨rfl, rfl⟩
      go_wp2_with fail
      refine HA.out.mono ?_
      rintro e w2 ⟨rfl, hl2⟩
      go_wp2_with fail
      go_ret
      exact ⟨rfl, hl2⟩
set_option maxHeartbeats 1000000 in
theorem rkeep_any (h : PW w B qb q F) (ho : q.ok) (n : Int) (hn1 : -9223372036854775808 ≤ n) (hn2 : n < 9223372036854775808) : Calls Try.prog 20 #[.pointer (some ⟨qb, 0, none⟩), .int .i64 n] w (AnsP w B qb F (q.keep n)) := by
  have HMD := Lib.hid (pmade_any h)
  have HR := Lib.hid (rroom_any h ho)
  have HS := Lib.hid (fun w' (hb : Below w.heap.size w w') => LeftP.of_below h hb)
  have H0 := Lib.hid (LeftP.same h)
  obtain ⟨v, mb, M, h1, rfl⟩ := h
  have hfit := ho.fit
  have hlim := ho.lim
  unfold AnsP
  by_cases t : n < 0
  · have e : q.keep n = (2, q) := if_pos t
    rw [e]
    clear e ho h1
    go_enter Try.func20, Try.ntmps20
    go_wp2_with fail
    refine HMD.out.mono ?_
    rintro e w1 ⟨rfl, rfl⟩
    go_wp2_with fail
    go_ret
    exact ⟨rfl, H0.out⟩
  · have u1 : IntKind.u64.wrap n = n := by rw [IntKind.wrap_u64]; omega
    by_cases hr : (q.room : Int) < n
    · have e : q.keep n = (6, q) := by unfold QP.keep; rw [if_neg t, if_pos hr]
      rw [e]
      generalize q.room = r at *
      clear e ho h1 hfit hlim
      go_enter Try.func20, Try.ntmps20
      go_wp2_with fail
      refine HMD.out.mono ?_
      rintro e w1 ⟨rfl, rfl⟩
      go_wp2_with fail
      refine HR.out.mono ?_
      rintro e w1 ⟨rfl, hb1⟩
      go_wp2_with fail
      go_ret
      exact ⟨rfl, HS.out _ hb1⟩
    · obtain ⟨m, hm⟩ : ∃ m, m = q.kept + n.toNat := ⟨_, rfl⟩
      have e : q.keep n = (0, { q with kept := m }) := by unfold QP.keep; rw [if_neg t, if_neg hr, hm]
      rw [e]
      have em : (q.kept : Int) + n = (m : Int) := by omega
      have hml : m ≤ 4611686018427387904 := by unfold QP.room at hr; omega
      have u2 : wrap64 ((q.kept : Int) + n) = (m : Int) := by rw [em]; exact w64_id _ (by omega) (by omega)
      have u3 : IntKind.i64.wrap ((q.kept : Int) + n) = (m : Int) := by rw [em]; exact i64_id _ (by omega) (by omega)
      have HK := Lib.hid (fun w' (hb : Below w.heap.size w w') => (show PI w' B qb v mb M q ∧ LeftP w B qb (FP qb mb v) { q with kept := m } (w'.setCell ⟨qb, 1, none⟩ (.int .i64 m)) from ⟨h1.below hb, LeftP.after hb (LeftP.kept (h1.below hb) m)⟩))
      generalize q.room = r at *
      generalize hkk : q.kept = kk at *
      have HKK := Lib.hid hkk
      clear e ho h1 hfit hlim em hml hm hkk H0 HS
      go_enter Try.func20, Try.ntmps20
      go_wp2_with fail
      refine HMD.out.mono ?_
      rintro e w1 ⟨rfl, rfl⟩
      go_wp2_with fail
      refine HR.out.mono ?_
      rintro e w1 ⟨rfl, hb1⟩
      have c1 := (HK.out w1 hb1).1.box.c1
      rw [HKK.out] at c1
      have f1 := (HK.out w1 hb1).1.box.fr 1
      have HL := Lib.hid (HK.out w1 hb1).2
      go_wp2_with fail
      go_ret
      exact ⟨rfl, HL.out⟩
set_option maxHeartbeats 1000000 in
theorem rgive_any (h : PW w B qb q F) (ho : q.ok) (n : Int) (hn1 : -9223372036854775808 ≤ n) (hn2 : n < 9223372036854775808) : Calls Try.prog 21 #[.pointer (some ⟨qb, 0, none⟩), .int .i64 n] w (AnsP w B qb F (q.give n)) := by
  have HMD := Lib.hid (pmade_any h)
  have H0 := Lib.hid (LeftP.same h)
  obtain ⟨v, mb, M, h1, rfl⟩ := h
  have hfit := ho.fit
  have hlim := ho.lim
  have c1 := h1.box.c1
  have f1 := h1.box.fr 1
  unfold AnsP
  by_cases t : n < 0
  · have e : q.give n = (2, q) := if_pos (.inl t)
    rw [e]
    clear e ho h1
    go_enter Try.func21, Try.ntmps21
    go_wp2_with fail
    refine HMD.out.mono ?_
    rintro e w1 ⟨rfl, rfl⟩
    go_wp2_with fail
    go_ret
    exact ⟨rfl, H0.out⟩
  · have td : decide (n < 0) = false := by simpa using t
    by_cases hr : (q.kept : Int) < n
    · have e : q.give n = (2, q) := if_pos (.inr hr)
      have hrd : decide ((q.kept : Int) < n) = true := by simpa using hr
      rw [e]
      generalize q.kept = kk at *
      clear e ho h1 hfit hlim
      go_enter Try.func21, Try.ntmps21
      go_wp2_with fail
      refine HMD.out.mono ?_
      rintro e w1 ⟨rfl, rfl⟩
      go_wp2_with fail
      go_ret
      exact ⟨rfl, H0.out⟩
    · obtain ⟨m, hm⟩ : ∃ m, m = q.kept - n.toNat := ⟨_, rfl⟩
      have e : q.give n = (0, { q with kept := m }) := by unfold QP.give; rw [if_neg (by omega), hm]
      have hrd : decide ((q.kept : Int) < n) = false := by simpa using hr
      rw [e]
      have em : (q.kept : Int) - n = (m : Int) := by omega
      have hml : m ≤ 4611686018427387904 := by omega
      have u2 : wrap64 ((q.kept : Int) - n) = (m : Int) := by rw [em]; exact w64_id _ (by omega) (by omega)
      have u3 : IntKind.i64.wrap ((q.kept : Int) - n) = (m : Int) := by rw [em]; exact i64_id _ (by omega) (by omega)
      have HL := Lib.hid (LeftP.kept h1 m)
      generalize q.kept = kk at *
      clear e ho h1 hfit hlim em hml hm H0
      go_enter Try.func21, Try.ntmps21
      go_wp2_with fail
      refine HMD.out.mono ?_
      rintro e w1 ⟨rfl, rfl⟩
      go_wp2_with fail
      go_ret
      exact ⟨rfl, HL.out⟩
/-- What Purge tells and leaves. -/
def PurgeSaidP (w : World) (B qb : Nat) (F : Nat → Prop) (r : List Nat × QP) (e : Ending) (w' : World) : Prop := ∃ v, e = .returned v ∧ RdQ w' B v r.1 ∧ ∃ F', PW w' B qb r.2 F' ∧ (∀ k, F' k → (F k ∨ w.heap.size ≤ k) ∧ v.ownBlock ≠ some k) ∧ MovedQ F w w' ∧ ∀ g, v.ownBlock = some g → F g
set_option maxHeartbeats 1000000 in
theorem rpurge_any (h : PW w B qb q F) (ho : q.ok) : Calls Try.prog 26 #[.pointer (some ⟨qb, 0, none⟩)] w (PurgeSaidP w B qb F q.purge) := by
  have HR := Lib.hid (rready_any h)
  obtain ⟨v, mb, M, h1, rfl⟩ := h
  have c3 := h1.box.c3
  have f3 := h1.box.fr 3
  by_cases h0 : (ofQ 0 q.l).length = 0
  · have e0 := List.eq_nil_of_length_eq_zero h0
    rw [h0] at HR
    have e1 : heldQ q.l = q.l := by
      unfold heldQ
      rw [List.filter_eq_self]
      intro x hx
      rw [decide_eq_true_iff]
      intro e2
      have : x.1 ∈ ofQ 0 q.l := mem_ofQ.2 (by rw [← e2]; exact hx)
      rw [e0] at this
      cases this
    have HFIN : Hid (PurgeSaidP w B qb (FP qb mb v) q.purge (.returned (.slice none 0 0)) w) := Lib.hid (by
      refine ⟨_, rfl, ?_, FP qb mb v, ⟨v, mb, M, ?_, rfl⟩, fun k hk => ⟨.inl hk, by simp [Value.ownBlock]⟩, MovedQ.refl _ _, fun g hg => by cases hg⟩
      · simp only [QP.purge, e0]; exact .inl ⟨rfl, rfl⟩
      · simp only [QP.purge, e1]; exact h1)
    clear h1 h0 e0 e1 ho
    generalize q.purge = R at *
    go_enter Try.func26, Try.ntmps26
    go_wp2_with fail
    refine HR.out.mono ?_
    rintro e w1 ⟨rfl, rfl⟩
    go_wp2_with fail
    go_ret
    exact HFIN.out
  · obtain ⟨A, c, rfl, _, _⟩ := h1.row.form
    have HFIN : Hid (PurgeSaidP w B qb (FP qb mb (.slice A (ofQ 0 q.l).length c)) q.purge (.returned (.slice A (ofQ 0 q.l).length c)) (w.setCell ⟨qb, 3, none⟩ (.slice none 0 0))) := Lib.hid (by
      refine ⟨_, rfl, ?_, FP qb mb (.slice none 0 0), ⟨_, mb, M, PI.store3 (l := q.purge.2.l) h1.box (.inl ⟨rfl, by simp [QP.purge, ofQ_held]⟩) h1.map (h1.mq.same (by simp [QP.purge, heldQ_held])) h1.hB h1.hM, rfl⟩, fun k hk => ?_, (MovedQ.refl _ _).setCell (fun _ => .inl rfl) _ _, fun g hg => .inr (.inr hg)⟩
      · exact h1.row.keep fun g hg => Below.heap_setCell _ _ _ _ (by show g ≠ qb; rintro rfl; exact h1.neRow hg)
      · rcases hk with rfl | rfl | hk
        · exact ⟨.inl (.inl rfl), h1.neRow⟩
        · exact ⟨.inl (.inr (.inl rfl)), h1.neRowM⟩
        · cases hk)
    have t0 : (((ofQ 0 q.l).length : Int) == 0) = false := by rw [beq_eq_false_iff_ne]; omega
    clear h1 h0 ho
    generalize q.purge = R at *
    generalize (ofQ 0 q.l).length = n at *
    go_enter Try.func26, Try.ntmps26
    go_wp2_with fail
    refine HR.out.mono ?_
    rintro e w1 ⟨rfl, rfl⟩
    go_wp2_with fail
    go_ret
    exact HFIN.out
end

end Go.Proofs.Ytkcbkimconaegaa
