/-
  The program's Next, Hold, Pass and Drop of queues.
  Conditions: none but sizes.
-/
import Derived.Test.YtkcbkimconaegaaQpF
namespace Go.Proofs.Ytkcbkimconaegaa
open Go.RowKit
set_option linter.unusedVariables false
set_option linter.unusedSimpArgs false
set_option maxRecDepth 100000

theorem asc_around {a b : List (Nat × Nat)} {id o : Nat} (h : ((a ++ (id, o) :: b).map (fun x : Nat × Nat => x.1)).Pairwise (· < ·)) : (∀ x ∈ a, x.1 < id) ∧ ∀ x ∈ b, id < x.1 := by
  rw [List.map_append, List.map_cons, List.pairwise_append, List.pairwise_cons] at h
  exact ⟨fun x hx => h.2.2 x.1 (List.mem_map.2 ⟨x, hx, rfl⟩) id (by simp), fun x hx => h.2.1.1 x.1 (List.mem_map.2 ⟨x, hx, rfl⟩)⟩
section
variable {w w' : World} {B qb mb : Nat} {F : Nat → Prop} {q : QP}
theorem lack_said (q : QP) (id f : Nat) : lackE (heldBy f) (q.owner id) = match q.find id with | none => 7 | some i => if f = 0 ∨ (q.at_ i).2 ≠ f then 9 else 0 := by
  unfold lackE QP.owner
  cases q.find id with
  | none => rfl
  | some i =>
    show (if heldBy f (q.at_ i).2 = true then 0 else 9) = if f = 0 ∨ (q.at_ i).2 ≠ f then 9 else 0
    cases hb : heldBy f (q.at_ i).2 with
    | true =>
      have hb' : f ≠ 0 ∧ (q.at_ i).2 = f := of_decide_eq_true hb
      rw [if_pos rfl, if_neg (fun e => by rcases e with e | e; exact hb'.1 e; exact e hb'.2)]
    | false =>
      have hb' : ¬ (f ≠ 0 ∧ (q.at_ i).2 = f) := of_decide_eq_false hb
      rw [if_neg (by simp), if_pos (by by_cases h0 : f = 0; exact .inl h0; exact .inr fun e => hb' ⟨h0, e⟩)]
set_option maxHeartbeats 1000000 in
theorem rnext_any (h : PW w B qb q F) (ho : q.ok) (hn : q.l.length ≤ 1000000) (ow : Nat) (hi : ow < 18446744073709551616) : Calls Try.prog 14 #[.pointer (some ⟨qb, 0, none⟩), .int .u64 ow] w (NextSaidP w B qb F (q.next ow)) := by
  have HR := Lib.hid (rready_any h)
  have H0 := Lib.hid (LeftP.same h)
  obtain ⟨v, mb, M, h1, rfl⟩ := h
  unfold NextSaidP
  have hl := two_len q.l
  cases hf : placeQ (fun x => decide (x.2 = 0)) q.l with
  | none =>
    have e : q.next ow = ((0, false), q) := by unfold QP.next; rw [hf]; split <;> rfl
    rw [e]
    rw [ready_none hf] at HR
    clear h1 e hf ho hl
    go_enter Try.func14, Try.ntmps14
    go_wp2_with fail
    refine HR.out.mono ?_
    rintro e w1 ⟨rfl, rfl⟩
    go_wp2_with fail
    go_ret2
    exact ⟨rfl, H0.out⟩
  | some i =>
    obtain ⟨id, a, b, hs, hla, ha, hat, hown⟩ := ready_first hf
    have hr : ofQ 0 q.l = id :: ofQ 0 b := by rw [hs, ofQ_append, ofQ_cons, if_pos rfl, ha]; rfl
    have hne : ((ofQ 0 q.l).length : Int) ≠ 0 := by rw [hr, List.length_cons]; omega
    have t0 : (((ofQ 0 q.l).length : Int) == 0) = false := by rw [beq_eq_false_iff_ne]; exact hne
    by_cases h0 : ow = 0
    · subst h0
      have e : q.next 0 = ((0, false), q) := by unfold QP.next; rw [if_pos rfl]
      rw [e]
      generalize (ofQ 0 q.l).length = n at *
      clear h1 e hf ho hl hs hr hown hat
      go_enter Try.func14, Try.ntmps14
      go_wp2_with fail
      refine HR.out.mono ?_
      rintro e w1 ⟨rfl, rfl⟩
      go_wp2_with fail
      go_ret2
      exact ⟨rfl, H0.out⟩
    · have e : q.next ow = ((id, true), q.own i ow) := by unfold QP.next; rw [if_neg h0, hf]; simp only [hat]
      have e2 : q.own i ow = { q with l := a ++ (id, ow) :: b } := by rw [← hown ow]; rfl
      rw [e, e2]
      have hasc := ho.asc
      rw [hs] at hasc
      obtain ⟨hlo, hhi⟩ := asc_around hasc
      have hid : id < 18446744073709551616 := (ho.ms (id, 0) (by rw [hs]; simp)).1
      have HH := Lib.hid (phand_any (t := ow) h1 hn hs hlo hhi hid h0)
      rw [ha] at HH
      obtain ⟨A, c, rfl, hc1, hc2⟩ := h1.row.form
      have c3 := h1.box.c3
      have hrow := h1.row
      rw [hr] at hrow
      obtain ⟨g, off, cs, rfl, _, _, hgb, _, _, _, hg6⟩ := hrow.at_ (by simp)
      have hcell : w.cell? ⟨g, off, none⟩ = some (.int .u64 id) := by
        have := hg6 0 (by simp)
        rw [cell_of_row _ _ _ _ _ (0, 0) hgb]
        simpa using this
      have t1 : ((ow : Int) == 0) = false := by rw [beq_eq_false_iff_ne]; omega
      have hpos : (0 : Int) < ((ofQ 0 q.l).length : Int) := by omega
      generalize (ofQ 0 q.l).length = n at *
      clear h1 e e2 hf ho hl hs hr hown hat hrow hlo hhi hasc hg6 hgb hc1 hc2 ha H0
      go_enter Try.func14, Try.ntmps14
      go_wp2_with fail
      refine HR.out.mono ?_
      rintro e w1 ⟨rfl, rfl⟩
      go_wp2_with fail
      refine HH.out.mono ?_
      rintro e w2 ⟨rfl, hl2⟩
      go_wp2_with fail
      go_ret2
      exact ⟨rfl, hl2⟩
set_option maxHeartbeats 1000000 in
theorem rhold_any (h : PW w B qb q F) (ho : q.ok) (hn : q.l.length ≤ 1000000) (id ow : Nat) (hi : id < 18446744073709551616) (hi2 : ow < 18446744073709551616) : Calls Try.prog 23 #[.pointer (some ⟨qb, 0, none⟩), .int .u64 id, .int .u64 ow] w (AnsP w B qb F (q.hold id ow)) := by
  have HM := Lib.hid (pmade_any h)
  have HL := Lib.hid (placks2_any h ho hn id hi)
  have HS := Lib.hid (fun w' (hb : Below w.heap.size w w') => LeftP.of_below h hb)
  have H0 := Lib.hid (LeftP.same h)
  unfold AnsP
  by_cases h0 : ow = 0
  · subst h0
    have e : q.hold id 0 = (2, q) := if_pos rfl
    rw [e]
    clear h ho e
    go_enter Try.func23, Try.ntmps23
    go_wp2_with fail
    refine HM.out.mono ?_
    rintro e w1 ⟨rfl, rfl⟩
    go_wp2_with fail
    go_ret
    exact ⟨rfl, H0.out⟩
  · have t1 : ((ow : Int) == 0) = false := by rw [beq_eq_false_iff_ne]; omega
    have hbad : ∀ E : Nat, E ≠ 0 → q.hold id ow = (E, q) → lackE (fun o => decide (o = 0)) (q.owner id) = E → Calls Try.prog 23 #[.pointer (some ⟨qb, 0, none⟩), .int .u64 id, .int .u64 ow] w fun e w' => e = .returned (.int .i64 (q.hold id ow).1) ∧ LeftP w B qb F (q.hold id ow).2 w' := fun E hE e1 e2 => by
      rw [e1]
      rw [e2] at HL
      have tE : ((E : Int) == 0) = false := by rw [beq_eq_false_iff_ne]; omega
      clear h ho e1 e2
      go_enter Try.func23, Try.ntmps23
      go_wp2_with fail
      refine HM.out.mono ?_
      rintro e w1 ⟨rfl, rfl⟩
      go_wp2_with fail
      refine HL.out.mono ?_
      rintro e w1 ⟨rfl, hb1⟩
      go_wp2_with fail
      go_ret
      exact ⟨rfl, HS.out _ hb1⟩
    cases hf : q.find id with
    | none => exact hbad 7 (by decide) (by simp [QP.hold, h0, QP.pass, hf]) (by simp [lackE, QP.owner, hf])
    | some i =>
      obtain ⟨o, a, b, hs⟩ := find_some ho hf
      by_cases hob : o = 0
      · subst hob
        have e : q.hold id ow = (0, q.own i ow) := by simp [QP.hold, h0, QP.pass, hf, hs.at_]
        have e2 : q.own i ow = { q with l := a ++ (id, ow) :: b } := by rw [← hs.own ow]; rfl
        rw [e, e2]
        have eL : lackE (fun o => decide (o = 0)) (q.owner id) = 0 := by simp [lackE, QP.owner, hf, hs.at_]
        rw [eL] at HL
        obtain ⟨hrr, hr1, hr2⟩ := ready_split hs
        rw [if_pos rfl] at hrr
        have hl := two_len q.l
        obtain ⟨v, mb, M, h1, rfl⟩ := h
        obtain ⟨A, c, rfl, hc1, hc2⟩ := h1.row.form
        obtain ⟨d, _, hsh⟩ := h1.row.shows
        rw [hrr] at hsh
        have HF := Lib.hid (fun w1 (hb : Below w.heap.size w w1) => (show w1.cell? ⟨qb, 3, none⟩ = some (.slice A (ofQ 0 a ++ ([id] ++ ofQ 0 b)).length c) ∧ Calls Try.prog 42 #[.slice A (ofQ 0 a ++ ([id] ++ ofQ 0 b)).length c, .int .u64 id] w1 (fun e w' => e = .returned (.tuple #[.int .i64 (ofQ 0 a).length, .bool true]) ∧ Below w.heap.size w w') from by
          refine ⟨by rw [← hrr]; exact (h1.below hb).box.c3, (pfind_any A c _ d id (ofQ 0 a) ([id] ++ ofQ 0 b) w1 rfl (hsh.below' hb (Nat.le_refl _)) hr1 (fun y hy => ?_) (by rw [← hrr]; omega)).mono fun e w' hx => ⟨by simpa using hx.1, hb.trans (hx.2.mono hb.size)⟩⟩
          rcases List.mem_append.1 hy with hy | hy
          · simp at hy; omega
          · exact Nat.le_of_lt (hr2 y hy)))
        have HD := Lib.hid (fun w1 (hb : Below w.heap.size w w1) => (phand_any (t := ow) (h1.below hb) hn hs.row hs.lo hs.hi hi h0).mono fun e w' hx => (show e = .returned (.tuple #[]) ∧ LeftP w B qb _ _ w' from ⟨hx.1, LeftP.after hb hx.2⟩))
        generalize (ofQ 0 a ++ ([id] ++ ofQ 0 b)).length = n at *
        generalize (ofQ 0 a).length = k at *
        clear h1 hs e e2 eL hf ho hrr hr1 hr2 hl hsh hc1 hc2 hbad H0 HS
        go_enter Try.func23, Try.ntmps23
        go_wp2_with fail
        refine HM.out.mono ?_
        rintro e w1 ⟨rfl, rfl⟩
        go_wp2_with fail
        refine HL.out.mono ?_
        rintro e w1 ⟨rfl, hb1⟩
        obtain ⟨c3, HF1⟩ := HF.out _ hb1
        go_wp2_with fail
        refine HF1.mono ?_
        rintro e w2 ⟨rfl, hb2⟩
        go_wp2_with fail
        refine (HD.out _ hb2).mono ?_
        rintro e w3 ⟨rfl, hl3⟩
        go_wp2_with fail
        go_ret
        exact ⟨rfl, hl3⟩
      · exact hbad 9 (by decide) (by simp [QP.hold, h0, QP.pass, hf, hs.at_, hob]) (by simp [lackE, QP.owner, hf, hs.at_, hob])
theorem pass2_cases (q : QP) (id f t : Nat) (ht : t ≠ 0) : (∃ E, E ≠ 0 ∧ q.pass2 id f t = (E, q) ∧ lackE (heldBy f) (q.owner id) = E) ∨ ∃ i, q.find id = some i ∧ f ≠ 0 ∧ (q.at_ i).2 = f ∧ q.pass2 id f t = (0, q.own i t) ∧ lackE (heldBy f) (q.owner id) = 0 := by
  rw [lack_said]
  unfold QP.pass2 QP.hands QP.pass
  rw [if_neg ht]
  cases q.find id with
  | none => exact .inl ⟨7, by decide, by split <;> rfl, rfl⟩
  | some i =>
    by_cases c : f = 0 ∨ (q.at_ i).2 ≠ f
    · refine .inl ⟨9, by decide, ?_, by simp only [if_pos c]⟩
      by_cases c2 : f = 0
      · simp [c2]
      · have c3 : (q.at_ i).2 ≠ f := by rcases c with c | c; exact absurd c c2; exact c
        simp [c2, c3]
    · have c1 : f ≠ 0 := fun e => c (.inl e)
      have c2 : (q.at_ i).2 = f := by
        by_cases e : (q.at_ i).2 = f
        · exact e
        · exact absurd (.inr e) c
      exact .inr ⟨i, rfl, c1, c2, by simp [c1, c2], by simp only [if_neg c]⟩
theorem drop_cases (q : QP) (id f : Nat) : (∃ E, E ≠ 0 ∧ q.drop id f = (E, q) ∧ q.hands id f 0 = (E, q) ∧ lackE (heldBy f) (q.owner id) = E) ∨ ∃ i, q.find id = some i ∧ f ≠ 0 ∧ (q.at_ i).2 = f ∧ q.drop id f = (0, { q with l := q.l.take i ++ q.l.drop (i + 1) }) ∧ q.hands id f 0 = (0, q.own i 0) ∧ lackE (heldBy f) (q.owner id) = 0 := by
  rw [lack_said]
  unfold QP.drop QP.hands QP.pass
  cases q.find id with
  | none => exact .inl ⟨7, by decide, rfl, by split <;> rfl, rfl⟩
  | some i =>
    by_cases c : f = 0 ∨ (q.at_ i).2 ≠ f
    · refine .inl ⟨9, by decide, by simp only [if_pos c], ?_, by simp only [if_pos c]⟩
      by_cases c2 : f = 0
      · simp [c2]
      · have c3 : (q.at_ i).2 ≠ f := by rcases c with c | c; exact absurd c c2; exact c
        simp [c2, c3]
    · have c1 : f ≠ 0 := fun e => c (.inl e)
      have c2 : (q.at_ i).2 = f := by
        by_cases e : (q.at_ i).2 = f
        · exact e
        · exact absurd (.inr e) c
      exact .inr ⟨i, rfl, c1, c2, by simp only [if_neg c], by simp [c1, c2], by simp only [if_neg c]⟩
end

end Go.Proofs.Ytkcbkimconaegaa
