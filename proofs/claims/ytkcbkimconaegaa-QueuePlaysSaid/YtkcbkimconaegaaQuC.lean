/-
  The document's Next and Pass of queues.
  Conditions: none but sizes.
-/
import Derived.Test.YtkcbkimconaegaaQuB
namespace Go.Proofs.Ytkcbkimconaegaa
open Go.RowKit
set_option linter.unusedVariables false
set_option linter.unusedSimpArgs false
set_option maxRecDepth 100000

section
variable {w w' : World} {B qb : Nat} {F : Nat → Prop} {q : QP}
/-- An owner is stored. -/
theorem QI.own {b c : Nat} (h : QI w B qb (some ⟨b, 0, none⟩) c q) {i : Nat} (hi : i < q.l.length) (ow : Nat) : QI (w.setCell ⟨b, i * 2 + 1, none⟩ (.int .u64 ow)) B qb (some ⟨b, 0, none⟩) c (q.own i ow) := by
  have hl : (q.own i ow).l.length = q.l.length := by simp [QP.own]
  have hne : b ≠ qb := h.ne b rfl
  refine ⟨?_, ?_, by rw [hl]; exact h.ne, h.hB⟩
  · rw [hl]
    exact (Below.heap_setCell _ _ _ _ (by show qb ≠ b; exact fun e => hne e.symm)).trans h.box
  · rw [hl]
    have := h.row.set_ i 1 hi (by decide) ((q.at_ i).1, ow) (.int .u64 ow) (by rw [QP.at_get hi]; rfl)
    exact this
theorem LeftQ.own {b c : Nat} (h : QI w B qb (some ⟨b, 0, none⟩) c q) {i : Nat} (hi : i < q.l.length) (ow : Nat) : LeftQ w B qb (FQ qb (some ⟨b, 0, none⟩) q.l.length c) (q.own i ow) (w.setCell ⟨b, i * 2 + 1, none⟩ (.int .u64 ow)) := by
  have hl : (q.own i ow).l.length = q.l.length := by simp [QP.own]
  exact ⟨_, ⟨_, c, h.own hi ow, rfl⟩, fun k hk => .inl (by rw [hl] at hk; exact hk), (MovedQ.refl _ _).setCell (fun _ => .inr rfl) _ _⟩

def NextSaid (w : World) (B qb : Nat) (F : Nat → Prop) (r : (Nat × Bool) × QP) (e : Ending) (w' : World) : Prop := e = .returned (.tuple #[.int .u64 r.1.1, .bool r.1.2]) ∧ LeftQ w B qb F r.2 w'
set_option maxHeartbeats 2000000 in
theorem qnext_any (h : QW w B qb q F) (hn : q.l.length ≤ 1000000) (ow : Nat) : Calls Try.prog 33 #[.pointer (some ⟨qb, 0, none⟩), .int .u64 ow] w (NextSaid w B qb F (q.next ow)) := by
  have H0 := Lib.hid (LeftQ.same h)
  obtain ⟨A, c, h1, hF⟩ := h
  have HQ := Lib.hid h1
  have c1 := h1.c1
  unfold NextSaid
  by_cases h0 : ow = 0
  · have e : q.next ow = ((0, false), q) := if_pos h0
    rw [e]
    subst h0
    clear e h1 hF
    go_enter Try.func33, Try.ntmps33
    go_wp2_with fail
    go_loopw [6] (fun iv wr => iv = .int .i64 0 ∧ wr = w) (fun iv _ => 0)
    case atStart => exact ⟨rfl, rfl⟩
    case round =>
      obtain ⟨rfl, rfl⟩ := hrel
      by_cases hl : 0 < q.l.length
      · have b1 : (0 : Int) < (q.l.length : Int) := by omega
        go_wp2_with fail
        go_ret2
        exact ⟨rfl, H0.out⟩
      · have b1 : ¬ (0 : Int) < (q.l.length : Int) := by omega
        go_wp2_with fail
        go_ret2
        exact ⟨rfl, H0.out⟩
  have t0 : (0 : Int) < (ow : Int) := by omega
  have HP1 := Lib.hid (fun (i : Nat) (hi : i < q.l.length) (hz : q.l[i].2 = 0) (hb : ∀ j (h : j < q.l.length), j < i → q.l[j].2 ≠ 0) => (show q.next ow = ((q.l[i].1, true), q.own i ow) from by
    have e : placeQ (fun x => decide (x.2 = 0)) q.l = some i := placeQ_some hi (by simpa using hz) (fun j hj hji => by simpa using hb j hj hji)
    unfold QP.next
    rw [if_neg h0, e]
    show (((q.at_ i).1, true), q.own i ow) = _
    rw [QP.at_get hi]))
  have HP2 := Lib.hid (fun (hb : ∀ j (h : j < q.l.length), q.l[j].2 ≠ 0) => (show q.next ow = ((0, false), q) from by
    have e : placeQ (fun x => decide (x.2 = 0)) q.l = none := placeQ_none (fun j hj => by simpa using hb j hj)
    unfold QP.next
    rw [if_neg h0, e]))
  generalize q.next ow = R at *
  have HF := Lib.hid hF
  clear h1 hF h0
  go_enter Try.func33, Try.ntmps33
  go_wp2_with fail
  go_loopw [6] (fun iv wr => ∃ j : Nat, j ≤ q.l.length ∧ iv = .int .i64 j ∧ wr = w ∧ Hid (∀ k (h : k < q.l.length), k < j → q.l[k].2 ≠ 0)) (fun iv _ => q.l.length - (intOf iv).toNat)
  case atStart => exact ⟨0, by omega, rfl, rfl, Lib.hid fun k _ h => absurd h (by omega)⟩
  case round =>
    obtain ⟨j, hj, rfl, rfl, hne⟩ := hrel
    by_cases hlt : j < q.l.length
    · obtain ⟨b, rfl, hbq, k0, k1, kf⟩ := HQ.out.at_ hlt
      have b1 : (j : Int) < (q.l.length : Int) := by omega
      have b3 : IntKind.i64.wrap ((j : Int) + 1) = (j : Int) + 1 := i64_id _ (by omega) (by omega)
      by_cases he : q.l[j].2 = 0
      · obtain rfl := HP1.out j hlt he (hne.out)
        have hO := LeftQ.own HQ.out hlt ow
        rw [← HF.out] at hO
        have HO := Lib.hid hO
        have f1 := kf (j * 2 + 1)
        have c1' : (wr.setCell ⟨b, j * 2 + 1, none⟩ (.int .u64 ow)).cell? ⟨qb, 1, none⟩ = some (.slice (some ⟨b, 0, none⟩) q.l.length c) := (World.cell?_of_block (Below.heap_setCell _ _ _ _ (by show qb ≠ b; exact fun e => hbq e.symm))).trans c1
        have k0' : (wr.setCell ⟨b, j * 2 + 1, none⟩ (.int .u64 ow)).cell? ⟨b, j * 2, none⟩ = some (.int .u64 (q.l[j].1 : Nat)) := by
          have h9 := (HQ.out.own hlt ow).row.at_ (by simp [QP.own]; omega)
          obtain ⟨b', e', _, _, _, hc⟩ := h9
          cases e'
          have h8 : (wr.setCell ⟨b, j * 2 + 1, none⟩ (.int .u64 ow)).cell? ⟨b, j * 2, none⟩ = _ := hc j (by simp [QP.own]; omega) 0 (by decide)
          rw [h8]
          simp [QP.own, pairC, QP.at_get hlt]
        rw [he] at k1
        clear he hO kf hbq hne
        go_wp2_with fail
        go_ret2
        exact ⟨rfl, HO.out⟩
      · have ht : ((q.l[j].2 : Int) == 0) = false := by rw [beq_eq_false_iff_ne]; omega
        have HN := Lib.hid (show ∀ k (h : k < q.l.length), k < j + 1 → q.l[k].2 ≠ 0 from fun k hk hkj => by
          by_cases c : k < j
          · exact hne.out k hk c
          · obtain rfl : k = j := by omega
            exact he)
        generalize q.l[j].1 = y at *
        generalize q.l[j].2 = z at *
        clear he hne
        go_wp2_with fail
        go_roundw
        case rel => exact ⟨j + 1, by omega, by go_num, by first | rfl | trivial, HN⟩
        case measure => simp [intOf]; omega
    · have b1 : ¬ (j : Int) < (q.l.length : Int) := by omega
      obtain rfl := HP2.out (fun k hk => hne.out k hk (by omega))
      go_wp2_with fail
      go_ret2
      exact ⟨rfl, H0.out⟩
set_option maxHeartbeats 1000000 in
theorem qpass_any (h : QW w B qb q F) (hn : q.l.length ≤ 1000000) (id f t : Nat) : Calls Try.prog 34 #[.pointer (some ⟨qb, 0, none⟩), .int .u64 id, .int .u64 f, .int .u64 t] w (AnsQ w B qb F (q.pass id f t)) := by
  have H0 := Lib.hid (LeftQ.same h)
  have HFD := Lib.hid (qfind_any h hn id)
  obtain ⟨A, c, h1, hF⟩ := (show QW w B qb q F from h)
  have c1 := h1.c1
  unfold AnsQ
  cases hr : q.find id with
  | none =>
    have e : q.pass id f t = (7, q) := by unfold QP.pass; rw [hr]
    rw [e]
    rw [hr] at HFD
    unfold placeV at HFD
    clear e hr h h1 hF
    go_enter Try.func34, Try.ntmps34
    go_wp2_with fail
    refine HFD.out.mono ?_
    rintro e w1 ⟨rfl, rfl⟩
    go_wp2_with fail
    go_ret
    exact ⟨rfl, H0.out⟩
  | some i =>
    obtain ⟨hi, -⟩ := placeQ_at (show placeQ (fun x => decide (x.1 = id)) q.l = some i from hr)
    rw [hr] at HFD
    unfold placeV at HFD
    simp only [] at HFD
    have b0 : ¬ (i : Int) < 0 := by omega
    have b1 : (i : Int) < (q.l.length : Int) := by omega
    obtain ⟨b, rfl, hbq, k0, k1, kf⟩ := h1.at_ hi
    by_cases he : q.l[i].2 = f
    · have e : q.pass id f t = (0, q.own i t) := by unfold QP.pass; rw [hr]; show (if (q.at_ i).2 ≠ f then _ else _) = _; rw [QP.at_get hi, if_neg (by simpa using he)]
      rw [e]
      have hO := LeftQ.own h1 hi t
      rw [← hF] at hO
      have HO := Lib.hid hO
      have f1 := kf (i * 2 + 1)
      rw [he] at k1
      clear e hr h h1 hF he hO kf hbq
      go_enter Try.func34, Try.ntmps34
      go_wp2_with fail
      refine HFD.out.mono ?_
      rintro e w1 ⟨rfl, rfl⟩
      go_wp2_with fail
      go_ret
      exact ⟨rfl, HO.out⟩
    · have e : q.pass id f t = (9, q) := by unfold QP.pass; rw [hr]; show (if (q.at_ i).2 ≠ f then _ else _) = _; rw [QP.at_get hi, if_pos he]
      rw [e]
      have ht : ((q.l[i].2 : Int) != (f : Int)) = true := by rw [bne_iff_ne]; omega
      generalize q.l[i].1 = y at *
      generalize q.l[i].2 = z at *
      clear e hr h h1 hF he kf hbq
      go_enter Try.func34, Try.ntmps34
      go_wp2_with fail
      refine HFD.out.mono ?_
      rintro e w1 ⟨rfl, rfl⟩
      go_wp2_with fail
      go_ret
      exact ⟨rfl, H0.out⟩
end

end Go.Proofs.Ytkcbkimconaegaa
