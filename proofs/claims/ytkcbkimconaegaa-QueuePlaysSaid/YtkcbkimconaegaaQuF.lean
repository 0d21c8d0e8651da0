/-
  The document's Drop of queues.
  Conditions: none but sizes.
-/
import Derived.Test.YtkcbkimconaegaaQuE
namespace Go.Proofs.Ytkcbkimconaegaa
open Go.RowKit
set_option linter.unusedVariables false
set_option linter.unusedSimpArgs false
set_option maxRecDepth 100000

theorem succ_wraps {n m : Nat} (hm : m = n + 1) (h : m ≤ 1000000) : IntKind.i64.wrap ((n : Int) + 1) = (m : Int) ∧ wrap64 ((n : Int) + 1) = (m : Int) := by
  have e : (n : Int) + 1 = (m : Int) := by omega
  rw [e]
  exact ⟨i64_id _ (by omega) (by omega), w64_id _ (by omega) (by omega)⟩
section
variable {w w' : World} {B qb : Nat} {F : Nat → Prop} {q : QP}
set_option maxHeartbeats 2000000 in
theorem qdropQ_any (h : QW w B qb q F) (ho : q.ok) (hn : q.l.length ≤ 1000000) (id ow : Nat) : Calls Try.prog 36 #[.pointer (some ⟨qb, 0, none⟩), .int .u64 id, .int .u64 ow] w (AnsQ w B qb F (q.drop id ow)) := by
  have H0 := Lib.hid (LeftQ.same h)
  have HFD := Lib.hid (qfind_any h hn id)
  obtain ⟨A, c, h1, hF⟩ := (show QW w B qb q F from h)
  have c1 := h1.c1
  unfold AnsQ
  cases hr : q.find id with
  | none =>
    have e : q.drop id ow = (7, q) := by unfold QP.drop; rw [hr]
    rw [e]
    rw [hr] at HFD
    unfold placeV at HFD
    clear e hr h h1 hF
    go_enter Try.func36, Try.ntmps36
    go_wp2_with fail
    refine HFD.out.mono ?_
    rintro e w1 ⟨rfl, rfl⟩
    go_wp2_with fail
    go_ret
    exact ⟨rfl, H0.out⟩
  | some i =>
    obtain ⟨hi, -⟩ := placeQ_at (show placeQ (fun x => decide (x.1 = id)) q.l = some i from hr)
    rw [hr] at HFD
    unfold placeV at HFD
    simp only [] at HFD
    have b0 : ¬ (i : Int) < 0 := by omega
    have b1 : (i : Int) < (q.l.length : Int) := by omega
    obtain ⟨b, rfl, hbq, k0, k1, kf⟩ := h1.at_ hi
    have hdr : q.drop id ow = if ow = 0 ∨ q.l[i].2 ≠ ow then (9, q) else (0, { q with l := q.l.take i ++ q.l.drop (i + 1) }) := by
      unfold QP.drop; rw [hr]; show (if ow = 0 ∨ (q.at_ i).2 ≠ ow then _ else _) = _; rw [QP.at_get hi]
    rw [hdr]
    by_cases h0 : ow = 0
    · rw [if_pos (.inl h0)]
      subst h0
      clear hdr hr h h1 hF kf hbq
      go_enter Try.func36, Try.ntmps36
      go_wp2_with fail
      refine HFD.out.mono ?_
      rintro e w1 ⟨rfl, rfl⟩
      go_wp2_with fail
      go_ret
      exact ⟨rfl, H0.out⟩
    have t0 : ((ow : Int) == 0) = false := by rw [beq_eq_false_iff_ne]; omega
    by_cases he : q.l[i].2 = ow
    case neg =>
      rw [if_pos (.inr he)]
      have ht : ((q.l[i].2 : Int) != (ow : Int)) = true := by rw [bne_iff_ne]; omega
      generalize q.l[i].2 = z at *
      clear hdr hr h h1 hF he kf hbq
      go_enter Try.func36, Try.ntmps36
      go_wp2_with fail
      refine HFD.out.mono ?_
      rintro e w1 ⟨rfl, rfl⟩
      go_wp2_with fail
      go_ret
      exact ⟨rfl, H0.out⟩
    rw [if_neg (by rintro (h | h); exact h0 h; exact h he)]
    rw [he] at k1
    obtain ⟨g, hg1, hsh⟩ := h1.row.shows
    obtain ⟨_, hlc, hcm⟩ := hsh.lens
    have hgw := hsh.lt (by omega)
    obtain ⟨i1, hi1⟩ : ∃ i1, i1 = i + 1 := ⟨_, rfl⟩
    have HT := Lib.hid (fun w1 (hb1 : Below w.heap.size w w1) (A' : Option Addr) (c' : Nat) (hA : ¬ c = i1 → A' = (some (⟨b, 0, none⟩ : Addr)).map (fun x => x.add (i1 * 2))) (h1 : q.l.length - i1 ≤ c') (h2 : c' ≤ maxLen) =>
      (hsh.below hb1 hgw).tail' (k := i1) (by omega) A' (fun h => hA (by omega)) h1 h2)
    have HH := Lib.hid (hsh.head (k := i) (by omega))
    have HQ := Lib.hid (fun w1 (hb1 : Below w.heap.size w w1) => h1.below hb1)
    have H1 := Lib.hid h1
    have HF := Lib.hid hF
    have hi1' : i1 ≤ q.l.length := by rw [hi1]; exact hi
    obtain ⟨bw, bw'⟩ := succ_wraps hi1 (Nat.le_trans hi1' hn)
    have b2 : (i : Int) ≤ (q.l.length : Int) := Int.ofNat_le.2 (Nat.le_of_lt hi)
    have b3 : (i : Int) ≤ (c : Int) := Int.ofNat_le.2 (Nat.le_trans (Nat.le_of_lt hi) hlc)
    have b4 : (i1 : Int) ≤ (q.l.length : Int) := Int.ofNat_le.2 hi1'
    have b5 : (i1 : Int) ≤ (c : Int) := Int.ofNat_le.2 (Nat.le_trans hi1' hlc)
    have HL := Lib.hid (And.intro hi1' (And.intro hlc (And.intro hcm hn)))
    have HCX := Lib.hid (show q.l.take i ++ q.l.drop i1 = q.l.take i ++ q.l.drop (i + 1) by rw [hi1])
    clear hdr hr h h1 hF he kf hbq h0 hsh hg1 hgw hi1 hi1' hlc hcm ho b0
    have b0 : ¬ (i : Int) < 0 := by omega
    go_enter Try.func36, Try.ntmps36
    go_wp2_with fail
    refine HFD.out.mono ?_
    rintro e w0 ⟨rfl, rfl⟩
    go_wp2_with (first
      | (at_builtin
         refine wpList_appendG (pairC .u64) _ rfl (.tmp 28) (.tmp 34) 27 rfl w0.heap.size 68 (.agg #[.int .u64 0, .int .u64 0]) 16 Try.underlying27 infoMs rfl (.slice none 0 0) [] rfl (OwnG.nil_ _ _ _ _) g _ (q.l.take i) rfl HH.out (by have := HL.out; simp; omega) (by have := HL.out; simp; omega) (Nat.le_refl _) ?_
         intro v1 w1 ho1 hg1
         have hb1 := (Below.refl w0.heap.size w0).grown hg1 (Nat.le_refl _) (fun j hj => by cases hj)
         have c11 := (HQ.out w1 hb1).c1
         rw [List.nil_append] at ho1)
      | (at_builtin
         refine wpList_appendG (pairC .u64) _ rfl (.tmp 37) (.tmp 44) 27 rfl w0.heap.size 68 (.agg #[.int .u64 0, .int .u64 0]) 16 Try.underlying27 infoMs rfl _ (q.l.take i) rfl ho1 g _ (q.l.drop i1) rfl (HT.out w1 hb1 _ _ (by intro h; first | exact absurd rfl h | (simp [add_plain']; done) | (rw [if_neg h]; simp [add_plain']; done) | exact absurd (by assumption) h) (by have := HL.out; omega) (by have := HL.out; omega)) (by have := HL.out; simp; omega) (by have := HL.out; simp; omega) hb1.size ?_
         intro v2 w2 ho2 hg2
         have hb2 := hb1.grown hg2 hb1.size (fun j hj => (ho1.block j hj).1)
         obtain ⟨A2, c2, hv2, _, _⟩ := ho2.form
         obtain ⟨n2, hn2⟩ : ∃ n, n = (q.l.take i ++ q.l.drop i1).length := ⟨_, rfl⟩
         rw [← hn2] at hv2
         subst hv2
         have HFIN := LeftQ.newrow H1.out (MovedQ.of_below hb2) (HQ.out w2 hb2) hn2 ho2
         rw [HCX.out, ← HF.out] at HFIN
         have HFIN := Lib.hid HFIN
         have c12 := (HQ.out w2 hb2).c1
         have f12 := (HQ.out w2 hb2).fr 1
         clear hn2))
    all_goals
      go_ret
      exact ⟨rfl, HFIN.out⟩
end

end Go.Proofs.Ytkcbkimconaegaa
