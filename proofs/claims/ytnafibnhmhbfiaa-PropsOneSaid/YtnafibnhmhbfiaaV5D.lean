/-
  The contract of the document's own Same for values, the whole.
  Conditions: none but sizes.
-/
import Derived.Test.YtnafibnhmhbfiaaV5C
namespace Go.Proofs.Ytnafibnhmhbfiaa
open Go.RowKit
set_option linter.unusedVariables false
set_option linter.unusedSimpArgs false

theorem cell_kept {w w' : World} {B d k : Nat} {v : Value} (h : w.cell? ⟨d, k, none⟩ = some v) (hb : Below B w w') (hB : w.heap.size ≤ B) (hd : d < w.heap.size) : w'.cell? ⟨d, k, none⟩ = some v :=
  (World.cell?_of_block (w := w) (hb.block d (Nat.lt_of_lt_of_le hd hB))).trans h

set_option maxRecDepth 100000 in
set_option maxHeartbeats 8000000 in
theorem qsame_main (N : Nat) : ∀ (a b : Tree) (va vb : List Value) (w : World), cntT a = N → ShowsT w a va → ShowsT w b vb →
    Calls Try.prog 22 #[.agg va.toArray, .agg vb.toArray] w fun e w' => e = .returned (.bool (sameT a b)) ∧ Below w.heap.size w w' := by
  induction N using Nat.strongRecOn with
  | ind N ih =>
    intro a b va vb w hN ha hb
    by_cases h0 : a.k = b.k
    case neg => rw [same_no1 (fun h => h0 h.1)]; exact qsame_no0 a b va vb w ha hb h0
    by_cases h1 : a.n = b.n
    case neg => rw [same_no1 (fun h => h1 h.2.1)]; exact qsame_no1 a b va vb w ha hb h0 h1
    by_cases h2 : a.s = b.s
    case neg => rw [same_no1 (fun h => h2 h.2.2.1)]; exact qsame_no2 a b va vb w ha hb h0 h1 h2
    by_cases h3 : a.ks.length = b.ks.length
    case neg => rw [same_no1 (fun h => h3 (by rw [h.2.2.2]))]; exact qsame_no3 a b va vb w ha hb h0 h1 h2 h3
    by_cases h4 : a.l.length = b.l.length
    case neg => rw [same_no2 (fun h => h4 h.1)]; exact qsame_no4 a b va vb w ha hb h0 h1 h2 h3 h4
    have IH := Lib.hid (fun j (hj : j < a.l.length) b' va vb w' (ha' : ShowsT w' (a.l[j]'hj) va) (hb' : ShowsT w' b' vb) => ih (cntT (a.l[j]'hj)) (by rw [← hN]; exact cnt_child a j hj) (a.l[j]'hj) b' va vb w' rfl ha' hb')
    have NO1 := Lib.hid (fun h : ¬ a.ks = b.ks => same_no1 (a := a) (b := b) (fun hh => h hh.2.2.2))
    have NO2 := Lib.hid (fun j (hj : j < a.l.length) (hj' : j < b.l.length) (h : sameT (a.l[j]'hj) (b.l[j]'hj') = false) => same_no2 (a := a) (b := b) (fun hh => by rw [hh.2 j hj hj'] at h; cases h))
    have YES := Lib.hid (fun hk h6 => v_same_yes (a := a) (b := b) h0 h1 h2 hk h4 h6)
    clear ih hN
    have hsa := ha
    have hsb := hb
    obtain ⟨kv, A, c, d0, d1, cs, rfl, _, _, hks, hkl, _, _, hln, _⟩ := ha.open
    obtain ⟨kv', A', c', d0', d1', cs', rfl, _, _, hks', hkl', _, _, hln', _⟩ := hb.open
    obtain ⟨Ak, ck, rfl⟩ := str_form hks
    obtain ⟨Ak', ck', rfl⟩ := str_form hks'
    have r0 : ((a.k : Int) != (b.k : Int)) = false := by simp; omega
    have r1 : ((a.n : Int) != (b.n : Int)) = false := by simp; omega
    have r2 : (a.s.toList != b.s.toList) = false := by rw [h2]; simp
    have r3 : ((a.ks.length : Int) != (b.ks.length : Int)) = false := by simp; omega
    have r4 : ((a.l.length : Int) != (b.l.length : Int)) = false := by simp; omega
    have t0 : ((a.k : Int) == (b.k : Int)) = true := by simp; omega
    have t1 : ((a.n : Int) == (b.n : Int)) = true := by simp; omega
    have t2 : (a.s.toList == b.s.toList) = true := by rw [h2]; simp
    have t3 : ((a.ks.length : Int) == (b.ks.length : Int)) = true := by simp; omega
    have t4 : ((a.l.length : Int) == (b.l.length : Int)) = true := by simp; omega
    have H3 := Lib.hid h3
    have H4 := Lib.hid h4
    clear h0 h1 h2 h3 h4 ha hb
    go_enter Try.func22, Try.ntmps22
    go_wp2_with fail
    clear r0 r1 r2 r3 r4 t0 t1 t2 t3 t4
    go_loopw [5] (fun i wr => ∃ j : Nat, j ≤ a.ks.length ∧ i = .int .i64 j ∧ Pair5 w (.int .u8 a.k) (.int .u64 a.n) (.string a.s) (.slice Ak a.ks.length ck) (.slice A a.l.length c) (.int .u8 b.k) (.int .u64 b.n) (.string b.s) (.slice Ak' b.ks.length ck') (.slice A' b.l.length c') wr ∧ a.ks.take j = b.ks.take j) (fun i _ => a.ks.length - (intOf i).toNat)
    case atStart => exact ⟨0, by omega, rfl, Pair5.start w, rfl⟩
    case round =>
      obtain ⟨j, hj, rfl, hP, hsame⟩ := hrel
      rename World => wj
      have x3 := hP.a.c3
      have y3 := hP.b.c3
      by_cases hlt : j < a.ks.length
      · have hlt' : j < b.ks.length := by have := H3.out; omega
        obtain ⟨o, c2, e, e0⟩ := str_cell (hks.below' hP.bel (Nat.le_refl _)) j hlt
        cases e
        obtain ⟨o', c2', e, e1⟩ := str_cell (hks'.below' hP.bel (Nat.le_refl _)) j hlt'
        cases e
        have hjl : (j : Int) < (a.ks.length : Int) := by omega
        have hjl' : (j : Int) < (b.ks.length : Int) := by omega
        by_cases heq : a.ks[j] = b.ks[j]
        · have HS : Hid (a.ks.take (j + 1) = b.ks.take (j + 1)) := by
            show a.ks.take (j + 1) = b.ks.take (j + 1)
            rw [List.take_succ_eq_append_getElem hlt, List.take_succ_eq_append_getElem hlt', hsame, heq]
          have hd : (a.ks[j].toList == b.ks[j].toList) = true := by rw [heq]; simp
          generalize a.ks[j] = p at *
          generalize b.ks[j] = p' at *
          have HP' := Lib.hid (fun q => hP.drewN q)
          clear hsame heq
          go_wp2_with fail
          go_quiet (fail)
          go_wp2_with fail
          go_roundw
          case rel => exact ⟨j + 1, by omega, by go_num, HP'.out nq, HS.out⟩
          case measure => simp [intOf]; omega
        · have hfin := NO1.out (fun e => heq (by
            have := congrArg (fun z => z[j]?) e
            simpa [List.getElem?_eq_getElem hlt, List.getElem?_eq_getElem hlt'] using this))
          have hd := toListNe heq
          generalize a.ks[j] = p at *
          generalize b.ks[j] = p' at *
          have HF := Lib.hid hfin
          have HP := Lib.hid (fun q => (hP.drewN q).bel)
          clear hsame heq hfin
          go_wp2_with fail
          go_quiet (fail)
          go_wp2_with fail
          go_ret
          exact ⟨by rw [HF.out]; rfl, HP.out nq⟩
      · have hjl : ¬ (j : Int) < (a.ks.length : Int) := by omega
        have hkeys : a.ks = b.ks := by
          rw [List.take_of_length_le (by omega), List.take_of_length_le (by have := H3.out; omega)] at hsame
          exact hsame
        have HK := Lib.hid hkeys
        clear hsame hkeys
        go_wp2_with fail
        go_loopw [6] (fun i wr => ∃ q : Nat, q ≤ a.l.length ∧ i = .int .i64 q ∧ Pair5 w (.int .u8 a.k) (.int .u64 a.n) (.string a.s) (.slice Ak a.ks.length ck) (.slice A a.l.length c) (.int .u8 b.k) (.int .u64 b.n) (.string b.s) (.slice Ak' b.ks.length ck') (.slice A' b.l.length c') wr ∧ ∀ p (h : p < a.l.length) (h' : p < b.l.length), p < q → sameT a.l[p] b.l[p] = true) (fun i _ => a.l.length - (intOf i).toNat)
        case atStart => exact ⟨0, by omega, rfl, hP, fun p _ _ h => absurd h (by omega)⟩
        case round =>
          clear hP x3 y3
          obtain ⟨q, hq, rfl, hP, hlo⟩ := hrel
          rename World => wq
          have x4 := hP.a.c4
          have y4 := hP.b.c4
          by_cases hlt : q < a.l.length
          · have hlt' : q < b.l.length := by have := H4.out; omega
            obtain ⟨d, o, v0, v1, v2, v3, v4, rfl, hd, hch, e0, e1, e2, e3, e4⟩ := hsa.child q hlt
            obtain ⟨d', o', u0, u1, u2, u3, u4, rfl, hd', hch', f0, f1, f2, f3, f4⟩ := hsb.child q hlt'
            have hjl : (q : Int) < (a.l.length : Int) := by omega
            have hjl' : (q : Int) < (b.l.length : Int) := by omega
            have CEL := Lib.hid (fun w' (h : Pair5 w (.int .u8 a.k) (.int .u64 a.n) (.string a.s) (.slice Ak a.ks.length ck) (.slice (some ⟨d, o, none⟩) a.l.length c) (.int .u8 b.k) (.int .u64 b.n) (.string b.s) (.slice Ak' b.ks.length ck') (.slice (some ⟨d', o', none⟩) b.l.length c') w') =>
              And.intro (And.intro h.a.c4 h.b.c4) (And.intro (And.intro (cell_kept e0 h.bel (Nat.le_refl _) hd) (And.intro (cell_kept e1 h.bel (Nat.le_refl _) hd) (And.intro (cell_kept e2 h.bel (Nat.le_refl _) hd) (And.intro (cell_kept e3 h.bel (Nat.le_refl _) hd) (cell_kept e4 h.bel (Nat.le_refl _) hd)))))
                (And.intro (cell_kept f0 h.bel (Nat.le_refl _) hd') (And.intro (cell_kept f1 h.bel (Nat.le_refl _) hd') (And.intro (cell_kept f2 h.bel (Nat.le_refl _) hd') (And.intro (cell_kept f3 h.bel (Nat.le_refl _) hd') (cell_kept f4 h.bel (Nat.le_refl _) hd')))))))
            have hc := fun w' (h : Pair5 w (.int .u8 a.k) (.int .u64 a.n) (.string a.s) (.slice Ak a.ks.length ck) (.slice (some ⟨d, o, none⟩) a.l.length c) (.int .u8 b.k) (.int .u64 b.n) (.string b.s) (.slice Ak' b.ks.length ck') (.slice (some ⟨d', o', none⟩) b.l.length c') w') =>
              (IH.out q hlt (b.l[q]'hlt') _ _ w' (hch.kept h.bel (Nat.le_refl _)) (hch'.kept h.bel (Nat.le_refl _))).mono fun e w'' ⟨he, hb⟩ => And.intro he (h.step hb)
            have hPd := hP.drew
            clear e0 e1 e2 e3 e4 f0 f1 f2 f3 f4
            cases hst : sameT (a.l[q]'hlt) (b.l[q]'hlt') with
            | false =>
              rw [hst] at hc
              have HC := Lib.hid hc
              have HF := Lib.hid (NO2.out q hlt hlt' hst)
              clear hc hlo hst
              go_wp2_with fail
              go_region_held3 (fun w' => (w'.cell? ⟨w.heap.size, 4, none⟩ = some (.slice (some ⟨d, o, none⟩) a.l.length c) ∧ w'.cell? ⟨w.heap.size + 1, 4, none⟩ = some (.slice (some ⟨d', o', none⟩) b.l.length c')) ∧
                  (w'.cell? ⟨d, o + q * 5, none⟩ = some v0 ∧ w'.cell? ⟨d, o + q * 5 + 1, none⟩ = some v1 ∧ w'.cell? ⟨d, o + q * 5 + 2, none⟩ = some v2 ∧ w'.cell? ⟨d, o + q * 5 + 3, none⟩ = some v3 ∧ w'.cell? ⟨d, o + q * 5 + 4, none⟩ = some v4) ∧
                  w'.cell? ⟨d', o' + q * 5, none⟩ = some u0 ∧ w'.cell? ⟨d', o' + q * 5 + 1, none⟩ = some u1 ∧ w'.cell? ⟨d', o' + q * 5 + 2, none⟩ = some u2 ∧ w'.cell? ⟨d', o' + q * 5 + 3, none⟩ = some u3 ∧ w'.cell? ⟨d', o' + q * 5 + 4, none⟩ = some u4) (exact CEL.out _ (by assumption))
                (first
                  | (go_at_call 22; refine (HC.out _ (by assumption)).mono ?_; rintro e wx ⟨rfl, hx⟩))
              rename_i K hK hh
              refine hK _ _ ?_
              clear hK hh
              go_wp2_with fail
              go_ret
              exact ⟨by rw [HF.out]; rfl, hx.bel⟩
            | true =>
              rw [hst] at hc
              have HC := Lib.hid hc
              have HLO : Hid (∀ p (h : p < a.l.length) (h' : p < b.l.length), p < q + 1 → sameT a.l[p] b.l[p] = true) := by
                show ∀ p (h : p < a.l.length) (h' : p < b.l.length), p < q + 1 → sameT a.l[p] b.l[p] = true
                intro p hp hp' hpq
                by_cases hp2 : p < q
                · exact hlo p hp hp' hp2
                · obtain rfl : p = q := by omega
                  exact hst
              clear hc hlo hst
              go_wp2_with fail
              go_region_held3 (fun w' => (w'.cell? ⟨w.heap.size, 4, none⟩ = some (.slice (some ⟨d, o, none⟩) a.l.length c) ∧ w'.cell? ⟨w.heap.size + 1, 4, none⟩ = some (.slice (some ⟨d', o', none⟩) b.l.length c')) ∧
                  (w'.cell? ⟨d, o + q * 5, none⟩ = some v0 ∧ w'.cell? ⟨d, o + q * 5 + 1, none⟩ = some v1 ∧ w'.cell? ⟨d, o + q * 5 + 2, none⟩ = some v2 ∧ w'.cell? ⟨d, o + q * 5 + 3, none⟩ = some v3 ∧ w'.cell? ⟨d, o + q * 5 + 4, none⟩ = some v4) ∧
                  w'.cell? ⟨d', o' + q * 5, none⟩ = some u0 ∧ w'.cell? ⟨d', o' + q * 5 + 1, none⟩ = some u1 ∧ w'.cell? ⟨d', o' + q * 5 + 2, none⟩ = some u2 ∧ w'.cell? ⟨d', o' + q * 5 + 3, none⟩ = some u3 ∧ w'.cell? ⟨d', o' + q * 5 + 4, none⟩ = some u4) (exact CEL.out _ (by assumption))
                (first
                  | (go_at_call 22; refine (HC.out _ (by assumption)).mono ?_; rintro e wx ⟨rfl, hx⟩))
              rename_i K hK hh
              refine hK _ _ ?_
              clear hK hh
              go_wp2_with fail
              go_roundw
              case rel => exact ⟨q + 1, by omega, by go_num, hx, HLO.out⟩
              case measure => simp [intOf]; omega
          · have hjl : ¬ (q : Int) < (a.l.length : Int) := by omega
            have HF := Lib.hid (YES.out HK.out (fun p h h' => hlo p h h' (by omega)))
            clear hlo
            go_wp2_with fail
            go_ret
            exact ⟨by rw [HF.out]; rfl, hP.bel⟩

end Go.Proofs.Ytnafibnhmhbfiaa
