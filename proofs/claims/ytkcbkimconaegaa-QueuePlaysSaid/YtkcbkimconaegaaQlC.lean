/-
  The law's tells: both queues answer the same.
  Conditions: none but sizes.
-/
import Derived.Test.YtkcbkimconaegaaQlD
import Derived.Test.YtkcbkimconaegaaQsO
namespace Go.Proofs.Ytkcbkimconaegaa
open Go.RowKit
set_option linter.unusedVariables false
set_option linter.unusedSimpArgs false
set_option maxRecDepth 100000

set_option maxHeartbeats 8000000 in
theorem tells_any {w0 w : World} {pb qb : Nat} {q : QP} {X : Nat → Prop} (h : Duo w0 pb qb q q X w) (hn : q.l.length ≤ 1000000) :
    Calls Try.prog 9 #[.pointer (some ⟨pb, 0, none⟩), .pointer (some ⟨qb, 0, none⟩)] w fun e w' => e = .returned (.bool true) ∧ Below w.heap.size w w' := by
  have hok := h.okq
  obtain ⟨F, G, h1, h2, _, _⟩ := h.two
  have HPW := Lib.hid (fun w' (hb : Below w.heap.size w w') => h1.keep fun k hk => hb.block k (h1.foot k hk).2)
  have HQW := Lib.hid (fun w' (hb : Below w.heap.size w w') => QW.below h2 hb)
  have HAL := Lib.hid (fun w' (hb : Below w.heap.size w w') => pall_any (HPW.out w' hb) hok hn)
  have HQA := Lib.hid (fun w' (hb : Below w.heap.size w w') => qall_any (HQW.out w' hb) hn)
  have HRE := Lib.hid (fun w' (hb : Below w.heap.size w w') => pready_any (HPW.out w' hb) hok hn)
  have HQO := Lib.hid (fun ow w' (hb : Below w.heap.size w w') => qof_any (HQW.out w' hb) hn ow)
  have HQ0 : Hid (∀ w', Below w.heap.size w w' → Calls Try.prog 39 #[.pointer (some ⟨qb, 0, none⟩), .int .u64 0] w' (NumsQ w' (ofQ 0 q.l))) := Lib.hid (fun w' hb => HQO.out 0 w' hb)
  have HKE := Lib.hid (fun w' (hb : Below w.heap.size w w') => pkept_any (HPW.out w' hb) hok)
  have HRO := Lib.hid (fun w' (hb : Below w.heap.size w w') => proom_any (HPW.out w' hb) hok)
  have HQR := Lib.hid (fun w' (hb : Below w.heap.size w w') => qroom_any (HQW.out w' hb) hok)
  have HPO := Lib.hid (fun ow (ho : ow < 18446744073709551616) w' (hb : Below w.heap.size w w') => pof_any (HPW.out w' hb) hok hn ow ho)
  have HP0 : Hid (∀ w', Below w.heap.size w w' → Calls Try.prog 19 #[.pointer (some ⟨pb, 0, none⟩), .int .u64 0] w' (NumsQ w' [])) := Lib.hid (fun w' hb => HPO.out 0 (by decide) w' hb)
  have HOW := Lib.hid (fun (i : Nat) (hi : i < q.l.length) w' (hb : Below w.heap.size w w') => by
    have := powner_any (HPW.out w' hb) hok hn q.l[i].1 (hok.ms _ (List.getElem_mem hi)).1
    rw [owner_at hok hi] at this
    exact this)
  obtain ⟨A, c, hQI, hG⟩ := h2
  have HQI := Lib.hid (fun w' (hb : Below w.heap.size w w') => hQI.below hb)
  have HSM := Lib.hid (fun A1 A2 n1 n2 (l : List Nat) (hl : l.length ≤ 1000000) w' d1 d2 (s1 : ShowsG (natC .u64) w' d1 (.slice A1 l.length n1) l) (s2 : ShowsG (natC .u64) w' d2 (.slice A2 l.length n2) l) => by
    have := qsameN_any A1 A2 n1 n2 d1 d2 l l w' s1 s2 hl hl
    rw [decide_eq_true rfl] at this
    exact this)
  have HLA := Lib.hid (show (allQ q.l).length ≤ 1000000 ∧ (ofQ 0 q.l).length ≤ 1000000 from ⟨by simpa [allQ] using hn, Nat.le_trans (ofQ_len _ _) hn⟩)
  have HLO := Lib.hid (fun ow => Nat.le_trans (ofQ_len ow q.l) hn)
  have HMS := Lib.hid hok.ms
  unfold NumsQ at HAL HQA HQ0 HP0 HQO HPO
  have hb0 := Below.refl w.heap.size w
  have hbd := below_drew1 hb0
  have hc2 := Lib.hid (fun w' (hb : Below w.heap.size w w') => (HQI.out w' hb).c2)
  clear h h1 hQI hG hok
  go_enter Try.func9, Try.ntmps9
  go_upto_region 1 with fail
  go_region_held3 (fun w' => w'.cell? ⟨qb, 2, none⟩ = some (.int .i64 q.kept)) (first | with_reducible exact hc2.out _ hB9 | with_reducible exact hc2.out _ hB8 | with_reducible exact hc2.out _ hB7 | with_reducible exact hc2.out _ hB6 | with_reducible exact hc2.out _ hB5 | with_reducible exact hc2.out _ hB4 | with_reducible exact hc2.out _ hB3 | with_reducible exact hc2.out _ hB2 | with_reducible exact hc2.out _ hB1 | with_reducible exact hc2.out _ (by assumption))
    (first
      | (go_at_call 17
         with_reducible refine (HAL.out _ (by assumption)).mono ?_
         rintro e1 w1 ⟨v1, rfl, ho1, hb1⟩
         have hB1 : Below w.heap.size w w1 := by first | exact hb1 | exact hbd.trans (hb1.mono hbd.size)
         have hz1 := hB1.size
         obtain ⟨A1, n1, rfl, _, _⟩ := ho1.form)
      | (go_at_call 38
         with_reducible refine (HQA.out _ hB1).mono ?_
         rintro e2 w2 ⟨v2, rfl, ho2, hb2⟩
         have hB2 : Below w.heap.size w w2 := hB1.trans (hb2.mono hz1)
         have hz2 := hB2.size
         obtain ⟨A2, n2, rfl, _, _⟩ := ho2.form
         obtain ⟨d1, _, hs1⟩ := (ho1.below hb2 (Nat.le_refl _)).shows
         obtain ⟨d2, _, hs2⟩ := ho2.shows)
      | (go_at_call 18
         with_reducible refine (HSM.out A1 A2 n1 n2 _ HLA.out.1 _ d1 d2 hs1 hs2).mono ?_
         rintro e3 w3 ⟨rfl, hb3⟩
         have hB3 : Below w.heap.size w w3 := hB2.trans (hb3.mono hz2)
         have hz3 := hB3.size)
      | (go_at_call 15
         with_reducible refine (HRE.out _ hB3).mono ?_
         rintro e4 w4 ⟨rfl, hb4⟩
         have hB4 : Below w.heap.size w w4 := hB3.trans (hb4.mono hz3)
         have hz4 := hB4.size)
      | (go_at_call 39
         with_reducible refine (HQ0.out _ hB4).mono ?_
         rintro e5 w5 ⟨v5, rfl, ho5, hb5⟩
         have hB5 : Below w.heap.size w w5 := hB4.trans (hb5.mono hz4)
         have hz5 := hB5.size
         obtain ⟨A5, n5, rfl, _, _⟩ := ho5.form)
      | (go_at_call 27
         with_reducible refine (HKE.out _ hB5).mono ?_
         rintro e6 w6 ⟨rfl, hb6⟩
         have hB6 : Below w.heap.size w w6 := hB5.trans (hb6.mono hz5)
         have hz6 := hB6.size)
      | (go_at_call 28
         with_reducible refine (HRO.out _ hB6).mono ?_
         rintro e7 w7 ⟨rfl, hb7⟩
         have hB7 : Below w.heap.size w w7 := hB6.trans (hb7.mono hz6)
         have hz7 := hB7.size)
      | (go_at_call 40
         with_reducible refine (HQR.out _ hB7).mono ?_
         rintro e8 w8 ⟨rfl, hb8⟩
         have hB8 : Below w.heap.size w w8 := hB7.trans (hb8.mono hz7)
         have hz8 := hB8.size)
      | (go_at_call 19
         with_reducible refine (HP0.out _ hB8).mono ?_
         rintro e9 w9 ⟨v9, rfl, ho9, hb9⟩
         have hB9 : Below w.heap.size w w9 := hB8.trans (hb9.mono hz8)
         obtain ⟨A9, n9, rfl, _, _⟩ := ho9.form))
  all_goals
    clear HAL HQA HRE HQ0 HKE HRO HQR HP0
    go_wp2_with fail
    go_loopw [5] (fun iv wr => ∃ j : Nat, j ≤ q.l.length ∧ iv = .int .i64 j ∧ Below w.heap.size w wr) (fun iv _ => q.l.length - (intOf iv).toNat)
    case atStart => exact ⟨0, Nat.zero_le _, rfl, hB9⟩
    case round =>
      obtain ⟨j, hj, rfl, hb⟩ := hrel
      rename World => wr
      have c1 := (HQI.out wr hb).c1
      have hsz := hb.size
      by_cases hlt : j < q.l.length
      · obtain ⟨b, rfl, _, k0, k1, _⟩ := (HQI.out wr hb).at_ hlt
        have b1 : (j : Int) < (q.l.length : Int) := Int.ofNat_lt.2 hlt
        have b3 : IntKind.i64.wrap ((j : Int) + 1) = (j : Int) + 1 := (succ_wraps rfl (by omega)).1
        have HOJ := Lib.hid (HOW.out j hlt wr hb)
        have HPJ := Lib.hid (HPO.out q.l[j].2 (HMS.out _ (List.getElem_mem hlt)).2)
        have HQJ := Lib.hid (HQO.out q.l[j].2)
        have HLJ := Lib.hid (HLO.out q.l[j].2)
        have HKJ := Lib.hid (fun w' (hb' : Below w.heap.size w w') => (show w'.cell? ⟨qb, 1, none⟩ = some (.slice (some ⟨b, 0, none⟩) q.l.length c) ∧ w'.cell? ⟨b, j * 2 + 1, none⟩ = some (.int .u64 (q.l[j].2 : Nat)) from by
          obtain ⟨b', e', _, _, g1, _⟩ := (HQI.out w' hb').at_ hlt
          cases e'
          exact ⟨(HQI.out w' hb').c1, g1⟩))
        generalize q.l[j].1 = y at *
        generalize q.l[j].2 = z at *
        go_wp2_with fail
        refine HOJ.out.mono ?_
        rintro e a1 ⟨rfl, ha1⟩
        have hA1 : Below w.heap.size w a1 := hb.trans (ha1.mono hsz)
        have hsz1 := hA1.size
        obtain ⟨c1', k1'⟩ := HKJ.out a1 hA1
        clear c1 k0 k1
        by_cases hz : z = 0
        · subst hz
          go_wp2_with fail
          go_roundw
          case rel => exact ⟨j + 1, by omega, by go_num, hA1⟩
          case measure => simp [intOf]; omega
        · have tz : (0 : Int) < (z : Int) := by omega
          have hof : ofP z q.l = ofQ z q.l := if_neg hz
          rw [hof] at HPJ
          clear hof hz
          go_wp2_with fail
          refine (HPJ.out a1 hA1).mono ?_
          rintro e a2 ⟨u2, rfl, g2, ha2⟩
          have hA2 : Below w.heap.size w a2 := hA1.trans (ha2.mono hsz1)
          have hsz2 := hA2.size
          obtain ⟨B2, m2, rfl, _, _⟩ := g2.form
          go_wp2_with fail
          refine (HQJ.out a2 hA2).mono ?_
          rintro e a3 ⟨u3, rfl, g3, ha3⟩
          have hA3 : Below w.heap.size w a3 := hA2.trans (ha3.mono hsz2)
          have hsz3 := hA3.size
          obtain ⟨B3, m3, rfl, _, _⟩ := g3.form
          obtain ⟨d2, _, s2⟩ := (g2.below ha3 (Nat.le_refl _)).shows
          obtain ⟨d3, _, s3⟩ := g3.shows
          have HSJ := Lib.hid (HSM.out B2 B3 m2 m3 _ HLJ.out _ d2 d3 s2 s3)
          go_wp2_with fail
          refine HSJ.out.mono ?_
          rintro e a4 ⟨rfl, ha4⟩
          have hA4 : Below w.heap.size w a4 := hA3.trans (ha4.mono hsz3)
          go_wp2_with fail
          go_roundw
          case rel => exact ⟨j + 1, by omega, by go_num, hA4⟩
          case measure => simp [intOf]; omega
      · have b1 : ¬ (j : Int) < (q.l.length : Int) := by omega
        go_wp2_with fail
        go_ret
        exact ⟨rfl, hb⟩

end Go.Proofs.Ytkcbkimconaegaa
