/-
  Sorting of numbers: the whole of it, by recursion.
  Conditions: none but sizes.
-/
import Derived.Test.YtkcbkimconaegaaQsK
namespace Go.Proofs.Ytkcbkimconaegaa
open Go.RowKit
open Go.Sort (swp insertionSort heapSort reverseRange partialInsertionSort partition partitionEqual PermIn SortedIn permIn_refl permIn_trans insertionSort_holds heapSort_holds reverseRange_holds partialInsertionSort_holds partition_holds partitionEqual_holds round_eq round_part)
set_option linter.unusedVariables false
set_option linter.unusedSimpArgs false
set_option maxRecDepth 100000

theorem eighth_wraps {a c : Nat} (hm : c = a / 8) (h : a ≤ 2000000) : Int.tdiv (a : Int) 8 = (c : Int) ∧ IntKind.i64.wrap (Int.tdiv (a : Int) 8) = (c : Int) ∧ wrap64 (Int.tdiv (a : Int) 8) = (c : Int) := by
  have e : Int.tdiv (a : Int) 8 = (c : Int) := by rw [Int.tdiv_eq_ediv_of_nonneg (by omega)]; omega
  rw [e]
  exact ⟨rfl, i64_id _ (by omega) (by omega), w64_id _ (by omega) (by omega)⟩
theorem below_perm {a b : Nat} {d d2 : Array Nat} (hB : Go.Sort.Below ltN a b d) (hb : b ≤ d.size) (h : PermIn a b d d2) : Go.Sort.Below ltN a b d2 := hB.perm hb h

set_option maxHeartbeats 16000000 in
theorem pdq_any {blk off N cap n : Nat} (hn : n ≤ 1000000) (m : Nat) : ∀ (a b lim : Nat) (d : Array Nat) (w : World), b - a = m → HoldU w blk off N d → d.size = n → a ≤ b → b ≤ n → lim ≤ 2000000 → Go.Sort.Below ltN a b d →
    Calls Try.prog 58 #[.slice (some ⟨blk, off, none⟩) n cap, .int .i64 a, .int .i64 b, .int .i64 lim] w fun e w' => e = .returned (.tuple #[]) ∧ ∃ d', PermIn a b d d' ∧ SortedIn ltN a b d' ∧ SrtW w blk off N d' w' := by
  induction m using Nat.strongRecOn with
  | _ m ih =>
  intro a b lim d w hm h hdn hab hb hlim hB
  have HIH := Lib.hid ih
  have H0 := Lib.hid (SrtW.refl h)
  have HDN := Lib.hid hdn
  have HN := Lib.hid hn
  have HG := Lib.hid (show ∀ R, PermIn a b d R → SortedIn ltN a b R → PermIn a b d R ∧ SortedIn ltN a b R from fun R h1 h2 => ⟨h1, h2⟩)
  have HB := Lib.hid hB
  have HAB := Lib.hid (show a ≤ b ∧ b - a ≤ m ∧ b ≤ n ∧ lim ≤ 2000000 from ⟨hab, Nat.le_of_eq hm, hb, hlim⟩)
  clear ih h hdn hm hab hb hlim hB hn
  go_enter Try.func58, Try.ntmps58
  go_wp2_with fail
  go_loopw [1, 2, 3, 8, 9] (fun s1 s2 s3 s8 s9 wr => ∃ (a1 b1 lm : Nat) (wb wp : Bool) (d1 : Array Nat), s1 = .int .i64 a1 ∧ s2 = .int .i64 b1 ∧ s3 = .int .i64 lm ∧ s8 = .bool wb ∧ s9 = .bool wp ∧ Hid (a1 ≤ b1 ∧ b1 - a1 ≤ m ∧ b1 ≤ n ∧ lm ≤ 2000000) ∧ Hid (SrtW w blk off N d1 wr) ∧ Hid (d1.size = n) ∧ Hid (Go.Sort.Below ltN a1 b1 d1) ∧ Hid (∀ R, PermIn a1 b1 d1 R → SortedIn ltN a1 b1 R → PermIn a b d R ∧ SortedIn ltN a b R)) (fun s1 s2 _ _ _ _ => (intOf s2).toNat - (intOf s1).toNat)
  case atStart => exact ⟨a, b, lim, true, true, d, rfl, rfl, rfl, rfl, rfl, HAB, H0, HDN, HB, HG⟩
  case round =>
    rename World => wr
    obtain ⟨a1, b1, lm, wb, wp, d1, rfl, rfl, rfl, rfl, rfl, HR, HS, HN1, HB1, HG1⟩ := hrel
    have hR := HR.out
    obtain ⟨l, hl⟩ : ∃ l, b1 = a1 + l := ⟨b1 - a1, by omega⟩
    have HL := Lib.hid hl
    by_cases c12 : l ≤ 12
    · have c12I : (l : Int) ≤ 12 := Int.ofNat_le.2 c12
      obtain ⟨v1, v2⟩ := sub_wraps hl (le2 hR.2.2.1 HN.out)
      clear hR hl
      go_wp2_with fail
      refine (ins_any HS.out.hold HN1.out HR.out.1 HR.out.2.2.1 HN.out).mono ?_
      rintro e w2 ⟨rfl, HS2⟩
      have HS3 := Lib.hid HS2
      clear HS2 v1 v2
      go_wp2_with fail
      first | go_end0 | refine bodyPost_ret (results_none rfl _ _ _) rfl ?_
      obtain ⟨p1, p2⟩ := insertionSort_holds swoN d1 a1 b1 HR.out.1 (by rw [HN1.out]; exact HR.out.2.2.1)
      obtain ⟨p3, p4⟩ := HG1.out _ p1 p2
      exact ⟨rfl, _, p3, p4, HS.out.trans HS3.out⟩
    · have c12I : ¬ (l : Int) ≤ 12 := fun e => c12 (Int.ofNat_le.1 e)
      have h13 : a1 + 12 < b1 := by omega
      have H13 := Lib.hid h13
      by_cases c0 : lm = 0
      · subst c0
        obtain ⟨v1, v2⟩ := sub_wraps hl (le2 hR.2.2.1 HN.out)
        clear hR hl c12 h13
        go_wp2_with fail
        refine (heap_any HS.out.hold HN1.out (Nat.lt_of_le_of_lt (Nat.le_add_right _ _) H13.out) HR.out.2.2.1 HN.out).mono ?_
        rintro e w2 ⟨rfl, HS2⟩
        have HS3 := Lib.hid HS2
        clear HS2 v1 v2
        go_wp2_with fail
        first | go_end0 | refine bodyPost_ret (results_none rfl _ _ _) rfl ?_
        obtain ⟨p1, p2⟩ := heapSort_holds swoN d1 a1 b1 HR.out.1 (by rw [HN1.out]; exact HR.out.2.2.1)
        obtain ⟨p3, p4⟩ := HG1.out _ p1 p2
        exact ⟨rfl, _, p3, p4, HS.out.trans HS3.out⟩
      · have c0I : ¬ (lm : Int) = 0 := fun e => c0 (Int.ofNat_inj.1 e)
        obtain ⟨l1, hl1⟩ : ∃ l1, lm = l1 + 1 := ⟨lm - 1, by omega⟩
        have hl1b : l1 ≤ 2000000 := by omega
        have HLM := Lib.hid hl1b
        obtain ⟨v3, v4⟩ := pred_wraps hl1 hR.2.2.2
        obtain ⟨v1, v2⟩ := sub_wraps hl (le2 hR.2.2.1 HN.out)
        clear hR hl c12 h13 hl1 hl1b c0
        have hb0 : ((lm : Int) == 0) = false := by simpa using c0I
        obtain ⟨nb, hnb⟩ : ∃ nb, (!wb) = nb := ⟨_, rfl⟩
        go_upto_if 35 with fail
        clear v1 v2 c12I
        go_cut [3] from 36 to 41 (fun s wx => ∃ (lm2 : Nat) (d2 : Array Nat), s = .int .i64 lm2 ∧ Hid (lm2 ≤ 2000000) ∧ Hid (SrtW w blk off N d2 wx) ∧ Hid (PermIn a1 b1 d1 d2))
        case first =>
          cases nb with
          | true =>
            go_wp2_with fail
            refine (break_any HS.out.hold HN1.out H13.out HR.out.2.2.1 HN.out).mono ?_
            rintro e w2 ⟨rfl, d2, hp2, HS2⟩
            have HP2 := Lib.hid hp2
            have HS3 := Lib.hid HS2
            clear HS2 hp2
            go_wp2_with fail
            go_meet
            case rel => exact ⟨l1, d2, rfl, HLM, Lib.hid (HS.out.trans HS3.out), HP2⟩
          | false =>
            go_wp2_with fail
            go_meet
            case rel => exact ⟨lm, d1, rfl, Lib.hid HR.out.2.2.2, HS, Lib.hid (permIn_refl _ _ _)⟩
        case rest =>
          intros
          rename World => w1
          obtain ⟨lm2, d2, rfl, HL2, HS2, HP2⟩ := hcut
          have HN2 := Lib.hid (show d2.size = n from HP2.out.1.trans HN1.out)
          clear v3 v4 hnb hb0 c0I
          go_wp2_with fail
          refine (pivot_any HS2.out.hold HN2.out H13.out HR.out.2.2.1 HN.out).mono ?_
          rintro e w3 ⟨p, hint, rfl, q1, q2, q3, hb3⟩
          have HS3 := Lib.hid (HS2.out.below hb3)
          have HPV := Lib.hid (And.intro q1 q2)
          clear q1 q2 q3 hb3
          go_upto_if 50 with fail
          go_cut [11, 12] from 51 to 60 (fun s t wx => ∃ (p2 h2 : Nat) (d3 : Array Nat), s = .int .i64 p2 ∧ t = .int .i64 h2 ∧ Hid (a1 ≤ p2 ∧ p2 < b1) ∧ Hid (SrtW w blk off N d3 wx) ∧ Hid (PermIn a1 b1 d1 d3))
          case first =>
            by_cases h2 : hint = 2
            · subst h2
              have hPV := HPV.out
              have hR := HR.out
              obtain ⟨b2, hb2⟩ : ∃ b2, b1 = b2 + 1 := ⟨b1 - 1, by omega⟩
              obtain ⟨t, ht⟩ : ∃ t, p = a1 + t := ⟨p - a1, by omega⟩
              obtain ⟨p2, hp2⟩ : ∃ p2, b2 = t + p2 := ⟨b2 - t, by omega⟩
              have HPV2 := Lib.hid (show a1 ≤ p2 ∧ p2 < b1 by omega)
              have hpn : p ≤ n := by omega
              have hbn : b2 ≤ n := by omega
              obtain ⟨v1, v2⟩ := pred_wraps hb2 (le2 hR.2.2.1 HN.out)
              obtain ⟨v3, v4⟩ := sub_wraps ht (le2 hpn HN.out)
              obtain ⟨v5, v6⟩ := sub_wraps hp2 (le2 hbn HN.out)
              clear hb2 ht hp2 hpn hbn hPV hR
              go_wp2_with fail
              refine (reverse_any HS3.out.hold HN2.out (Nat.lt_of_le_of_lt (Nat.le_add_right _ _) H13.out) HR.out.2.2.1 HN.out).mono ?_
              rintro e w4 ⟨rfl, HS4⟩
              have HS5 := Lib.hid (HS3.out.trans HS4)
              have HP5 := Lib.hid (permIn_trans _ _ _ a1 b1 HP2.out (reverseRange_holds d2 a1 b1 HR.out.1 (by rw [HN2.out]; exact HR.out.2.2.1)))
              clear HS4
              go_wp2_with fail
              go_meet
              case rel => exact ⟨p2, 1, _, rfl, rfl, HPV2, HS5, HP5⟩
            · have h2I : ¬ (hint : Int) = 2 := fun e => h2 (Int.ofNat_inj.1 e)
              go_wp2_with fail
              go_meet
              case rel => exact ⟨p, hint, d2, rfl, rfl, HPV, HS3, HP2⟩
          case rest =>
            intros
            rename World => w4
            obtain ⟨p2, h2, d3, rfl, rfl, HPV3, HS4, HP3⟩ := hcut
            have HN3 := Lib.hid (show d3.size = n from HP3.out.1.trans HN1.out)
            have HB3 := Lib.hid (below_perm HB1.out (by rw [HN1.out]; exact HR.out.2.2.1) HP3.out)
            clear HP2 HS3 HS2 HS HPV HB1 HN2
            go_upto_region 15 with fail
            go_cut [68] from 61 to 68 (fun s wx => ∃ c : Bool, s = .bool c ∧ Hid (SrtW w blk off N d3 wx))
            case first =>
              by_cases h1 : h2 = 1
              · subst h1
                cases wb with
                | false =>
                  go_wp2_with fail
                  go_meet
                  case rel => exact ⟨_, rfl, HS4⟩
                | true =>
                  cases wp with
                  | false =>
                    go_wp2_with fail
                    go_meet
                    case rel => exact ⟨_, rfl, HS4⟩
                  | true =>
                    go_wp2_with fail
                    go_meet
                    case rel => exact ⟨_, rfl, HS4⟩
              · have h1I : ¬ (h2 : Int) = 1 := fun e => h1 (Int.ofNat_inj.1 e)
                cases wb with
                | false =>
                  go_wp2_with fail
                  go_meet
                  case rel => exact ⟨_, rfl, HS4⟩
                | true =>
                  cases wp with
                  | false =>
                    go_wp2_with fail
                    go_meet
                    case rel => exact ⟨_, rfl, HS4⟩
                  | true =>
                    go_wp2_with fail
                    go_meet
                    case rel => exact ⟨_, rfl, HS4⟩
            case rest =>
              intros
              rename World => w5
              obtain ⟨c, rfl, HS5⟩ := hcut
              clear HS4
              cases c with
              | false =>
                obtain ⟨d4, hd4⟩ : ∃ d4, d4 = d3 := ⟨_, rfl⟩
                rw [← hd4] at HS5 HN3 HB3 HP3
                have HS7 := HS5
                have HN7 := HN3
                have HB7 := HB3
                have HP7 := HP3
                clear HS5 HN3 HB3 HP3 hd4
                go_upto_region 17 with fail
                go_cut [87] from 73 to 87 (fun s wx => ∃ c : Bool, s = .bool c ∧ Hid (SrtW w blk off N d4 wx) ∧ Hid (c = true → 0 < a1 ∧ ltN d4[a1 - 1]! d4[p2]! = false))
                case first =>
                  by_cases h0 : a1 = 0
                  · subst h0
                    go_wp2_with fail
                    go_quiet (fail)
                    go_wp2_with fail
                    go_meet
                    case rel => exact ⟨false, rfl, Lib.hid (HS7.out.drewN _), Lib.hid (fun e => absurd e (by simp))⟩
                  · obtain ⟨a0, ha0⟩ : ∃ a0, a1 = a0 + 1 := ⟨a1 - 1, by omega⟩
                    have h0I : (0 : Int) < (a1 : Int) := by omega
                    have h0N : 0 < a1 := by omega
                    have hR := HR.out
                    have hPV := HPV3.out
                    have han : a0 < n := by omega
                    have hpn : p2 < n := by omega
                    obtain ⟨x, hx⟩ : ∃ x, x = d4[a0]! := ⟨_, rfl⟩
                    obtain ⟨y, hy⟩ : ∃ y, y = d4[p2]! := ⟨_, rfl⟩
                    have c_a := HS7.out.hold.cell (j := a0) (by rw [HN7.out]; exact han)
                    have c_p := HS7.out.hold.cell (j := p2) (by rw [HN7.out]; exact hpn)
                    rw [← hx] at c_a
                    rw [← hy] at c_p
                    obtain ⟨cc, hcc⟩ : ∃ cc, cc = ltN x y := ⟨_, rfl⟩
                    have HLC := Lib.hid (fun w' => less_any x y w')
                    rw [← hcc] at HLC
                    have HCC := Lib.hid (show 0 < a1 ∧ ltN d4[a1 - 1]! d4[p2]! = cc from ⟨by omega, by rw [hcc, hx, hy, ha0, Nat.add_sub_cancel]⟩)
                    obtain ⟨v1, v2⟩ := pred_wraps ha0 (le2 (Nat.le_trans hR.1 hR.2.2.1) HN.out)
                    clear hx hy hcc ha0 hR hPV h0
                    obtain ⟨nc, hnc⟩ : ∃ nc, (!cc) = nc := ⟨_, rfl⟩
                    have HNC := Lib.hid (show nc = true → cc = false from fun e => by rw [e] at hnc; simpa using hnc)
                    go_wp2_with fail
                    go_quiet ((go_at_call 68; with_reducible exact Calls.quiet_of_same (HLC.out _)))
                    go_wp2_with fail
                    go_meet
                    case rel => exact ⟨nc, by first | rfl | rw [hnc], Lib.hid (HS7.out.drewN _), Lib.hid (fun e => ⟨HCC.out.1, HCC.out.2.trans (HNC.out e)⟩)⟩
                case rest =>
                  intros
                  rename World => w7
                  obtain ⟨c2, rfl, HS8, HC8⟩ := hcut
                  clear HS7
                  cases c2 with
                  | true =>
                    obtain ⟨h0, hnl⟩ := HC8.out rfl
                    obtain ⟨⟨mid, d5⟩, hx⟩ : ∃ r, partitionEqual ltN d4 a1 b1 p2 = r := ⟨_, rfl⟩
                    obtain ⟨e1, e2, e3, e4, e5⟩ := round_eq swoN (partitionEqual_holds ltN) h0 HPV3.out.1 HPV3.out.2 (by rw [HN7.out]; exact HR.out.2.2.1) HB7.out hnl hx
                    have HPE := Lib.hid (parteq_any (cap := cap) HS8.out.hold HN7.out HPV3.out.1 HPV3.out.2 HR.out.2.2.1 HN.out)
                    rw [hx] at HPE
                    have HE := Lib.hid (And.intro e1 (And.intro e2 (And.intro e3 (And.intro e4 e5))))
                    clear h0 hnl hx e1 e2 e3 e4 e5
                    go_wp2_with fail
                    refine HPE.out.mono ?_
                    rintro e w8 ⟨rfl, HS9⟩
                    have HS10 := Lib.hid (HS8.out.trans HS9)
                    clear HS9
                    go_wp2_with fail
                    go_roundw
                    case rel => exact ⟨mid, b1, lm2, wb, wp, d5, rfl, rfl, rfl, rfl, rfl, Lib.hid (by have := HE.out.1; have := HE.out.2.1; have := HR.out; have := HL2.out; omega), HS10, Lib.hid (by rw [HE.out.2.2.1]; exact HN7.out), Lib.hid HE.out.2.2.2.1, Lib.hid (fun R h1 h2 => HG1.out R (permIn_trans _ _ _ a1 b1 HP7.out (HE.out.2.2.2.2 R h1 h2).1) (HE.out.2.2.2.2 R h1 h2).2)⟩
                    case measure => have := HE.out.1; have := HE.out.2.1; simp [intOf]; omega
                  | false =>
                    obtain ⟨⟨mid, ap, d5⟩, hx⟩ : ∃ r, partition ltN d4 a1 b1 p2 = r := ⟨_, rfl⟩
                    obtain ⟨e1, e2, e3, e4, e5, e6, e7⟩ := round_part swoN (partition_holds ltN) HPV3.out.1 HPV3.out.2 (by rw [HN7.out]; exact HR.out.2.2.1) HB7.out hx
                    have HPA := Lib.hid (part_any (cap := cap) HS8.out.hold HN7.out HPV3.out.1 HPV3.out.2 HR.out.2.2.1 HN.out)
                    rw [hx] at HPA
                    have HN5 := Lib.hid (show d5.size = n from by rw [e3]; exact HN7.out)
                    have hR := HR.out
                    have hl := HL.out
                    obtain ⟨L, hLL⟩ : ∃ L, mid = a1 + L := ⟨mid - a1, by omega⟩
                    obtain ⟨Q, hQQ⟩ : ∃ Q, b1 = mid + Q := ⟨b1 - mid, by omega⟩
                    obtain ⟨E, hEE⟩ : ∃ E, E = l / 8 := ⟨_, rfl⟩
                    obtain ⟨m1, hm1⟩ : ∃ m1, m1 = mid + 1 := ⟨_, rfl⟩
                    have hsz : mid ≤ n ∧ l ≤ n ∧ E ≤ n ∧ mid < n := by omega
                    obtain ⟨gl, hgl⟩ : ∃ g, decide (E ≤ L) = g := ⟨_, rfl⟩
                    obtain ⟨gq, hgq⟩ : ∃ g, decide (E ≤ Q) = g := ⟨_, rfl⟩
                    have hgl2 : decide ((E : Int) ≤ (L : Int)) = gl := by rw [← hgl]; simp
                    have hgq2 : decide ((E : Int) ≤ (Q : Int)) = gq := by rw [← hgq]; simp
                    have HMM := Lib.hid (show a1 ≤ mid ∧ mid < b1 ∧ m1 = mid + 1 ∧ m1 ≤ b1 ∧ b1 - a1 ≤ m ∧ b1 ≤ n ∧ mid ≤ n from ⟨e1, e2, hm1, by omega, hR.2.1, hR.2.2.1, by omega⟩)
                    have H45 := Lib.hid (And.intro e4 e5)
                    have HE6 := Lib.hid e6
                    have HE7 := Lib.hid e7
                    obtain ⟨v1, v2⟩ := sub_wraps hLL (le2 hsz.1 HN.out)
                    obtain ⟨v3, v4⟩ := sub_wraps hQQ (le2 hR.2.2.1 HN.out)
                    obtain ⟨v5, v6, v7⟩ := eighth_wraps hEE (le2 hsz.2.1 HN.out)
                    obtain ⟨v8, v9⟩ := id_wraps (le2 hsz.2.2.1 HN.out)
                    obtain ⟨v10, v11⟩ := next_wraps hm1 (by rw [hm1]; exact le3 hsz.2.2.2 HN.out)
                    clear hx e1 e2 e3 e4 e5 e6 e7 hR hl hLL hQQ hEE hm1 hsz
                    by_cases hlq : L < Q
                    · have hlqI : (L : Int) < (Q : Int) := Int.ofNat_lt.2 hlq
                      go_wp2_with fail
                      refine HPA.out.mono ?_
                      rintro e w8 ⟨rfl, HS9⟩
                      have HS10 := Lib.hid (HS8.out.trans HS9)
                      clear HS9
                      go_wp2_with fail
                      refine (HIH.out (mid - a1) (by have := HMM.out; clear v1 v2 v3 v4 v5 v6 v7 v8 v9 v10 v11; omega) a1 mid lm2 d5 w8 rfl HS10.out.hold HN5.out HMM.out.1 HMM.out.2.2.2.2.2.2 HL2.out H45.out.1).mono ?_
                      rintro e w9 ⟨rfl, d6, x1, x2, HS11⟩
                      have HS12 := Lib.hid (HS10.out.trans HS11)
                      have HX := Lib.hid (And.intro x1 (HE6.out d6 x1 x2))
                      clear HS11 x1 x2
                      go_wp2_with fail
                      clear v1 v2 v3 v4 v5 v6 v7 v8 v9 v10 v11
                      go_roundw
                      case rel => exact ⟨m1, b1, lm2, gl, ap, d6, rfl, rfl, rfl, by first | rfl | rw [hgl2] | rw [hgl], rfl, Lib.hid (by have := HMM.out; have := HL2.out; omega), HS12, Lib.hid (by rw [HX.out.1.1]; exact HN5.out), Lib.hid (by rw [HMM.out.2.2.1]; exact HX.out.2.1), Lib.hid (fun R h1 h2 => by rw [HMM.out.2.2.1] at h1 h2; exact HG1.out R (permIn_trans _ _ _ a1 b1 HP7.out (HX.out.2.2 R h1 h2).1) (HX.out.2.2 R h1 h2).2)⟩
                      case measure => have := HMM.out; simp [intOf]; omega
                    · have hlqI : ¬ (L : Int) < (Q : Int) := fun e => hlq (Int.ofNat_lt.1 e)
                      have hql : Q ≤ L := Nat.le_of_not_lt hlq
                      go_wp2_with fail
                      refine HPA.out.mono ?_
                      rintro e w8 ⟨rfl, HS9⟩
                      have HS10 := Lib.hid (HS8.out.trans HS9)
                      clear HS9
                      go_wp2_with fail
                      have HB5 := Lib.hid (show Go.Sort.Below ltN m1 b1 d5 from by rw [HMM.out.2.2.1]; exact H45.out.2)
                      refine (HIH.out (b1 - m1) (by have := HMM.out; clear v1 v2 v3 v4 v5 v6 v7 v8 v9 v10 v11; omega) m1 b1 lm2 d5 w8 rfl HS10.out.hold HN5.out HMM.out.2.2.2.1 HMM.out.2.2.2.2.2.1 HL2.out HB5.out).mono ?_
                      rintro e w9 ⟨rfl, d6, x1, x2, HS11⟩
                      have HS12 := Lib.hid (HS10.out.trans HS11)
                      rw [HMM.out.2.2.1] at x1 x2
                      have HX := Lib.hid (And.intro x1 (HE7.out d6 x1 x2))
                      clear HS11 x1 x2
                      go_wp2_with fail
                      clear v1 v2 v3 v4 v5 v6 v7 v8 v9 v10 v11
                      go_roundw
                      case rel => exact ⟨a1, mid, lm2, gq, ap, d6, rfl, rfl, rfl, by first | rfl | rw [hgq2] | rw [hgq], rfl, Lib.hid (by have := HMM.out; have := HL2.out; omega), HS12, Lib.hid (by rw [HX.out.1.1]; exact HN5.out), Lib.hid HX.out.2.1, Lib.hid (fun R h1 h2 => HG1.out R (permIn_trans _ _ _ a1 b1 HP7.out (HX.out.2.2 R h1 h2).1) (HX.out.2.2 R h1 h2).2)⟩
                      case measure => have := HMM.out; simp [intOf]; omega
              | true =>
                have HPI := Lib.hid (parti_any (cap := cap) HS5.out.hold HN3.out (Nat.lt_of_le_of_lt (Nat.le_add_right _ _) H13.out) HR.out.2.2.1 HN.out)
                have hpi := partialInsertionSort_holds swoN d3 a1 b1 (Nat.lt_of_le_of_lt (Nat.le_add_right _ _) H13.out) (by rw [HN3.out]; exact HR.out.2.2.1) HB3.out
                obtain ⟨⟨d4, fin⟩, hx⟩ : ∃ r, partialInsertionSort ltN d3 a1 b1 = r := ⟨_, rfl⟩
                rw [hx] at HPI hpi
                have HP7 := Lib.hid (permIn_trans _ _ _ a1 b1 HP3.out hpi.1)
                have HSO := Lib.hid hpi.2
                have HN7 := Lib.hid (show d4.size = n from hpi.1.1.trans HN3.out)
                have HB7 := Lib.hid (below_perm HB3.out (by rw [HN3.out]; exact HR.out.2.2.1) hpi.1)
                clear hx hpi HB3
                cases fin with
                | true =>
                  go_wp2_with fail
                  refine HPI.out.mono ?_
                  rintro e w6 ⟨rfl, HS6⟩
                  have HS7 := Lib.hid (HS5.out.trans HS6)
                  clear HS6
                  go_wp2_with fail
                  first | go_end0 | refine bodyPost_ret (results_none rfl _ _ _) rfl ?_
                  obtain ⟨p3, p4⟩ := HG1.out _ HP7.out (HSO.out (by first | rfl | trivial))
                  exact ⟨rfl, _, p3, p4, HS7.out⟩
                | false =>
                  go_wp2_with fail
                  refine HPI.out.mono ?_
                  rintro e w6 ⟨rfl, HS6⟩
                  have HS7 := Lib.hid (HS5.out.trans HS6)
                  clear HS6 HS5 HN3 HP3 HPI HSO
                  go_upto_region 17 with fail
                  go_cut [87] from 73 to 87 (fun s wx => ∃ c : Bool, s = .bool c ∧ Hid (SrtW w blk off N d4 wx) ∧ Hid (c = true → 0 < a1 ∧ ltN d4[a1 - 1]! d4[p2]! = false))
                  case first =>
                    by_cases h0 : a1 = 0
                    · subst h0
                      go_wp2_with fail
                      go_quiet (fail)
                      go_wp2_with fail
                      go_meet
                      case rel => exact ⟨false, rfl, Lib.hid (HS7.out.drewN _), Lib.hid (fun e => absurd e (by simp))⟩
                    · obtain ⟨a0, ha0⟩ : ∃ a0, a1 = a0 + 1 := ⟨a1 - 1, by omega⟩
                      have h0I : (0 : Int) < (a1 : Int) := by omega
                      have h0N : 0 < a1 := by omega
                      have hR := HR.out
                      have hPV := HPV3.out
                      have han : a0 < n := by omega
                      have hpn : p2 < n := by omega
                      obtain ⟨x, hx⟩ : ∃ x, x = d4[a0]! := ⟨_, rfl⟩
                      obtain ⟨y, hy⟩ : ∃ y, y = d4[p2]! := ⟨_, rfl⟩
                      have c_a := HS7.out.hold.cell (j := a0) (by rw [HN7.out]; exact han)
                      have c_p := HS7.out.hold.cell (j := p2) (by rw [HN7.out]; exact hpn)
                      rw [← hx] at c_a
                      rw [← hy] at c_p
                      obtain ⟨cc, hcc⟩ : ∃ cc, cc = ltN x y := ⟨_, rfl⟩
                      have HLC := Lib.hid (fun w' => less_any x y w')
                      rw [← hcc] at HLC
                      have HCC := Lib.hid (show 0 < a1 ∧ ltN d4[a1 - 1]! d4[p2]! = cc from ⟨by omega, by rw [hcc, hx, hy, ha0, Nat.add_sub_cancel]⟩)
                      obtain ⟨v1, v2⟩ := pred_wraps ha0 (le2 (Nat.le_trans hR.1 hR.2.2.1) HN.out)
                      clear hx hy hcc ha0 hR hPV h0
                      obtain ⟨nc, hnc⟩ : ∃ nc, (!cc) = nc := ⟨_, rfl⟩
                      have HNC := Lib.hid (show nc = true → cc = false from fun e => by rw [e] at hnc; simpa using hnc)
                      go_wp2_with fail
                      go_quiet ((go_at_call 68; with_reducible exact Calls.quiet_of_same (HLC.out _)))
                      go_wp2_with fail
                      go_meet
                      case rel => exact ⟨nc, by first | rfl | rw [hnc], Lib.hid (HS7.out.drewN _), Lib.hid (fun e => ⟨HCC.out.1, HCC.out.2.trans (HNC.out e)⟩)⟩
                  case rest =>
                    intros
                    rename World => w7
                    obtain ⟨c2, rfl, HS8, HC8⟩ := hcut
                    clear HS7
                    cases c2 with
                    | true =>
                      obtain ⟨h0, hnl⟩ := HC8.out rfl
                      obtain ⟨⟨mid, d5⟩, hx⟩ : ∃ r, partitionEqual ltN d4 a1 b1 p2 = r := ⟨_, rfl⟩
                      obtain ⟨e1, e2, e3, e4, e5⟩ := round_eq swoN (partitionEqual_holds ltN) h0 HPV3.out.1 HPV3.out.2 (by rw [HN7.out]; exact HR.out.2.2.1) HB7.out hnl hx
                      have HPE := Lib.hid (parteq_any (cap := cap) HS8.out.hold HN7.out HPV3.out.1 HPV3.out.2 HR.out.2.2.1 HN.out)
                      rw [hx] at HPE
                      have HE := Lib.hid (And.intro e1 (And.intro e2 (And.intro e3 (And.intro e4 e5))))
                      clear h0 hnl hx e1 e2 e3 e4 e5
                      go_wp2_with fail
                      refine HPE.out.mono ?_
                      rintro e w8 ⟨rfl, HS9⟩
                      have HS10 := Lib.hid (HS8.out.trans HS9)
                      clear HS9
                      go_wp2_with fail
                      go_roundw
                      case rel => exact ⟨mid, b1, lm2, wb, wp, d5, rfl, rfl, rfl, rfl, rfl, Lib.hid (by have := HE.out.1; have := HE.out.2.1; have := HR.out; have := HL2.out; omega), HS10, Lib.hid (by rw [HE.out.2.2.1]; exact HN7.out), Lib.hid HE.out.2.2.2.1, Lib.hid (fun R h1 h2 => HG1.out R (permIn_trans _ _ _ a1 b1 HP7.out (HE.out.2.2.2.2 R h1 h2).1) (HE.out.2.2.2.2 R h1 h2).2)⟩
                      case measure => have := HE.out.1; have := HE.out.2.1; simp [intOf]; omega
                    | false =>
                      obtain ⟨⟨mid, ap, d5⟩, hx⟩ : ∃ r, partition ltN d4 a1 b1 p2 = r := ⟨_, rfl⟩
                      obtain ⟨e1, e2, e3, e4, e5, e6, e7⟩ := round_part swoN (partition_holds ltN) HPV3.out.1 HPV3.out.2 (by rw [HN7.out]; exact HR.out.2.2.1) HB7.out hx
                      have HPA := Lib.hid (part_any (cap := cap) HS8.out.hold HN7.out HPV3.out.1 HPV3.out.2 HR.out.2.2.1 HN.out)
                      rw [hx] at HPA
                      have HN5 := Lib.hid (show d5.size = n from by rw [e3]; exact HN7.out)
                      have hR := HR.out
                      have hl := HL.out
                      obtain ⟨L, hLL⟩ : ∃ L, mid = a1 + L := ⟨mid - a1, by omega⟩
                      obtain ⟨Q, hQQ⟩ : ∃ Q, b1 = mid + Q := ⟨b1 - mid, by omega⟩
                      obtain ⟨E, hEE⟩ : ∃ E, E = l / 8 := ⟨_, rfl⟩
                      obtain ⟨m1, hm1⟩ : ∃ m1, m1 = mid + 1 := ⟨_, rfl⟩
                      have hsz : mid ≤ n ∧ l ≤ n ∧ E ≤ n ∧ mid < n := by omega
                      obtain ⟨gl, hgl⟩ : ∃ g, decide (E ≤ L) = g := ⟨_, rfl⟩
                      obtain ⟨gq, hgq⟩ : ∃ g, decide (E ≤ Q) = g := ⟨_, rfl⟩
                      have hgl2 : decide ((E : Int) ≤ (L : Int)) = gl := by rw [← hgl]; simp
                      have hgq2 : decide ((E : Int) ≤ (Q : Int)) = gq := by rw [← hgq]; simp
                      have HMM := Lib.hid (show a1 ≤ mid ∧ mid < b1 ∧ m1 = mid + 1 ∧ m1 ≤ b1 ∧ b1 - a1 ≤ m ∧ b1 ≤ n ∧ mid ≤ n from ⟨e1, e2, hm1, by omega, hR.2.1, hR.2.2.1, by omega⟩)
                      have H45 := Lib.hid (And.intro e4 e5)
                      have HE6 := Lib.hid e6
                      have HE7 := Lib.hid e7
                      obtain ⟨v1, v2⟩ := sub_wraps hLL (le2 hsz.1 HN.out)
                      obtain ⟨v3, v4⟩ := sub_wraps hQQ (le2 hR.2.2.1 HN.out)
                      obtain ⟨v5, v6, v7⟩ := eighth_wraps hEE (le2 hsz.2.1 HN.out)
                      obtain ⟨v8, v9⟩ := id_wraps (le2 hsz.2.2.1 HN.out)
                      obtain ⟨v10, v11⟩ := next_wraps hm1 (by rw [hm1]; exact le3 hsz.2.2.2 HN.out)
                      clear hx e1 e2 e3 e4 e5 e6 e7 hR hl hLL hQQ hEE hm1 hsz
                      by_cases hlq : L < Q
                      · have hlqI : (L : Int) < (Q : Int) := Int.ofNat_lt.2 hlq
                        go_wp2_with fail
                        refine HPA.out.mono ?_
                        rintro e w8 ⟨rfl, HS9⟩
                        have HS10 := Lib.hid (HS8.out.trans HS9)
                        clear HS9
                        go_wp2_with fail
                        refine (HIH.out (mid - a1) (by have := HMM.out; clear v1 v2 v3 v4 v5 v6 v7 v8 v9 v10 v11; omega) a1 mid lm2 d5 w8 rfl HS10.out.hold HN5.out HMM.out.1 HMM.out.2.2.2.2.2.2 HL2.out H45.out.1).mono ?_
                        rintro e w9 ⟨rfl, d6, x1, x2, HS11⟩
                        have HS12 := Lib.hid (HS10.out.trans HS11)
                        have HX := Lib.hid (And.intro x1 (HE6.out d6 x1 x2))
                        clear HS11 x1 x2
                        go_wp2_with fail
                        clear v1 v2 v3 v4 v5 v6 v7 v8 v9 v10 v11
                        go_roundw
                        case rel => exact ⟨m1, b1, lm2, gl, ap, d6, rfl, rfl, rfl, by first | rfl | rw [hgl2] | rw [hgl], rfl, Lib.hid (by have := HMM.out; have := HL2.out; omega), HS12, Lib.hid (by rw [HX.out.1.1]; exact HN5.out), Lib.hid (by rw [HMM.out.2.2.1]; exact HX.out.2.1), Lib.hid (fun R h1 h2 => by rw [HMM.out.2.2.1] at h1 h2; exact HG1.out R (permIn_trans _ _ _ a1 b1 HP7.out (HX.out.2.2 R h1 h2).1) (HX.out.2.2 R h1 h2).2)⟩
                        case measure => have := HMM.out; simp [intOf]; omega
                      · have hlqI : ¬ (L : Int) < (Q : Int) := fun e => hlq (Int.ofNat_lt.1 e)
                        have hql : Q ≤ L := Nat.le_of_not_lt hlq
                        go_wp2_with fail
                        refine HPA.out.mono ?_
                        rintro e w8 ⟨rfl, HS9⟩
                        have HS10 := Lib.hid (HS8.out.trans HS9)
                        clear HS9
                        go_wp2_with fail
                        have HB5 := Lib.hid (show Go.Sort.Below ltN m1 b1 d5 from by rw [HMM.out.2.2.1]; exact H45.out.2)
                        refine (HIH.out (b1 - m1) (by have := HMM.out; clear v1 v2 v3 v4 v5 v6 v7 v8 v9 v10 v11; omega) m1 b1 lm2 d5 w8 rfl HS10.out.hold HN5.out HMM.out.2.2.2.1 HMM.out.2.2.2.2.2.1 HL2.out HB5.out).mono ?_
                        rintro e w9 ⟨rfl, d6, x1, x2, HS11⟩
                        have HS12 := Lib.hid (HS10.out.trans HS11)
                        rw [HMM.out.2.2.1] at x1 x2
                        have HX := Lib.hid (And.intro x1 (HE7.out d6 x1 x2))
                        clear HS11 x1 x2
                        go_wp2_with fail
                        clear v1 v2 v3 v4 v5 v6 v7 v8 v9 v10 v11
                        go_roundw
                        case rel => exact ⟨a1, mid, lm2, gq, ap, d6, rfl, rfl, rfl, by first | rfl | rw [hgq2] | rw [hgq], rfl, Lib.hid (by have := HMM.out; have := HL2.out; omega), HS12, Lib.hid (by rw [HX.out.1.1]; exact HN5.out), Lib.hid HX.out.2.1, Lib.hid (fun R h1 h2 => HG1.out R (permIn_trans _ _ _ a1 b1 HP7.out (HX.out.2.2 R h1 h2).1) (HX.out.2.2 R h1 h2).2)⟩
                        case measure => have := HMM.out; simp [intOf]; omega


end Go.Proofs.Ytkcbkimconaegaa
