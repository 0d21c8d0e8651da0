/-
  Sorting of numbers: the partition.
  Conditions: none but sizes.
-/
import Derived.Test.YtkcbkimconaegaaQsE
namespace Go.Proofs.Ytkcbkimconaegaa
open Go.RowKit
open Go.Sort (swp scanUp scanDown partLoop partition)
set_option linter.unusedVariables false
set_option linter.unusedSimpArgs false
set_option maxRecDepth 100000

theorem ploop_go {a i j : Nat} {d : Array Nat} (hi : 1 ≤ i) (hij : i ≤ j + 2) (h : scanUp (fun x => ltN x d[a]!) d j i ≤ scanDown (fun x => !ltN x d[a]!) d (scanUp (fun x => ltN x d[a]!) d j i) j) :
    partLoop ltN a i j d = partLoop ltN a (scanUp (fun x => ltN x d[a]!) d j i + 1) (scanDown (fun x => !ltN x d[a]!) d (scanUp (fun x => ltN x d[a]!) d j i) j - 1) (swp d (scanUp (fun x => ltN x d[a]!) d j i) (scanDown (fun x => !ltN x d[a]!) d (scanUp (fun x => ltN x d[a]!) d j i) j)) := by
  have h1 := up_range (p := fun x => ltN x d[a]!) (d := d) (j := j) (j + 1) i (by omega) hij
  have h2 := down_range (p := fun x => !ltN x d[a]!) (d := d) (i := scanUp (fun x => ltN x d[a]!) d j i) j h1.2
  conv => lhs; unfold partLoop
  rw [if_neg (by omega), dif_pos (by omega)]
theorem ploop_stop {a i j : Nat} {d : Array Nat} (h : ¬ scanUp (fun x => ltN x d[a]!) d j i ≤ scanDown (fun x => !ltN x d[a]!) d (scanUp (fun x => ltN x d[a]!) d j i) j) :
    partLoop ltN a i j d = (scanDown (fun x => !ltN x d[a]!) d (scanUp (fun x => ltN x d[a]!) d j i) j, d) := by
  unfold partLoop
  rw [if_pos (by omega)]

set_option maxHeartbeats 8000000 in
theorem part_any {w : World} {blk off N cap a b p n : Nat} {d : Array Nat} (h : HoldU w blk off N d) (hdn : d.size = n) (hap : a ≤ p) (hpb : p < b) (hb : b ≤ n) (hn : n ≤ 1000000) :
    Calls Try.prog 70 #[.slice (some ⟨blk, off, none⟩) n cap, .int .i64 a, .int .i64 b, .int .i64 p] w fun e w' => e = .returned (.tuple #[.int .i64 (partition ltN d a b p).1, .bool (partition ltN d a b p).2.1]) ∧ SrtW w blk off N (partition ltN d a b p).2.2 w' := by
  have H0 := Lib.hid (SrtW.refl h)
  have HDN := Lib.hid hdn
  have hpn : p < n := Nat.lt_of_lt_of_le hpb hb
  have han : a < n := Nat.lt_of_le_of_lt hap hpn
  obtain ⟨i0, hi0e⟩ : ∃ a1, a1 = a + 1 := ⟨_, rfl⟩
  obtain ⟨j0, hj0e⟩ : ∃ b1, b = b1 + 1 := ⟨b - 1, by omega⟩
  have hj0n : j0 < n := by omega
  have hij0 : i0 ≤ j0 + 2 := by omega
  obtain ⟨d1, hd1⟩ : ∃ d1, d1 = swp d a p := ⟨_, rfl⟩
  obtain ⟨I, hI⟩ : ∃ I, scanUp (fun x => ltN x d1[a]!) d1 j0 i0 = I := ⟨_, rfl⟩
  obtain ⟨J, hJ⟩ : ∃ J, scanDown (fun x => !ltN x d1[a]!) d1 I j0 = J := ⟨_, rfl⟩
  have hRA : ¬ I ≤ J → partition ltN d a b p = (J, true, swp d1 J a) := fun h => by
    unfold partition
    simp only [← hd1, show b - 1 = j0 by omega, ← hi0e, hI, hJ]
    rw [if_pos (by omega)]
  have hRB : I ≤ J → partition ltN d a b p = ((partLoop ltN a (I + 1) (J - 1) (swp d1 I J)).1, false, swp (partLoop ltN a (I + 1) (J - 1) (swp d1 I J)).2 (partLoop ltN a (I + 1) (J - 1) (swp d1 I J)).1 a) := fun h => by
    unfold partition
    simp only [← hd1, show b - 1 = j0 by omega, ← hi0e, hI, hJ]
    rw [if_neg (by omega)]
  generalize partition ltN d a b p = R at *
  have HRA := Lib.hid hRA
  have HRB := Lib.hid hRB
  have HAN := Lib.hid han
  have HNN := Lib.hid hn
  have HN : Hid (d1.size = n) := Lib.hid (by rw [hd1, swp_size]; exact hdn)
  have hIr := up_range (p := fun x => ltN x d1[a]!) (d := d1) (j := j0) (j0 + 1) i0 (by omega) hij0
  rw [hI] at hIr
  have hJr := down_range (p := fun x => !ltN x d1[a]!) (d := d1) (i := I) j0 hIr.2
  rw [hJ] at hJr
  have HIJ := Lib.hid hij0
  have HIJ2 := Lib.hid hIr.2
  have HI1P := Lib.hid (show 1 ≤ I from by omega)
  have HJN := Lib.hid hj0n
  have HI := Lib.hid (Lib.hid hI)
  have HJ := Lib.hid (Lib.hid hJ)
  have HRG := Lib.hid (And.intro (show a + 1 ≤ i0 from by omega) (And.intro hIr hJr))
  obtain ⟨pv, hpv⟩ : ∃ x, d1[a]! = x := ⟨_, rfl⟩
  have HPV := Lib.hid hpv
  obtain ⟨v1, v2⟩ := next_wraps hi0e (by rw [hi0e]; exact le3 han hn)
  obtain ⟨v3, v4⟩ := pred_wraps hj0e (le2 hb hn)
  have c_a := H0.out.hold.cell (j := a) (by rw [HDN.out]; exact han)
  have c_p := H0.out.hold.cell (j := p) (by rw [HDN.out]; exact hpn)
  obtain ⟨xa, hxa⟩ : ∃ x, x = d[a]! := ⟨_, rfl⟩
  obtain ⟨xp, hxp⟩ : ∃ x, x = d[p]! := ⟨_, rfl⟩
  rw [← hxa] at c_a
  rw [← hxp] at c_p
  have f_a := H0.out.hold.fr (off + a)
  have f_p := H0.out.hold.fr (off + p)
  have HS3 := Lib.hid H0.out.drew
  obtain ⟨⟨z1, k1⟩, g1⟩ := HS3.out.hold.second (i := a) (j := p) xp (by rw [HDN.out]; exact han) (by rw [HDN.out]; exact hpn)
  obtain ⟨⟨z2, k2⟩, g2⟩ := H0.out.hold.second (i := a) (j := p) xp (by rw [HDN.out]; exact han) (by rw [HDN.out]; exact hpn)
  have g3 := g1 (off + p)
  have HSW := Lib.hid (show SrtW w blk off N (swp d a p) _ from HS3.out.swap (i := a) (j := p) (by rw [HDN.out]; exact han) (by rw [HDN.out]; exact hpn))
  rw [← hxa, ← hxp] at HSW
  clear g1 g2 hxa hxp
  rw [← hd1] at HSW
  clear h hdn hap hpb hb hn hi0e hj0e hj0n hij0 hd1 hI hJ hIr hJr hRA hRB hpv
  go_enter Try.func70, Try.ntmps70
  go_wp2_with fail
  go_region
  obtain ⟨W1, hW1⟩ : ∃ W1, W1 = ((w.setCell ⟨blk, off + a, none⟩ (.int .u64 xp)).setCell ⟨blk, off + p, none⟩ (.int .u64 xa)).drew := ⟨_, rfl⟩
  rw [← hW1]
  have HS := Lib.hid (show SrtW w blk off N d1 W1 from by rw [hW1]; exact HSW.out)
  clear HSW k1 k2 g3 f_a f_p c_a c_p hW1 z1 z2 HS3 HDN H0
  go_upto_block 0 with fail
  go_cut [10] from 30 to 45 (fun z wx => z = .int .i64 I ∧ Hid (SrtW w blk off N d1 wx))
  case first =>
    clear v1 v2 v3 v4
    go_wp2_with fail
    go_loopw [10] (fun s wr => ∃ i : Nat, s = .int .i64 i ∧ i0 ≤ i ∧ i ≤ j0 + 2 ∧ Hid (SrtW w blk off N d1 wr) ∧ Hid (scanUp (fun x => ltN x d1[a]!) d1 j0 i = I)) (fun s _ => j0 + 2 - (intOf s).toNat)
    case atStart => exact ⟨i0, rfl, Nat.le_refl _, HIJ.out, HS, HI.out⟩
    case round =>
      rename World => wr
      obtain ⟨i, rfl, hi1, hi2, HS9, HR9⟩ := hrel
      by_cases hij : i ≤ j0
      · have hin : i < n := Nat.lt_of_le_of_lt hij HJN.out
        obtain ⟨xi, hxi⟩ : ∃ x, x = d1[i]! := ⟨_, rfl⟩
        have c_i := HS9.out.hold.cell (j := i) (by rw [HN.out]; exact hin)
        rw [← hxi] at c_i
        have c_a := HS9.out.hold.cell (j := a) (by rw [HN.out]; exact HAN.out)
        rw [HPV.out] at c_a
        have han := HAN.out
        obtain ⟨c, hc⟩ : ∃ c, c = ltN xi pv := ⟨_, rfl⟩
        have HLC := Lib.hid (fun w' => less_any xi pv w')
        rw [← hc] at HLC
        have HIB := Lib.hid (And.intro hi1 (And.intro hi2 hij))
        have HCC := Lib.hid (show ((fun x => ltN x d1[a]!)) d1[i]! = c from by rw [← hxi, hc, ← HPV.out])
        obtain ⟨i1, hi1e⟩ : ∃ i1, i1 = i + 1 := ⟨_, rfl⟩
        obtain ⟨w1, w2⟩ := next_wraps hi1e (by rw [hi1e]; exact le3 hin HNN.out)
        have HI1 := Lib.hid hi1e
        clear hi1 hi2 hxi hc hi1e
        cases c with
        | true =>
          go_wp2_with fail
          go_quiet ((go_at_call 68; with_reducible exact Calls.quiet_of_same (HLC.out _)))
          go_wp2_with fail
          clear w1 w2
          go_roundw
          case rel => exact ⟨i1, by first | rfl | go_num, by have := HIB.out; have := HI1.out; omega, by have := HIB.out; have := HI1.out; omega, Lib.hid (HS9.out.drewN _), Lib.hid (by rw [HI1.out, ← up_go (p := (fun x => ltN x d1[a]!)) (d := d1) HIB.out.2.2 HCC.out]; exact HR9.out)⟩
          case measure => have := HIB.out; have := HI1.out; simp [intOf]; omega
        | false =>
          go_wp2_with fail
          go_quiet ((go_at_call 68; with_reducible exact Calls.quiet_of_same (HLC.out _)))
          go_wp2_with fail
          go_meet
          case rel => exact ⟨by rw [← HR9.out, up_stop (p := (fun x => ltN x d1[a]!)) (d := d1) HCC.out], Lib.hid (HS9.out.drewN _)⟩
      · have HOV := Lib.hid hij
        clear hi1 hi2
        go_wp2_with fail
        go_quiet (fail)
        go_wp2_with fail
        go_meet
        case rel => exact ⟨by rw [← HR9.out, up_over (p := (fun x => ltN x d1[a]!)) (d := d1) HOV.out], Lib.hid (HS9.out.drewN _)⟩
  case rest =>
    intros
    obtain ⟨rfl, HS2⟩ := hcut
    clear HI
    go_upto_block 2 with fail
    go_cut [11] from 46 to 62 (fun z wx => z = .int .i64 J ∧ Hid (SrtW w blk off N d1 wx))
    case first =>
      clear v1 v2 v3 v4
      go_wp2_with fail
      go_loopw [11] (fun s wr => ∃ j : Nat, s = .int .i64 j ∧ I ≤ j + 2 ∧ j ≤ j0 ∧ Hid (SrtW w blk off N d1 wr) ∧ Hid (scanDown (fun x => !ltN x d1[a]!) d1 I j = J)) (fun s _ => (intOf s).toNat)
      case atStart => exact ⟨j0, rfl, HIJ2.out, Nat.le_refl _, HS2, HJ.out⟩
      case round =>
        rename World => wr
        obtain ⟨j, rfl, hj1, hj2, HS9, HR9⟩ := hrel
        by_cases hij : I ≤ j
        · have hjn : j < n := Nat.lt_of_le_of_lt hj2 HJN.out
          obtain ⟨k, hk⟩ : ∃ k, j = k + 1 := ⟨j - 1, by have := HI1P.out; omega⟩
          obtain ⟨xj, hxj⟩ : ∃ x, x = d1[j]! := ⟨_, rfl⟩
          have c_j := HS9.out.hold.cell (j := j) (by rw [HN.out]; exact hjn)
          rw [← hxj] at c_j
          have c_a := HS9.out.hold.cell (j := a) (by rw [HN.out]; exact HAN.out)
          rw [HPV.out] at c_a
          have han := HAN.out
          obtain ⟨c, hc⟩ : ∃ c, c = ltN xj pv := ⟨_, rfl⟩
          have HLC := Lib.hid (fun w' => less_any xj pv w')
          rw [← hc] at HLC
          have HIB := Lib.hid (And.intro hj1 (And.intro hj2 (And.intro hij hk)))
          have HCC := Lib.hid (show ((fun x => !ltN x d1[a]!)) d1[j]! = !c from by rw [← hxj, hc, ← HPV.out])
          obtain ⟨w1, w2⟩ := pred_wraps hk (le2 (Nat.le_of_lt hjn) HNN.out)
          clear hj1 hj2 hxj hc hk
          cases c with
          | false =>
            go_wp2_with fail
            go_quiet ((go_at_call 68; with_reducible exact Calls.quiet_of_same (HLC.out _)))
            go_wp2_with fail
            clear w1 w2
            go_roundw
            case rel => exact ⟨k, by first | rfl | go_num, by have := HIB.out; omega, by have := HIB.out; omega, Lib.hid (HS9.out.drewN _), Lib.hid (by
              have hk := HIB.out.2.2.2
              have h1 := HR9.out
              have h2 := HCC.out
              have h3 := HIB.out.2.2.1
              rw [hk] at h1 h2 h3
              rw [← h1]
              exact (down_go (p := (fun x => !ltN x d1[a]!)) (d := d1) h3 h2).symm)⟩
            case measure => have := HIB.out; simp [intOf]; omega
          | true =>
            go_wp2_with fail
            go_quiet ((go_at_call 68; with_reducible exact Calls.quiet_of_same (HLC.out _)))
            go_wp2_with fail
            go_meet
            case rel => exact ⟨by rw [← HR9.out, down_stop (p := (fun x => !ltN x d1[a]!)) (d := d1) HCC.out], Lib.hid (HS9.out.drewN _)⟩
        · have HOV := Lib.hid hij
          clear hj1 hj2
          go_wp2_with fail
          go_quiet (fail)
          go_wp2_with fail
          go_meet
          case rel => exact ⟨by rw [← HR9.out, down_over (p := (fun x => !ltN x d1[a]!)) (d := d1) HOV.out], Lib.hid (HS9.out.drewN _)⟩
    case rest =>
      intros
      rename World => wd
      obtain ⟨rfl, HS5⟩ := hcut
      clear HJ v1 v2 v3 v4
      by_cases hIJ : I ≤ J
      · have hdl : decide (J < I) = false := by simp only [decide_eq_false_iff_not]; omega
        have hG := HRG.out
        have hIn : I < n := by have := HJN.out; omega
        have hJn : J < n := by have := HJN.out; omega
        obtain ⟨I1, hI1⟩ : ∃ I1, I1 = I + 1 := ⟨_, rfl⟩
        obtain ⟨J1, hJ1⟩ : ∃ J1, J = J1 + 1 := ⟨J - 1, by omega⟩
        have HB1 := Lib.hid (show a + 1 ≤ I1 ∧ J1 < n from by omega)
        have HB2 := Lib.hid (show I1 ≤ J1 + 2 from by omega)
        obtain ⟨RL, hRL⟩ : ∃ RL, partLoop ltN a I1 J1 (swp d1 I J) = RL := ⟨_, rfl⟩
        have HFR := Lib.hid (show R = (RL.1, false, swp RL.2 RL.1 a) from by rw [HRB.out hIJ, ← hI1, show J - 1 = J1 by omega, hRL])
        have HRL := Lib.hid hRL
        obtain ⟨v1, v2⟩ := next_wraps hI1 (by rw [hI1]; exact le3 hIn HNN.out)
        obtain ⟨v3, v4⟩ := pred_wraps hJ1 (le2 (Nat.le_of_lt hJn) HNN.out)
        have c_I := HS5.out.hold.cell (j := I) (by rw [HN.out]; exact hIn)
        have c_J := HS5.out.hold.cell (j := J) (by rw [HN.out]; exact hJn)
        obtain ⟨xI, hxI⟩ : ∃ x, x = d1[I]! := ⟨_, rfl⟩
        obtain ⟨xJ, hxJ⟩ : ∃ x, x = d1[J]! := ⟨_, rfl⟩
        rw [← hxI] at c_I
        rw [← hxJ] at c_J
        have f_I := HS5.out.hold.fr (off + I)
        have f_J := HS5.out.hold.fr (off + J)
        have HS3 := Lib.hid HS5.out.drew
        obtain ⟨⟨z1, k1⟩, g1⟩ := HS3.out.hold.second (i := I) (j := J) xJ (by rw [HN.out]; exact hIn) (by rw [HN.out]; exact hJn)
        obtain ⟨⟨z2, k2⟩, g2⟩ := HS5.out.hold.second (i := I) (j := J) xJ (by rw [HN.out]; exact hIn) (by rw [HN.out]; exact hJn)
        have g3 := g1 (off + J)
        have HSW := Lib.hid (show SrtW w blk off N (swp d1 I J) _ from HS3.out.swap (i := I) (j := J) (by rw [HN.out]; exact hIn) (by rw [HN.out]; exact hJn))
        rw [← hxI, ← hxJ] at HSW
        clear g1 g2 hxI hxJ
        have HN2 : Hid ((swp d1 I J).size = n) := Lib.hid (by rw [swp_size]; exact HN.out)
        clear hG hI1 hJ1 HRA HRB hRL HIJ HIJ2 HI1P HJN HPV HRG
        go_wp2_with fail
        go_region
        go_wp2_with fail
        go_loopw [10, 11] (fun s10 s11 wr => ∃ (i j : Nat) (d2 : Array Nat), s10 = .int .i64 i ∧ s11 = .int .i64 j ∧ a + 1 ≤ i ∧ i ≤ j + 2 ∧ j < n ∧ Hid (SrtW w blk off N d2 wr) ∧ Hid (d2.size = n) ∧ Hid (partLoop ltN a i j d2 = RL)) (fun s10 s11 _ => (intOf s11).toNat + 2 - (intOf s10).toNat)
        case atStart => exact ⟨I1, J1, swp d1 I J, by first | rfl | go_num, by first | rfl | go_num, HB1.out.1, HB2.out, HB1.out.2, HSW, HN2, HRL⟩
        case round =>
          clear v1 v2 v3 v4 HSW HS3 HN HN2 HS5 k1 k2 g3 f_I f_J c_I c_J HB1 HB2 HS HS2
          rename World => wr
          obtain ⟨i2, j2, d2, rfl, rfl, hi0, hij0, hj0, HSB, HN, HRR⟩ := hrel
          obtain ⟨pv, hpv⟩ : ∃ x, d2[a]! = x := ⟨_, rfl⟩
          have HPV := Lib.hid hpv
          obtain ⟨I2, hI⟩ : ∃ I, scanUp (fun x => ltN x d2[a]!) d2 j2 i2 = I := ⟨_, rfl⟩
          obtain ⟨J2, hJ⟩ : ∃ J, scanDown (fun x => !ltN x d2[a]!) d2 I2 j2 = J := ⟨_, rfl⟩
          have hIr := up_range (p := fun x => ltN x d2[a]!) (d := d2) (j := j2) (j2 + 1) i2 (by omega) hij0
          rw [hI] at hIr
          have hJr := down_range (p := fun x => !ltN x d2[a]!) (d := d2) (i := I2) j2 hIr.2
          rw [hJ] at hJr
          have HIJ := Lib.hid hij0
          have HIJ2 := Lib.hid hIr.2
          have HI1P := Lib.hid (show 1 ≤ I2 from by omega)
          have HJN := Lib.hid hj0
          have HI := Lib.hid (Lib.hid hI)
          have HJ := Lib.hid (Lib.hid hJ)
          have HRG := Lib.hid (And.intro hi0 (And.intro hIr hJr))
          have HGO := Lib.hid (fun h => ploop_go (a := a) (i := i2) (j := j2) (d := d2) (by omega) hij0 h)
          have HST := Lib.hid (fun h => ploop_stop (a := a) (i := i2) (j := j2) (d := d2) h)
          rw [hI, hJ] at HGO HST
          clear hI hJ hIr hJr hij0 hi0 hpv hj0
          go_upto_block 6 with fail
          go_cut [10] from 99 to 114 (fun z wx => z = .int .i64 I2 ∧ Hid (SrtW w blk off N d2 wx))
          case first =>
            go_wp2_with fail
            go_loopw [10] (fun s wr => ∃ i : Nat, s = .int .i64 i ∧ i2 ≤ i ∧ i ≤ j2 + 2 ∧ Hid (SrtW w blk off N d2 wr) ∧ Hid (scanUp (fun x => ltN x d2[a]!) d2 j2 i = I2)) (fun s _ => j2 + 2 - (intOf s).toNat)
            case atStart => exact ⟨i2, rfl, Nat.le_refl _, HIJ.out, HSB, HI.out⟩
            case round =>
              rename World => wr
              obtain ⟨i, rfl, hi1, hi2, HS9, HR9⟩ := hrel
              by_cases hij : i ≤ j2
              · have hin : i < n := Nat.lt_of_le_of_lt hij HJN.out
                obtain ⟨xi, hxi⟩ : ∃ x, x = d2[i]! := ⟨_, rfl⟩
                have c_i := HS9.out.hold.cell (j := i) (by rw [HN.out]; exact hin)
                rw [← hxi] at c_i
                have c_a := HS9.out.hold.cell (j := a) (by rw [HN.out]; exact HAN.out)
                rw [HPV.out] at c_a
                have han := HAN.out
                obtain ⟨c, hc⟩ : ∃ c, c = ltN xi pv := ⟨_, rfl⟩
                have HLC := Lib.hid (fun w' => less_any xi pv w')
                rw [← hc] at HLC
                have HIB := Lib.hid (And.intro hi1 (And.intro hi2 hij))
                have HCC := Lib.hid (show ((fun x => ltN x d2[a]!)) d2[i]! = c from by rw [← hxi, hc, ← HPV.out])
                obtain ⟨i1, hi1e⟩ : ∃ i1, i1 = i + 1 := ⟨_, rfl⟩
                obtain ⟨w1, w2⟩ := next_wraps hi1e (by rw [hi1e]; exact le3 hin HNN.out)
                have HI1 := Lib.hid hi1e
                clear hi1 hi2 hxi hc hi1e
                cases c with
                | true =>
                  go_wp2_with fail
                  go_quiet ((go_at_call 68; with_reducible exact Calls.quiet_of_same (HLC.out _)))
                  go_wp2_with fail
                  clear w1 w2
                  go_roundw
                  case rel => exact ⟨i1, by first | rfl | go_num, by have := HIB.out; have := HI1.out; omega, by have := HIB.out; have := HI1.out; omega, Lib.hid (HS9.out.drewN _), Lib.hid (by rw [HI1.out, ← up_go (p := (fun x => ltN x d2[a]!)) (d := d2) HIB.out.2.2 HCC.out]; exact HR9.out)⟩
                  case measure => have := HIB.out; have := HI1.out; simp [intOf]; omega
                | false =>
                  go_wp2_with fail
                  go_quiet ((go_at_call 68; with_reducible exact Calls.quiet_of_same (HLC.out _)))
                  go_wp2_with fail
                  go_meet
                  case rel => exact ⟨by rw [← HR9.out, up_stop (p := (fun x => ltN x d2[a]!)) (d := d2) HCC.out], Lib.hid (HS9.out.drewN _)⟩
              · have HOV := Lib.hid hij
                clear hi1 hi2
                go_wp2_with fail
                go_quiet (fail)
                go_wp2_with fail
                go_meet
                case rel => exact ⟨by rw [← HR9.out, up_over (p := (fun x => ltN x d2[a]!)) (d := d2) HOV.out], Lib.hid (HS9.out.drewN _)⟩
          case rest =>
            intros
            obtain ⟨rfl, HS2⟩ := hcut
            clear HI
            go_upto_block 8 with fail
            go_cut [11] from 115 to 131 (fun z wx => z = .int .i64 J2 ∧ Hid (SrtW w blk off N d2 wx))
            case first =>
              go_wp2_with fail
              go_loopw [11] (fun s wr => ∃ j : Nat, s = .int .i64 j ∧ I2 ≤ j + 2 ∧ j ≤ j2 ∧ Hid (SrtW w blk off N d2 wr) ∧ Hid (scanDown (fun x => !ltN x d2[a]!) d2 I2 j = J2)) (fun s _ => (intOf s).toNat)
              case atStart => exact ⟨j2, rfl, HIJ2.out, Nat.le_refl _, HS2, HJ.out⟩
              case round =>
                rename World => wr
                obtain ⟨j, rfl, hj1, hj2, HS9, HR9⟩ := hrel
                by_cases hij : I2 ≤ j
                · have hjn : j < n := Nat.lt_of_le_of_lt hj2 HJN.out
                  obtain ⟨k, hk⟩ : ∃ k, j = k + 1 := ⟨j - 1, by have := HI1P.out; omega⟩
                  obtain ⟨xj, hxj⟩ : ∃ x, x = d2[j]! := ⟨_, rfl⟩
                  have c_j := HS9.out.hold.cell (j := j) (by rw [HN.out]; exact hjn)
                  rw [← hxj] at c_j
                  have c_a := HS9.out.hold.cell (j := a) (by rw [HN.out]; exact HAN.out)
                  rw [HPV.out] at c_a
                  have han := HAN.out
                  obtain ⟨c, hc⟩ : ∃ c, c = ltN xj pv := ⟨_, rfl⟩
                  have HLC := Lib.hid (fun w' => less_any xj pv w')
                  rw [← hc] at HLC
                  have HIB := Lib.hid (And.intro hj1 (And.intro hj2 (And.intro hij hk)))
                  have HCC := Lib.hid (show ((fun x => !ltN x d2[a]!)) d2[j]! = !c from by rw [← hxj, hc, ← HPV.out])
                  obtain ⟨w1, w2⟩ := pred_wraps hk (le2 (Nat.le_of_lt hjn) HNN.out)
                  clear hj1 hj2 hxj hc hk
                  cases c with
                  | false =>
                    go_wp2_with fail
                    go_quiet ((go_at_call 68; with_reducible exact Calls.quiet_of_same (HLC.out _)))
                    go_wp2_with fail
                    clear w1 w2
                    go_roundw
                    case rel => exact ⟨k, by first | rfl | go_num, by have := HIB.out; omega, by have := HIB.out; omega, Lib.hid (HS9.out.drewN _), Lib.hid (by
                      have hk := HIB.out.2.2.2
                      have h1 := HR9.out
                      have h2 := HCC.out
                      have h3 := HIB.out.2.2.1
                      rw [hk] at h1 h2 h3
                      rw [← h1]
                      exact (down_go (p := (fun x => !ltN x d2[a]!)) (d := d2) h3 h2).symm)⟩
                    case measure => have := HIB.out; simp [intOf]; omega
                  | true =>
                    go_wp2_with fail
                    go_quiet ((go_at_call 68; with_reducible exact Calls.quiet_of_same (HLC.out _)))
                    go_wp2_with fail
                    go_meet
                    case rel => exact ⟨by rw [← HR9.out, down_stop (p := (fun x => !ltN x d2[a]!)) (d := d2) HCC.out], Lib.hid (HS9.out.drewN _)⟩
                · have HOV := Lib.hid hij
                  clear hj1 hj2
                  go_wp2_with fail
                  go_quiet (fail)
                  go_wp2_with fail
                  go_meet
                  case rel => exact ⟨by rw [← HR9.out, down_over (p := (fun x => !ltN x d2[a]!)) (d := d2) HOV.out], Lib.hid (HS9.out.drewN _)⟩
            case rest =>
              intros
              rename World => we
              obtain ⟨rfl, HS6⟩ := hcut
              clear HJ
              by_cases hIJ2 : I2 ≤ J2
              · have hG := HRG.out
                have hIn : I2 < n := by have := HJN.out; omega
                have hJn : J2 < n := by have := HJN.out; omega
                obtain ⟨I3, hI1⟩ : ∃ I1, I1 = I2 + 1 := ⟨_, rfl⟩
                obtain ⟨J3, hJ1⟩ : ∃ J1, J2 = J1 + 1 := ⟨J2 - 1, by omega⟩
                have HB1 := Lib.hid (show a + 1 ≤ I3 ∧ J3 < n ∧ J3 + 2 - I3 < j2 + 2 - i2 from by omega)
                have HB2 := Lib.hid (show I3 ≤ J3 + 2 from by omega)
                have HNXT := Lib.hid (show partLoop ltN a I3 J3 (swp d2 I2 J2) = RL from by rw [← HRR.out, HGO.out hIJ2, hI1, show J2 - 1 = J3 by omega])
                obtain ⟨v1, v2⟩ := next_wraps hI1 (by rw [hI1]; exact le3 hIn HNN.out)
                obtain ⟨v3, v4⟩ := pred_wraps hJ1 (le2 (Nat.le_of_lt hJn) HNN.out)
                have c_I2 := HS6.out.hold.cell (j := I2) (by rw [HN.out]; exact hIn)
                have c_J2 := HS6.out.hold.cell (j := J2) (by rw [HN.out]; exact hJn)
                obtain ⟨xI2, hxI2⟩ : ∃ x, x = d2[I2]! := ⟨_, rfl⟩
                obtain ⟨xJ2, hxJ2⟩ : ∃ x, x = d2[J2]! := ⟨_, rfl⟩
                rw [← hxI2] at c_I2
                rw [← hxJ2] at c_J2
                have f_I2 := HS6.out.hold.fr (off + I2)
                have f_J2 := HS6.out.hold.fr (off + J2)
                have HS3 := Lib.hid HS6.out.drew
                obtain ⟨⟨z1, k1⟩, g1⟩ := HS3.out.hold.second (i := I2) (j := J2) xJ2 (by rw [HN.out]; exact hIn) (by rw [HN.out]; exact hJn)
                obtain ⟨⟨z2, k2⟩, g2⟩ := HS6.out.hold.second (i := I2) (j := J2) xJ2 (by rw [HN.out]; exact hIn) (by rw [HN.out]; exact hJn)
                have g3 := g1 (off + J2)
                have HSW := Lib.hid (show SrtW w blk off N (swp d2 I2 J2) _ from HS3.out.swap (i := I2) (j := J2) (by rw [HN.out]; exact hIn) (by rw [HN.out]; exact hJn))
                rw [← hxI2, ← hxJ2] at HSW
                clear g1 g2 hxI2 hxJ2
                clear hG hI1 hJ1 HGO HST
                go_wp2_with fail
                go_region
                go_wp2_with fail
                clear v1 v2 v3 v4
                go_roundw
                case rel => exact ⟨I3, J3, swp d2 I2 J2, by first | rfl | go_num, by first | rfl | go_num, HB1.out.1, HB2.out, HB1.out.2.1, HSW, Lib.hid (by rw [swp_size]; exact HN.out), HNXT⟩
                case measure => have := HB1.out; simp [intOf]; omega
              · have hJn : J2 < n := by have := HJN.out; have := HRG.out; omega
                have han := HAN.out
                have HE := Lib.hid (show RL = (J2, d2) from by rw [← HRR.out]; exact HST.out hIJ2)
                have c_J2 := HS6.out.hold.cell (j := J2) (by rw [HN.out]; exact hJn)
                have c_a := HS6.out.hold.cell (j := a) (by rw [HN.out]; exact han)
                obtain ⟨xJ2, hxJ2⟩ : ∃ x, x = d2[J2]! := ⟨_, rfl⟩
                obtain ⟨xa2, hxa2⟩ : ∃ x, x = d2[a]! := ⟨_, rfl⟩
                rw [← hxJ2] at c_J2
                rw [← hxa2] at c_a
                have f_J2 := HS6.out.hold.fr (off + J2)
                have f_a := HS6.out.hold.fr (off + a)
                have HS3 := Lib.hid HS6.out.drew
                obtain ⟨⟨z1, k1⟩, g1⟩ := HS3.out.hold.second (i := J2) (j := a) xa2 (by rw [HN.out]; exact hJn) (by rw [HN.out]; exact han)
                obtain ⟨⟨z2, k2⟩, g2⟩ := HS6.out.hold.second (i := J2) (j := a) xa2 (by rw [HN.out]; exact hJn) (by rw [HN.out]; exact han)
                have g3 := g1 (off + a)
                have HSW := Lib.hid (show SrtW w blk off N (swp d2 J2 a) _ from HS3.out.swap (i := J2) (j := a) (by rw [HN.out]; exact hJn) (by rw [HN.out]; exact han))
                rw [← hxJ2, ← hxa2] at HSW
                clear g1 g2 hxJ2 hxa2
                clear HGO HST
                go_wp2_with fail
                go_region
                go_wp2_with fail
                go_ret2
                exact ⟨by rw [HFR.out, HE.out]; rfl, by rw [HFR.out, HE.out]; exact HSW.out⟩
      · have hJn : J < n := by have := HJN.out; have := HRG.out; omega
        have han := HAN.out
        have HE := Lib.hid (show R = (J, true, swp d1 J a) from HRA.out hIJ)
        have c_J := HS5.out.hold.cell (j := J) (by rw [HN.out]; exact hJn)
        have c_a := HS5.out.hold.cell (j := a) (by rw [HN.out]; exact han)
        obtain ⟨xJ2, hxJ2⟩ : ∃ x, x = d1[J]! := ⟨_, rfl⟩
        obtain ⟨xa2, hxa2⟩ : ∃ x, x = d1[a]! := ⟨_, rfl⟩
        rw [← hxJ2] at c_J
        rw [← hxa2] at c_a
        have f_J := HS5.out.hold.fr (off + J)
        have f_a := HS5.out.hold.fr (off + a)
        have HS3 := Lib.hid HS5.out.drew
        obtain ⟨⟨z1, k1⟩, g1⟩ := HS3.out.hold.second (i := J) (j := a) xa2 (by rw [HN.out]; exact hJn) (by rw [HN.out]; exact han)
        obtain ⟨⟨z2, k2⟩, g2⟩ := HS5.out.hold.second (i := J) (j := a) xa2 (by rw [HN.out]; exact hJn) (by rw [HN.out]; exact han)
        have g3 := g1 (off + a)
        have HSW := Lib.hid (show SrtW w blk off N (swp d1 J a) _ from HS3.out.swap (i := J) (j := a) (by rw [HN.out]; exact hJn) (by rw [HN.out]; exact han))
        rw [← hxJ2, ← hxa2] at HSW
        clear g1 g2 hxJ2 hxa2
        clear HRA HRB
        go_wp2_with fail
        go_region
        go_wp2_with fail
        go_ret2
        exact ⟨by rw [HE.out]; rfl, by rw [HE.out]; exact HSW.out⟩

end Go.Proofs.Ytkcbkimconaegaa
