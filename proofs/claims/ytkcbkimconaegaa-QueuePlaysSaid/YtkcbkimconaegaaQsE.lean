/-
  Sorting of numbers: the partitions.
  Conditions: none but sizes.
-/
import Derived.Test.YtkcbkimconaegaaQsD
namespace Go.Proofs.Ytkcbkimconaegaa
open Go.RowKit
open Go.Sort (swp scanUp scanDown partLoop partition partEqLoop partitionEqual)
set_option linter.unusedVariables false
set_option linter.unusedSimpArgs false
set_option maxRecDepth 100000

theorem up_go {p : Nat → Bool} {d : Array Nat} {j i : Nat} (h : i ≤ j) (hp : p d[i]! = true) : scanUp p d j i = scanUp p d j (i + 1) := by
  conv => lhs; unfold scanUp
  rw [if_pos (by simp [h, hp])]
theorem up_stop {p : Nat → Bool} {d : Array Nat} {j i : Nat} (hp : p d[i]! = false) : scanUp p d j i = i := by
  unfold scanUp
  rw [if_neg (by simp [hp])]
theorem up_over {p : Nat → Bool} {d : Array Nat} {j i : Nat} (h : ¬ i ≤ j) : scanUp p d j i = i := by
  unfold scanUp
  rw [if_neg (by simp; intro a; omega)]
theorem down_go {p : Nat → Bool} {d : Array Nat} {j i : Nat} (h : i ≤ j + 1) (hp : p d[j + 1]! = true) : scanDown p d i (j + 1) = scanDown p d i j := by
  conv => lhs; unfold scanDown
  rw [if_pos (by simp [h, hp])]
theorem down_stop {p : Nat → Bool} {d : Array Nat} {j i : Nat} (hp : p d[j]! = false) : scanDown p d i j = j := by
  cases j with
  | zero => rfl
  | succ k =>
    unfold scanDown
    rw [if_neg (by simp [hp])]
theorem down_over {p : Nat → Bool} {d : Array Nat} {j i : Nat} (h : ¬ i ≤ j) : scanDown p d i j = j := by
  cases j with
  | zero => rfl
  | succ k =>
    unfold scanDown
    rw [if_neg (by simp; intro a; omega)]
theorem up_range {p : Nat → Bool} {d : Array Nat} {j : Nat} : ∀ (m i : Nat), j + 1 - i ≤ m → i ≤ j + 2 → i ≤ scanUp p d j i ∧ scanUp p d j i ≤ j + 2
  | 0, i, h, h2 => by rw [up_over (by omega)]; omega
  | m + 1, i, h, h2 => by
    by_cases c : i ≤ j
    · cases hp : p d[i]! with
      | true => rw [up_go c hp]; have := up_range (p := p) (d := d) (j := j) m (i + 1) (by omega) (by omega); omega
      | false => rw [up_stop hp]; omega
    · rw [up_over c]; omega
theorem down_range {p : Nat → Bool} {d : Array Nat} {i : Nat} : ∀ (j : Nat), i ≤ j + 2 → i ≤ scanDown p d i j + 2 ∧ scanDown p d i j ≤ j
  | 0, h => ⟨h, Nat.le_refl _⟩
  | j + 1, h => by
    by_cases c : i ≤ j + 1
    · cases hp : p d[j + 1]! with
      | true => rw [down_go c hp]; have := down_range (p := p) (d := d) (i := i) j (by omega); omega
      | false => rw [down_stop hp]; omega
    · rw [down_over c]; omega

theorem eqloop_go {a i j : Nat} {d : Array Nat} (hi : 1 ≤ i) (hij : i ≤ j + 2) (h : scanUp (fun x => !ltN d[a]! x) d j i ≤ scanDown (fun x => ltN d[a]! x) d (scanUp (fun x => !ltN d[a]! x) d j i) j) :
    partEqLoop ltN a i j d = partEqLoop ltN a (scanUp (fun x => !ltN d[a]! x) d j i + 1) (scanDown (fun x => ltN d[a]! x) d (scanUp (fun x => !ltN d[a]! x) d j i) j - 1) (swp d (scanUp (fun x => !ltN d[a]! x) d j i) (scanDown (fun x => ltN d[a]! x) d (scanUp (fun x => !ltN d[a]! x) d j i) j)) := by
  have h1 := up_range (p := fun x => !ltN d[a]! x) (d := d) (j := j) (j + 1) i (by omega) hij
  have h2 := down_range (p := fun x => ltN d[a]! x) (d := d) (i := scanUp (fun x => !ltN d[a]! x) d j i) j h1.2
  conv => lhs; unfold partEqLoop
  rw [if_neg (by omega), dif_pos (by omega)]
theorem eqloop_stop {a i j : Nat} {d : Array Nat} (h : ¬ scanUp (fun x => !ltN d[a]! x) d j i ≤ scanDown (fun x => ltN d[a]! x) d (scanUp (fun x => !ltN d[a]! x) d j i) j) :
    partEqLoop ltN a i j d = (scanUp (fun x => !ltN d[a]! x) d j i, d) := by
  unfold partEqLoop
  rw [if_pos (by omega)]

set_option maxHeartbeats 8000000 in
theorem parteq_any {w : World} {blk off N cap a b p n : Nat} {d : Array Nat} (h : HoldU w blk off N d) (hdn : d.size = n) (hap : a ≤ p) (hpb : p < b) (hb : b ≤ n) (hn : n ≤ 1000000) :
    Calls Try.prog 69 #[.slice (some ⟨blk, off, none⟩) n cap, .int .i64 a, .int .i64 b, .int .i64 p] w fun e w' => e = .returned (.int .i64 (partitionEqual ltN d a b p).1) ∧ SrtW w blk off N (partitionEqual ltN d a b p).2 w' := by
  have H0 := Lib.hid (SrtW.refl h)
  have HDN := Lib.hid hdn
  have hpn : p < n := Nat.lt_of_lt_of_le hpb hb
  have han : a < n := Nat.lt_of_le_of_lt hap hpn
  obtain ⟨a1, ha1⟩ : ∃ a1, a1 = a + 1 := ⟨_, rfl⟩
  obtain ⟨b1, hb1⟩ : ∃ b1, b = b1 + 1 := ⟨b - 1, by omega⟩
  have hb1n : b1 < n := by omega
  have hab1 : a1 ≤ b1 + 1 := by omega
  have HR : Hid (partEqLoop ltN a a1 b1 (swp d a p) = partitionEqual ltN d a b p) := Lib.hid (by unfold partitionEqual; rw [ha1, show b - 1 = b1 by omega])
  generalize partitionEqual ltN d a b p = R at *
  have HAN := Lib.hid han
  have HNN := Lib.hid hn
  have HAB := Lib.hid (And.intro ha1 (And.intro hb1n hab1))
  obtain ⟨v1, v2⟩ := next_wraps ha1 (by rw [ha1]; exact le3 han hn)
  obtain ⟨v3, v4⟩ := pred_wraps hb1 (le2 hb hn)
  have c_a := H0.out.hold.cell (j := a) (by rw [HDN.out]; exact han)
  have c_p := H0.out.hold.cell (j := p) (by rw [HDN.out]; exact hpn)
  obtain ⟨xa, hxa⟩ : ∃ x, x = d[a]! := ⟨_, rfl⟩
  obtain ⟨xp, hxp⟩ : ∃ x, x = d[p]! := ⟨_, rfl⟩
  rw [← hxa] at c_a
  rw [← hxp] at c_p
  have f_a := H0.out.hold.fr (off + a)
  have f_p := H0.out.hold.fr (off + p)
  have HS3 := Lib.hid H0.out.drew
  obtain ⟨⟨z1, k1⟩, g1⟩ := HS3.out.hold.second (i := a) (j := p) xp (by rw [HDN.out]; exact han) (by rw [HDN.out]; exact hpn)
  obtain ⟨⟨z2, k2⟩, g2⟩ := H0.out.hold.second (i := a) (j := p) xp (by rw [HDN.out]; exact han) (by rw [HDN.out]; exact hpn)
  have g3 := g1 (off + p)
  have HSW := Lib.hid (show SrtW w blk off N (swp d a p) _ from HS3.out.swap (i := a) (j := p) (by rw [HDN.out]; exact han) (by rw [HDN.out]; exact hpn))
  rw [← hxa, ← hxp] at HSW
  clear g1 g2 hxa hxp
  clear h hdn hap hpb hb hn ha1 hb1 hab1 hb1n
  go_enter Try.func69, Try.ntmps69
  go_wp2_with fail
  go_region
  go_wp2_with fail
  go_loopw [9, 10] (fun s9 s10 wr => ∃ (i j : Nat) (d1 : Array Nat), s9 = .int .i64 i ∧ s10 = .int .i64 j ∧ a + 1 ≤ i ∧ i ≤ j + 2 ∧ j < n ∧ Hid (SrtW w blk off N d1 wr) ∧ Hid (d1.size = n) ∧ Hid (partEqLoop ltN a i j d1 = R)) (fun s9 s10 _ => (intOf s10).toNat + 2 - (intOf s9).toNat)
  case atStart => exact ⟨a1, b1, swp d a p, rfl, rfl, by have := HAB.out; omega, by have := HAB.out; omega, HAB.out.2.1, HSW, Lib.hid (by rw [swp_size]; exact HDN.out), HR⟩
  case round =>
    rename World => wr
    obtain ⟨i0, j0, d1, rfl, rfl, hi0, hij0, hj0, HS, HN, HRR⟩ := hrel
    obtain ⟨pv, hpv⟩ : ∃ x, d1[a]! = x := ⟨_, rfl⟩
    have HPV := Lib.hid hpv
    obtain ⟨I, hI⟩ : ∃ I, scanUp (fun x => !ltN d1[a]! x) d1 j0 i0 = I := ⟨_, rfl⟩
    obtain ⟨J, hJ⟩ : ∃ J, scanDown (fun x => ltN d1[a]! x) d1 I j0 = J := ⟨_, rfl⟩
    have hIr := up_range (p := fun x => !ltN d1[a]! x) (d := d1) (j := j0) (j0 + 1) i0 (by omega) hij0
    rw [hI] at hIr
    have hJr := down_range (p := fun x => ltN d1[a]! x) (d := d1) (i := I) j0 hIr.2
    rw [hJ] at hJr
    have HIJ := Lib.hid hij0
    have HIJ2 := Lib.hid hIr.2
    have HI1P := Lib.hid (show 1 ≤ I from by omega)
    have HJN := Lib.hid hj0
    have HI := Lib.hid (Lib.hid hI)
    have HJ := Lib.hid (Lib.hid hJ)
    have HRG := Lib.hid (And.intro hi0 (And.intro hIr hJr))
    have HGO := Lib.hid (fun h => eqloop_go (a := a) (i := i0) (j := j0) (d := d1) (by omega) hij0 h)
    have HST := Lib.hid (fun h => eqloop_stop (a := a) (i := i0) (j := j0) (d := d1) h)
    rw [hI, hJ] at HGO HST
    clear hI hJ hIr hJr hij0 hi0 hpv hj0
    clear v1 v2 v3 v4
    go_upto_block 2 with fail
    go_cut [9] from 29 to 45 (fun z wx => z = .int .i64 I ∧ Hid (SrtW w blk off N d1 wx))
    case first =>
      go_wp2_with fail
      go_loopw [9] (fun s wr => ∃ i : Nat, s = .int .i64 i ∧ i0 ≤ i ∧ i ≤ j0 + 2 ∧ Hid (SrtW w blk off N d1 wr) ∧ Hid (scanUp (fun x => !ltN d1[a]! x) d1 j0 i = I)) (fun s _ => j0 + 2 - (intOf s).toNat)
      case atStart => exact ⟨i0, rfl, Nat.le_refl _, HIJ.out, HS, HI.out⟩
      case round =>
        rename World => wr
        obtain ⟨i, rfl, hi1, hi2, HS9, HR9⟩ := hrel
        by_cases hij : i ≤ j0
        · have hin : i < n := Nat.lt_of_le_of_lt hij HJN.out
          obtain ⟨xi, hxi⟩ : ∃ x, x = d1[i]! := ⟨_, rfl⟩
          have c_i := HS9.out.hold.cell (j := i) (by rw [HN.out]; exact hin)
          rw [← hxi] at c_i
          have c_a := HS9.out.hold.cell (j := a) (by rw [HN.out]; exact HAN.out)
          rw [HPV.out] at c_a
          have han := HAN.out
          obtain ⟨c, hc⟩ : ∃ c, c = ltN pv xi := ⟨_, rfl⟩
          have HLC := Lib.hid (fun w' => less_any pv xi w')
          rw [← hc] at HLC
          have HIB := Lib.hid (And.intro hi1 (And.intro hi2 hij))
          have HCC := Lib.hid (show ((fun x => !ltN d1[a]! x)) d1[i]! = !c from by rw [← hxi, hc, ← HPV.out])
          obtain ⟨i1, hi1e⟩ : ∃ i1, i1 = i + 1 := ⟨_, rfl⟩
          obtain ⟨w1, w2⟩ := next_wraps hi1e (by rw [hi1e]; exact le3 hin HNN.out)
          have HI1 := Lib.hid hi1e
          clear hi1 hi2 hxi hc hi1e
          cases c with
          | false =>
            go_wp2_with fail
            go_quiet ((go_at_call 68; with_reducible exact Calls.quiet_of_same (HLC.out _)))
            go_wp2_with fail
            clear w1 w2
            go_roundw
            case rel => exact ⟨i1, by first | rfl | go_num, by have := HIB.out; have := HI1.out; omega, by have := HIB.out; have := HI1.out; omega, Lib.hid (HS9.out.drewN _), Lib.hid (by rw [HI1.out, ← up_go (p := (fun x => !ltN d1[a]! x)) (d := d1) HIB.out.2.2 HCC.out]; exact HR9.out)⟩
            case measure => have := HIB.out; have := HI1.out; simp [intOf]; omega
          | true =>
            go_wp2_with fail
            go_quiet ((go_at_call 68; with_reducible exact Calls.quiet_of_same (HLC.out _)))
            go_wp2_with fail
            go_meet
            case rel => exact ⟨by rw [← HR9.out, up_stop (p := (fun x => !ltN d1[a]! x)) (d := d1) HCC.out], Lib.hid (HS9.out.drewN _)⟩
        · have HOV := Lib.hid hij
          clear hi1 hi2
          go_wp2_with fail
          go_quiet (fail)
          go_wp2_with fail
          go_meet
          case rel => exact ⟨by rw [← HR9.out, up_over (p := (fun x => !ltN d1[a]! x)) (d := d1) HOV.out], Lib.hid (HS9.out.drewN _)⟩
    case rest =>
      intros
      obtain ⟨rfl, HS2⟩ := hcut
      clear HI
      go_upto_block 4 with fail
      go_cut [10] from 46 to 61 (fun z wx => z = .int .i64 J ∧ Hid (SrtW w blk off N d1 wx))
      case first =>
        go_wp2_with fail
        go_loopw [10] (fun s wr => ∃ j : Nat, s = .int .i64 j ∧ I ≤ j + 2 ∧ j ≤ j0 ∧ Hid (SrtW w blk off N d1 wr) ∧ Hid (scanDown (fun x => ltN d1[a]! x) d1 I j = J)) (fun s _ => (intOf s).toNat)
        case atStart => exact ⟨j0, rfl, HIJ2.out, Nat.le_refl _, HS2, HJ.out⟩
        case round =>
          rename World => wr
          obtain ⟨j, rfl, hj1, hj2, HS9, HR9⟩ := hrel
          by_cases hij : I ≤ j
          · have hjn : j < n := Nat.lt_of_le_of_lt hj2 HJN.out
            obtain ⟨k, hk⟩ : ∃ k, j = k + 1 := ⟨j - 1, by have := HI1P.out; omega⟩
            obtain ⟨xj, hxj⟩ : ∃ x, x = d1[j]! := ⟨_, rfl⟩
            have c_j := HS9.out.hold.cell (j := j) (by rw [HN.out]; exact hjn)
            rw [← hxj] at c_j
            have c_a := HS9.out.hold.cell (j := a) (by rw [HN.out]; exact HAN.out)
            rw [HPV.out] at c_a
            have han := HAN.out
            obtain ⟨c, hc⟩ : ∃ c, c = ltN pv xj := ⟨_, rfl⟩
            have HLC := Lib.hid (fun w' => less_any pv xj w')
            rw [← hc] at HLC
            have HIB := Lib.hid (And.intro hj1 (And.intro hj2 (And.intro hij hk)))
            have HCC := Lib.hid (show ((fun x => ltN d1[a]! x)) d1[j]! = c from by rw [← hxj, hc, ← HPV.out])
            obtain ⟨w1, w2⟩ := pred_wraps hk (le2 (Nat.le_of_lt hjn) HNN.out)
            clear hj1 hj2 hxj hc hk
            cases c with
            | true =>
              go_wp2_with fail
              go_quiet ((go_at_call 68; with_reducible exact Calls.quiet_of_same (HLC.out _)))
              go_wp2_with fail
              clear w1 w2
              go_roundw
              case rel => exact ⟨k, by first | rfl | go_num, by have := HIB.out; omega, by have := HIB.out; omega, Lib.hid (HS9.out.drewN _), Lib.hid (by
                have hk := HIB.out.2.2.2
                have h1 := HR9.out
                have h2 := HCC.out
                have h3 := HIB.out.2.2.1
                rw [hk] at h1 h2 h3
                rw [← h1]
                exact (down_go (p := (fun x => ltN d1[a]! x)) (d := d1) h3 h2).symm)⟩
              case measure => have := HIB.out; simp [intOf]; omega
            | false =>
              go_wp2_with fail
              go_quiet ((go_at_call 68; with_reducible exact Calls.quiet_of_same (HLC.out _)))
              go_wp2_with fail
              go_meet
              case rel => exact ⟨by rw [← HR9.out, down_stop (p := (fun x => ltN d1[a]! x)) (d := d1) HCC.out], Lib.hid (HS9.out.drewN _)⟩
          · have HOV := Lib.hid hij
            clear hj1 hj2
            go_wp2_with fail
            go_quiet (fail)
            go_wp2_with fail
            go_meet
            case rel => exact ⟨by rw [← HR9.out, down_over (p := (fun x => ltN d1[a]! x)) (d := d1) HOV.out], Lib.hid (HS9.out.drewN _)⟩
      case rest =>
        intros
        obtain ⟨rfl, HS5⟩ := hcut
        clear HJ
        by_cases hIJ : I ≤ J
        · have hG := HRG.out
          have hIn : I < n := by have := HJN.out; omega
          have hJn : J < n := by have := HJN.out; omega
          obtain ⟨I1, hI1⟩ : ∃ I1, I1 = I + 1 := ⟨_, rfl⟩
          obtain ⟨J1, hJ1⟩ : ∃ J1, J = J1 + 1 := ⟨J - 1, by omega⟩
          have HB1 := Lib.hid (show a + 1 ≤ I1 ∧ J1 < n ∧ J1 + 2 - I1 < j0 + 2 - i0 from by omega)
          have HB2 := Lib.hid (show I1 ≤ J1 + 2 from by omega)
          have HNXT := Lib.hid (show partEqLoop ltN a I1 J1 (swp d1 I J) = R from by rw [← HRR.out, HGO.out hIJ, hI1, show J - 1 = J1 by omega])
          obtain ⟨v1, v2⟩ := next_wraps hI1 (by rw [hI1]; exact le3 hIn HNN.out)
          obtain ⟨v3, v4⟩ := pred_wraps hJ1 (le2 (Nat.le_of_lt hJn) HNN.out)
          have c_I := HS5.out.hold.cell (j := I) (by rw [HN.out]; exact hIn)
          have c_J := HS5.out.hold.cell (j := J) (by rw [HN.out]; exact hJn)
          obtain ⟨xI, hxI⟩ : ∃ x, x = d1[I]! := ⟨_, rfl⟩
          obtain ⟨xJ, hxJ⟩ : ∃ x, x = d1[J]! := ⟨_, rfl⟩
          rw [← hxI] at c_I
          rw [← hxJ] at c_J
          have f_I := HS5.out.hold.fr (off + I)
          have f_J := HS5.out.hold.fr (off + J)
          have HS3 := Lib.hid HS5.out.drew
          obtain ⟨⟨z1, k1⟩, g1⟩ := HS3.out.hold.second (i := I) (j := J) xJ (by rw [HN.out]; exact hIn) (by rw [HN.out]; exact hJn)
          obtain ⟨⟨z2, k2⟩, g2⟩ := HS5.out.hold.second (i := I) (j := J) xJ (by rw [HN.out]; exact hIn) (by rw [HN.out]; exact hJn)
          have g3 := g1 (off + J)
          have HSW := Lib.hid (show SrtW w blk off N (swp d1 I J) _ from HS3.out.swap (i := I) (j := J) (by rw [HN.out]; exact hIn) (by rw [HN.out]; exact hJn))
          rw [← hxI, ← hxJ] at HSW
          clear g1 g2 hxI hxJ
          clear hG hI1 hJ1 HGO HST
          go_wp2_with fail
          go_region
          go_wp2_with fail
          clear v1 v2 v3 v4
          go_roundw
          case rel => exact ⟨I1, J1, swp d1 I J, by first | rfl | go_num, by first | rfl | go_num, HB1.out.1, HB2.out, HB1.out.2.1, HSW, Lib.hid (by rw [swp_size]; exact HN.out), HNXT⟩
          case measure => have := HB1.out; simp [intOf]; omega
        · have HE := Lib.hid (show R = (I, d1) from by rw [← HRR.out]; exact HST.out hIJ)
          clear HGO HST
          go_wp2_with fail
          go_ret
          exact ⟨by rw [HE.out]; rfl, by rw [HE.out]; exact HS5.out⟩

end Go.Proofs.Ytkcbkimconaegaa
