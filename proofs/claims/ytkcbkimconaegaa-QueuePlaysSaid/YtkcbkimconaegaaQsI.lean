/-
  Sorting of numbers: a few that are out of order are put in order.
  Conditions: none but sizes.
-/
import Derived.Test.YtkcbkimconaegaaQsH
namespace Go.Proofs.Ytkcbkimconaegaa
open Go.RowKit
open Go.Sort (swp scanSorted shiftDown shiftUp partialIns partialInsertionSort)
set_option linter.unusedVariables false
set_option linter.unusedSimpArgs false
set_option maxRecDepth 100000

theorem ss_go {d : Array Nat} {b i : Nat} (h : i < b) (hl : ltN d[i]! d[i - 1]! = false) : scanSorted ltN d b i = scanSorted ltN d b (i + 1) := by
  conv => lhs; unfold scanSorted
  rw [if_pos (by simp [h, hl])]
theorem ss_stop {d : Array Nat} {b i : Nat} (hl : ltN d[i]! d[i - 1]! = true) : scanSorted ltN d b i = i := by
  unfold scanSorted
  rw [if_neg (by simp [hl])]
theorem ss_over {d : Array Nat} {b i : Nat} (h : ¬ i < b) : scanSorted ltN d b i = i := by
  unfold scanSorted
  rw [if_neg (by simp; intro a; omega)]
theorem ss_range {d : Array Nat} {b : Nat} : ∀ (m i : Nat), b - i ≤ m → i ≤ b → i ≤ scanSorted ltN d b i ∧ scanSorted ltN d b i ≤ b
  | 0, i, h, h2 => by rw [ss_over (by omega)]; omega
  | m + 1, i, h, h2 => by
    by_cases c : i < b
    · cases hp : ltN d[i]! d[i - 1]! with
      | false => rw [ss_go c hp]; have := ss_range (d := d) (b := b) m (i + 1) (by omega) (by omega); omega
      | true => rw [ss_stop hp]; omega
    · rw [ss_over c]; omega
theorem sd_go {d : Array Nat} {k : Nat} (hl : ltN d[k + 1]! d[k]! = true) : shiftDown ltN (k + 1) d = shiftDown ltN k (swp d (k + 1) k) := by
  conv => lhs; unfold shiftDown
  rw [if_neg (by simp [hl])]
theorem sd_stop {d : Array Nat} {k : Nat} (hl : ltN d[k + 1]! d[k]! = false) : shiftDown ltN (k + 1) d = d := by
  unfold shiftDown
  rw [if_pos (by simp [hl])]
theorem sd_size : ∀ (j : Nat) (d : Array Nat), (shiftDown ltN j d).size = d.size
  | 0, d => rfl
  | k + 1, d => by
    cases h : ltN d[k + 1]! d[k]! with
    | true => rw [sd_go h, sd_size k, swp_size]
    | false => rw [sd_stop h]
theorem su_go {d : Array Nat} {b j : Nat} (h : j < b) (hl : ltN d[j]! d[j - 1]! = true) : shiftUp ltN b j d = shiftUp ltN b (j + 1) (swp d j (j - 1)) := by
  conv => lhs; unfold shiftUp
  rw [if_pos h, if_neg (by simp [hl])]
theorem su_stop {d : Array Nat} {b j : Nat} (hl : ltN d[j]! d[j - 1]! = false) : shiftUp ltN b j d = d := by
  unfold shiftUp
  split
  · rw [if_pos (by simp [hl])]
  · rfl
theorem su_over {d : Array Nat} {b j : Nat} (h : ¬ j < b) : shiftUp ltN b j d = d := by
  unfold shiftUp
  rw [if_neg h]
theorem su_size : ∀ (m b j : Nat) (d : Array Nat), b - j ≤ m → (shiftUp ltN b j d).size = d.size
  | 0, b, j, d, h => by rw [su_over (by omega)]
  | m + 1, b, j, d, h => by
    by_cases c : j < b
    · cases h2 : ltN d[j]! d[j - 1]! with
      | true => rw [su_go c h2, su_size m b (j + 1) _ (by omega), swp_size]
      | false => rw [su_stop h2]
    · rw [su_over c]
/-- One step. -/
def pstep (a b I : Nat) (d : Array Nat) : Array Nat :=
  let d := swp d I (I - 1)
  let d := if I - a ≥ 2 then shiftDown ltN (I - 1) d else d
  if b - I ≥ 2 then shiftUp ltN b (I + 1) d else d
theorem pi_step {a b s i I : Nat} {d : Array Nat} (hI : scanSorted ltN d b i = I) : partialIns ltN a b (s + 1) i d = if I = b then (d, true) else if b - a < 50 then (d, false) else partialIns ltN a b s I (pstep a b I d) := by
  conv => lhs; unfold partialIns
  simp only [hI]
  rfl
theorem five_wraps {t t1 : Nat} (h : t1 = t + 1) (h2 : t < 5) : IntKind.i64.wrap ((t : Int) + 1) = (t1 : Int) ∧ wrap64 ((t : Int) + 1) = (t1 : Int) := next_wraps h (by omega)

set_option maxHeartbeats 16000000 in
theorem parti_any {w : World} {blk off N cap a b n : Nat} {d : Array Nat} (h : HoldU w blk off N d) (hdn : d.size = n) (hab : a < b) (hb : b ≤ n) (hn : n ≤ 1000000) :
    Calls Try.prog 67 #[.slice (some ⟨blk, off, none⟩) n cap, .int .i64 a, .int .i64 b] w fun e w' => e = .returned (.bool (partialInsertionSort ltN d a b).2) ∧ SrtW w blk off N (partialInsertionSort ltN d a b).1 w' := by
  have H0 := Lib.hid (SrtW.refl h)
  have HDN := Lib.hid hdn
  obtain ⟨a1, ha1⟩ : ∃ a1, a1 = a + 1 := ⟨_, rfl⟩
  have han : a < n := by omega
  have HR : Hid (partialIns ltN a b 5 a1 d = partialInsertionSort ltN d a b) := Lib.hid (by rw [ha1]; rfl)
  generalize partialInsertionSort ltN d a b = R at *
  obtain ⟨l, hl⟩ : ∃ l, b = a + l := ⟨b - a, by omega⟩
  have HAB := Lib.hid (And.intro hab (And.intro hb (And.intro hn (And.intro ha1 hl))))
  obtain ⟨v1, v2⟩ := next_wraps ha1 (by rw [ha1]; exact le3 han hn)
  obtain ⟨u1, u2⟩ := sub_wraps hl (le2 hb hn)
  clear h hdn hab hb hn ha1 hl han
  go_enter Try.func67, Try.ntmps67
  go_wp2_with fail
  go_loopw [7, 8] (fun s7 s8 wr => ∃ (i t : Nat) (d1 : Array Nat), s7 = .int .i64 i ∧ s8 = .int .i64 t ∧ a1 ≤ i ∧ i ≤ b ∧ t ≤ 5 ∧ Hid (SrtW w blk off N d1 wr) ∧ Hid (d1.size = n) ∧ Hid (partialIns ltN a b (5 - t) i d1 = R)) (fun _ s8 _ => 5 - (intOf s8).toNat)
  case atStart => exact ⟨a1, 0, d, rfl, rfl, Nat.le_refl _, by have := HAB.out; omega, by omega, H0, HDN, HR⟩
  case round =>
    clear v1 v2
    rename World => wr
    obtain ⟨i0, t, d1, rfl, rfl, hi1, hib, ht5, HS, HN, HRR⟩ := hrel
    by_cases ht : t < 5
    · have htI : (t : Int) < 5 := by clear u1 u2; omega
      obtain ⟨s, hs⟩ : ∃ s, 5 - t = s + 1 := ⟨4 - t, by clear u1 u2; omega⟩
      obtain ⟨t1, ht1⟩ : ∃ t1, t1 = t + 1 := ⟨_, rfl⟩
      obtain ⟨I, hI⟩ : ∃ I, scanSorted ltN d1 b i0 = I := ⟨_, rfl⟩
      have hIr := ss_range (d := d1) (b := b) (b - i0) i0 (Nat.le_refl _) hib
      rw [hI] at hIr
      have HST := Lib.hid (show R = if I = b then (d1, true) else if b - a < 50 then (d1, false) else partialIns ltN a b s I (pstep a b I d1) from by rw [← HRR.out, hs]; exact pi_step hI)
      have HIR := Lib.hid hIr
      have HI0 := Lib.hid (And.intro hi1 hib)
      have HII := Lib.hid (Lib.hid hI)
      have HSS := Lib.hid (show 5 - t1 = s ∧ t1 ≤ 5 ∧ t1 = t + 1 from by clear u1 u2; omega)
      obtain ⟨t2, t3⟩ := five_wraps ht1 ht
      clear hI hIr hi1 hib ht5 hs ht ht1
      go_upto_block 2 with fail
      go_cut [7] from 17 to 34 (fun z wx => z = .int .i64 I ∧ Hid (SrtW w blk off N d1 wx))
      case first =>
        clear t2 t3 u1 u2
        go_wp2_with fail
        go_loopw [7] (fun s wr => ∃ i : Nat, s = .int .i64 i ∧ i0 ≤ i ∧ i ≤ b ∧ Hid (SrtW w blk off N d1 wr) ∧ Hid (scanSorted ltN d1 b i = I)) (fun s _ => b - (intOf s).toNat)
        case atStart => exact ⟨i0, rfl, Nat.le_refl _, HI0.out.2, HS, HII.out⟩
        case round =>
          rename World => wq
          obtain ⟨i, rfl, hi1, hi2, HS9, HR9⟩ := hrel
          by_cases hij : i < b
          · have hAB := HAB.out
            have hin : i < n := by omega
            obtain ⟨k, hk⟩ : ∃ k, i = k + 1 := ⟨i - 1, by have := HI0.out; omega⟩
            have hkn : k < n := by omega
            obtain ⟨x, hx⟩ : ∃ x, x = d1[i]! := ⟨_, rfl⟩
            obtain ⟨y, hy⟩ : ∃ y, y = d1[k]! := ⟨_, rfl⟩
            have c_i := HS9.out.hold.cell (j := i) (by rw [HN.out]; exact hin)
            have c_k := HS9.out.hold.cell (j := k) (by rw [HN.out]; exact hkn)
            rw [← hx] at c_i
            rw [← hy] at c_k
            obtain ⟨c, hc⟩ : ∃ c, c = ltN x y := ⟨_, rfl⟩
            have HLC := Lib.hid (fun w' => less_any x y w')
            rw [← hc] at HLC
            have HIB := Lib.hid (And.intro hi1 (And.intro hi2 hij))
            have HCC := Lib.hid (show ltN d1[i]! d1[i - 1]! = c from by rw [hc, hx, hy, show i - 1 = k by omega])
            obtain ⟨i1, hi1e⟩ : ∃ i1, i1 = i + 1 := ⟨_, rfl⟩
            have HI1 := Lib.hid hi1e
            obtain ⟨w1, w2⟩ := next_wraps hi1e (by rw [hi1e]; exact le3 hin hAB.2.2.1)
            obtain ⟨w3, w4⟩ := pred_wraps hk (le2 (Nat.le_of_lt hin) hAB.2.2.1)
            clear hi1 hi2 hx hy hc hi1e hAB hk
            cases c with
            | false =>
              go_wp2_with fail
              go_quiet ((go_at_call 68; with_reducible exact Calls.quiet_of_same (HLC.out _)))
              go_wp2_with fail
              clear w1 w2 w3 w4
              go_roundw
              case rel => exact ⟨i1, by first | rfl | go_num, by have := HIB.out; have := HI1.out; omega, by have := HIB.out; have := HI1.out; omega, Lib.hid (HS9.out.drewN _), Lib.hid (by rw [HI1.out, ← ss_go HIB.out.2.2 HCC.out]; exact HR9.out)⟩
              case measure => have := HIB.out; have := HI1.out; simp [intOf]; omega
            | true =>
              go_wp2_with fail
              go_quiet ((go_at_call 68; with_reducible exact Calls.quiet_of_same (HLC.out _)))
              go_wp2_with fail
              go_meet
              case rel => exact ⟨by rw [← HR9.out, ss_stop HCC.out], Lib.hid (HS9.out.drewN _)⟩
          · have HOV := Lib.hid hij
            clear hi1 hi2
            go_wp2_with fail
            go_quiet (fail)
            go_wp2_with fail
            go_meet
            case rel => exact ⟨by rw [← HR9.out, ss_over HOV.out], Lib.hid (HS9.out.drewN _)⟩
      case rest =>
        intros
        rename World => wd
        obtain ⟨rfl, HS2⟩ := hcut
        clear HII
        by_cases hIb : I = b
        · have HE := Lib.hid (show R = (d1, true) from by rw [HST.out, if_pos hIb])
          subst hIb
          clear HST
          go_wp2_with fail
          go_ret
          exact ⟨by rw [HE.out]; rfl, by rw [HE.out]; exact HS2.out⟩
        · by_cases h50 : b - a < 50
          · have HE := Lib.hid (show R = (d1, false) from by rw [HST.out, if_neg hIb, if_pos h50])
            have h50I : (l : Int) < 50 := by have := HAB.out; clear u1 u2 t2 t3; omega
            clear HST
            go_wp2_with fail
            go_ret
            exact ⟨by rw [HE.out]; rfl, by rw [HE.out]; exact HS2.out⟩
          · have HE := Lib.hid (show R = partialIns ltN a b s I (pstep a b I d1) from by rw [HST.out, if_neg hIb, if_neg h50])
            have h50I : ¬ (l : Int) < 50 := by have := HAB.out; clear u1 u2 t2 t3; omega
            have hdb : decide ((I : Int) = (b : Int)) = false := by simp only [decide_eq_false_iff_not]; clear u1 u2 t2 t3; omega
            have hAB := HAB.out
            have hin : I < n := by have := HIR.out; clear u1 u2 t2 t3; omega
            obtain ⟨k, hk⟩ : ∃ k, I = k + 1 := ⟨I - 1, by have := HIR.out; have := HI0.out; clear u1 u2 t2 t3; omega⟩
            have hkn : k < n := by clear u1 u2 t2 t3; omega
            obtain ⟨m, hm⟩ : ∃ m, I = a + m := ⟨I - a, by have := HIR.out; have := HI0.out; clear u1 u2 t2 t3; omega⟩
            obtain ⟨r, hr⟩ : ∃ r, b = I + r := ⟨b - I, by have := HIR.out; clear u1 u2 t2 t3; omega⟩
            obtain ⟨I1, hI1⟩ : ∃ I1, I1 = I + 1 := ⟨_, rfl⟩
            obtain ⟨d2, hd2⟩ : ∃ d2, d2 = swp d1 I k := ⟨_, rfl⟩
            obtain ⟨d3, hd3⟩ : ∃ d3, d3 = if 2 ≤ m then shiftDown ltN k d2 else d2 := ⟨_, rfl⟩
            obtain ⟨d4, hd4⟩ : ∃ d4, d4 = if 2 ≤ r then shiftUp ltN b I1 d3 else d3 := ⟨_, rfl⟩
            have HNX := Lib.hid (show partialIns ltN a b s I d4 = R from by
              rw [HE.out]
              unfold pstep
              simp only [show I - 1 = k by clear u1 u2 t2 t3; omega, ← hI1, ← hd2]
              rw [hd4, hd3]
              by_cases c1 : 2 ≤ m
              · rw [if_pos c1, if_pos (show I - a ≥ 2 by clear u1 u2 t2 t3; omega)]
                by_cases c2 : 2 ≤ r
                · rw [if_pos c2, if_pos (show b - I ≥ 2 by clear u1 u2 t2 t3; omega)]
                · rw [if_neg c2, if_neg (show ¬ b - I ≥ 2 by clear u1 u2 t2 t3; omega)]
              · rw [if_neg c1, if_neg (show ¬ I - a ≥ 2 by clear u1 u2 t2 t3; omega)]
                by_cases c2 : 2 ≤ r
                · rw [if_pos c2, if_pos (show b - I ≥ 2 by clear u1 u2 t2 t3; omega)]
                · rw [if_neg c2, if_neg (show ¬ b - I ≥ 2 by clear u1 u2 t2 t3; omega)])
            have HN2 : Hid (d2.size = n) := Lib.hid (by rw [hd2, swp_size]; exact HN.out)
            have HN3 : Hid (d3.size = n) := Lib.hid (by rw [hd3]; split; rw [sd_size]; exact HN2.out; exact HN2.out)
            have HN4 : Hid (d4.size = n) := Lib.hid (by rw [hd4]; split; rw [su_size (b - I1) b I1 d3 (Nat.le_refl _)]; exact HN3.out; exact HN3.out)
            have HD3 := Lib.hid hd3
            have HD4 := Lib.hid hd4
            have HKK := Lib.hid (And.intro hk (And.intro hm (And.intro hr (And.intro hI1 (And.intro hkn hin)))))
            have c_I := HS2.out.hold.cell (j := I) (by rw [HN.out]; exact hin)
            have c_k := HS2.out.hold.cell (j := k) (by rw [HN.out]; exact hkn)
            obtain ⟨xI, hxI⟩ : ∃ x, x = d1[I]! := ⟨_, rfl⟩
            obtain ⟨xk, hxk⟩ : ∃ x, x = d1[k]! := ⟨_, rfl⟩
            rw [← hxI] at c_I
            rw [← hxk] at c_k
            have f_I := HS2.out.hold.fr (off + I)
            have f_k := HS2.out.hold.fr (off + k)
            have HS3 := Lib.hid HS2.out.drew
            obtain ⟨⟨z1, k1⟩, g1⟩ := HS3.out.hold.second (i := I) (j := k) xk (by rw [HN.out]; exact hin) (by rw [HN.out]; exact hkn)
            obtain ⟨⟨z2, k2⟩, g2⟩ := HS2.out.hold.second (i := I) (j := k) xk (by rw [HN.out]; exact hin) (by rw [HN.out]; exact hkn)
            have g3 := g1 (off + k)
            have HSW := Lib.hid (show SrtW w blk off N (swp d1 I k) _ from HS3.out.swap (i := I) (j := k) (by rw [HN.out]; exact hin) (by rw [HN.out]; exact hkn))
            rw [← hxI, ← hxk] at HSW
            clear g1 g2 hxI hxk
            rw [← hd2] at HSW
            obtain ⟨v1, v2⟩ := pred_wraps hk (le2 (Nat.le_of_lt hin) hAB.2.2.1)
            obtain ⟨v3, v4⟩ := sub_wraps hm (le2 (Nat.le_of_lt hin) hAB.2.2.1)
            obtain ⟨v5, v6⟩ := sub_wraps hr (le2 hAB.2.1 hAB.2.2.1)
            obtain ⟨v7, v8⟩ := next_wraps hI1 (by rw [hI1]; exact le3 hin hAB.2.2.1)
            clear HST hk hm hr hI1 hd2 hd3 hd4 hAB HE h50
            go_wp2_with fail
            go_region
            obtain ⟨W2, hW2⟩ : ∃ W2, W2 = ((wd.setCell ⟨blk, off + I, none⟩ (.int .u64 xk)).setCell ⟨blk, off + k, none⟩ (.int .u64 xI)).drew := ⟨_, rfl⟩
            rw [← hW2]
            have HS6 := Lib.hid (show SrtW w blk off N d2 W2 from by rw [hW2]; exact HSW.out)
            clear hW2 HSW HS3 k1 k2 g3 f_I f_k c_I c_k HS2 HS
            go_upto_if 61 with fail
            go_cut [9] from 62 to 94 (fun _ wx => Hid (SrtW w blk off N d3 wx))
            case first =>
              clear v5 v6 v7 v8 t2 t3
              by_cases c1 : 2 ≤ m
              · have c1I : (2 : Int) ≤ (m : Int) := Int.ofNat_le.2 c1
                have HSD := Lib.hid (show shiftDown ltN k d2 = d3 from by rw [HD3.out, if_pos c1])
                clear c1
                go_wp2_with fail
                clear v1 v2 v3 v4
                go_loopw [9] (fun s9 wr => ∃ (j : Nat) (d5 : Array Nat), s9 = .int .i64 j ∧ j ≤ k ∧ Hid (SrtW w blk off N d5 wr) ∧ Hid (d5.size = n) ∧ Hid (shiftDown ltN j d5 = d3)) (fun s9 _ => (intOf s9).toNat)
                case atStart => exact ⟨k, d2, rfl, Nat.le_refl _, HS6, HN2, HSD⟩
                case round =>
                  rename World => wq
                  obtain ⟨j, d5, rfl, hjk, HS9, HN9, HR9⟩ := hrel
                  cases j with
                  | zero =>
                    have HE : Hid (d5 = d3) := HR9
                    go_wp2_with fail
                    go_meet
                    case rel => rw [← HE.out]; exact HS9
                  | succ j1 =>
                    obtain ⟨j, hj⟩ : ∃ j, j = j1 + 1 := ⟨_, rfl⟩
                    rw [← hj] at hjk HR9 ⊢
                    have hjn : j < n := Nat.lt_of_le_of_lt hjk HKK.out.2.2.2.2.1
                    have hj1n : j1 < n := by omega
                    have hj1I : (1 : Int) ≤ (j : Int) := by omega
                    obtain ⟨x, hx⟩ : ∃ x, x = d5[j]! := ⟨_, rfl⟩
                    obtain ⟨y, hy⟩ : ∃ y, y = d5[j1]! := ⟨_, rfl⟩
                    have c_j := HS9.out.hold.cell (j := j) (by rw [HN9.out]; exact hjn)
                    have c_j1 := HS9.out.hold.cell (j := j1) (by rw [HN9.out]; exact hj1n)
                    rw [← hx] at c_j
                    rw [← hy] at c_j1
                    have f_j := HS9.out.hold.fr (off + j)
                    have f_j1 := HS9.out.hold.fr (off + j1)
                    obtain ⟨c, hc⟩ : ∃ c, c = ltN x y := ⟨_, rfl⟩
                    have HLC := Lib.hid (fun w' => less_any x y w')
                    rw [← hc] at HLC
                    have HCC := Lib.hid (show ltN d5[j1 + 1]! d5[j1]! = c from by rw [hc, hx, hy, hj])
                    have HJB := Lib.hid (And.intro hj (And.intro hjk (And.intro hx hy)))
                    obtain ⟨w3, w4⟩ := pred_wraps hj (le2 (Nat.le_of_lt hjn) HAB.out.2.2.1)
                    clear hjk hx hy hc hj
                    cases c with
                    | false =>
                      go_wp2_with fail
                      go_quiet ((go_at_call 68; with_reducible exact Calls.quiet_of_same (HLC.out _)))
                      go_wp2_with fail
                      go_meet
                      case rel => rw [← HR9.out, HJB.out.1, sd_stop HCC.out]; exact Lib.hid (HS9.out.drewN _)
                    | true =>
                      go_wp2_with fail
                      go_quiet ((go_at_call 68; with_reducible exact Calls.quiet_of_same (HLC.out _)))
                      go_wp2_with fail
                      have HS3 := Lib.hid (HS9.out.drewN (nq + 1))
                      obtain ⟨⟨z1, k1⟩, g1⟩ := HS3.out.hold.second (i := j) (j := j1) y (by rw [HN9.out]; exact hjn) (by rw [HN9.out]; exact hj1n)
                      have g3 := g1 (off + j1)
                      have HSW := Lib.hid (show SrtW w blk off N (swp d5 j j1) _ from HS3.out.swap (i := j) (j := j1) (by rw [HN9.out]; exact hjn) (by rw [HN9.out]; exact hj1n))
                      rw [← HJB.out.2.2.1, ← HJB.out.2.2.2] at HSW
                      clear g1
                      go_region
                      go_wp2_with fail
                      clear w3 w4
                      go_roundw
                      case rel => exact ⟨j1, swp d5 j j1, by first | rfl | go_num, by have := HJB.out; omega, HSW, Lib.hid (by rw [swp_size]; exact HN9.out), Lib.hid (by rw [← HR9.out]; have h3 := HJB.out.1; rw [h3]; exact (sd_go HCC.out).symm)⟩
                      case measure => have := HJB.out; simp [intOf]; omega
              · have c1I : ¬ (2 : Int) ≤ (m : Int) := fun e => c1 (Int.ofNat_le.1 e)
                have HE := Lib.hid (show d3 = d2 from by rw [HD3.out, if_neg c1])
                clear c1
                go_wp2_with fail
                go_meet
                case rel => rw [HE.out]; exact HS6
            case rest =>
              intros
              rename World => we
              have HS7 : Hid (SrtW w blk off N d3 we) := hcut
              clear v1 v2 v3 v4 HS6 HN2
              go_upto_if 98 with fail
              by_cases c1 : 2 ≤ r
              · have c1I : (2 : Int) ≤ (r : Int) := Int.ofNat_le.2 c1
                have HSU := Lib.hid (show shiftUp ltN b I1 d3 = d4 from by rw [HD4.out, if_pos c1])
                clear c1
                go_wp2_with fail
                clear v5 v6 v7 v8 u1 u2
                go_loopw [10] (fun s10 wr => ∃ (j : Nat) (d5 : Array Nat), s10 = .int .i64 j ∧ I1 ≤ j ∧ Hid (SrtW w blk off N d5 wr) ∧ Hid (d5.size = n) ∧ Hid (shiftUp ltN b j d5 = d4)) (fun s10 _ => b - (intOf s10).toNat)
                case atStart => exact ⟨I1, d3, rfl, Nat.le_refl _, HS7, HN3, HSU⟩
                case round =>
                  rename World => wq
                  obtain ⟨j, d5, rfl, hjk, HS9, HN9, HR9⟩ := hrel
                  by_cases hjb : j < b
                  · have hAB := HAB.out
                    have hjn : j < n := by omega
                    obtain ⟨j1, hj⟩ : ∃ j1, j = j1 + 1 := ⟨j - 1, by have := HKK.out; omega⟩
                    have hj1n : j1 < n := by omega
                    obtain ⟨jn, hjn2⟩ : ∃ jn, jn = j + 1 := ⟨_, rfl⟩
                    obtain ⟨x, hx⟩ : ∃ x, x = d5[j]! := ⟨_, rfl⟩
                    obtain ⟨y, hy⟩ : ∃ y, y = d5[j1]! := ⟨_, rfl⟩
                    have c_j := HS9.out.hold.cell (j := j) (by rw [HN9.out]; exact hjn)
                    have c_j1 := HS9.out.hold.cell (j := j1) (by rw [HN9.out]; exact hj1n)
                    rw [← hx] at c_j
                    rw [← hy] at c_j1
                    have f_j := HS9.out.hold.fr (off + j)
                    have f_j1 := HS9.out.hold.fr (off + j1)
                    obtain ⟨c, hc⟩ : ∃ c, c = ltN x y := ⟨_, rfl⟩
                    have HLC := Lib.hid (fun w' => less_any x y w')
                    rw [← hc] at HLC
                    have HCC := Lib.hid (show ltN d5[j]! d5[j - 1]! = c from by rw [hc, hx, hy, show j - 1 = j1 by omega])
                    have HJB := Lib.hid (And.intro hj (And.intro hjk (And.intro hx (And.intro hy (And.intro hjn2 hjb)))))
                    obtain ⟨w3, w4⟩ := pred_wraps hj (le2 (Nat.le_of_lt hjn) hAB.2.2.1)
                    obtain ⟨w5, w6⟩ := next_wraps hjn2 (by rw [hjn2]; exact le3 hjn hAB.2.2.1)
                    clear hjk hx hy hc hj hjn2 hAB
                    cases c with
                    | false =>
                      go_wp2_with fail
                      go_quiet ((go_at_call 68; with_reducible exact Calls.quiet_of_same (HLC.out _)))
                      go_wp2_with fail
                      clear t2 t3 w3 w4 w5 w6
                      go_roundw
                      case rel => exact ⟨I, t1, d4, rfl, by first | rfl | go_num, by have := HI0.out; have := HIR.out; omega, by have := HIR.out; omega, HSS.out.2.1, Lib.hid (by rw [← HR9.out, su_stop HCC.out]; exact HS9.out.drewN _), HN4, Lib.hid (by rw [HSS.out.1]; exact HNX.out)⟩
                      case measure => have := HSS.out; simp [intOf]; omega
                    | true =>
                      go_wp2_with fail
                      go_quiet ((go_at_call 68; with_reducible exact Calls.quiet_of_same (HLC.out _)))
                      go_wp2_with fail
                      have HS3 := Lib.hid (HS9.out.drewN (nq + 1))
                      obtain ⟨⟨z1, k1⟩, g1⟩ := HS3.out.hold.second (i := j) (j := j1) y (by rw [HN9.out]; exact hjn) (by rw [HN9.out]; exact hj1n)
                      have g3 := g1 (off + j1)
                      have HSW := Lib.hid (show SrtW w blk off N (swp d5 j j1) _ from HS3.out.swap (i := j) (j := j1) (by rw [HN9.out]; exact hjn) (by rw [HN9.out]; exact hj1n))
                      rw [← HJB.out.2.2.1, ← HJB.out.2.2.2.1] at HSW
                      clear g1
                      go_region
                      go_wp2_with fail
                      clear w3 w4 w5 w6
                      go_roundw
                      case rel => exact ⟨jn, swp d5 j j1, by first | rfl | go_num, by have := HJB.out; omega, HSW, Lib.hid (by rw [swp_size]; exact HN9.out), Lib.hid (by rw [← HR9.out, su_go HJB.out.2.2.2.2.2 HCC.out, HJB.out.2.2.2.2.1, show j - 1 = j1 by have := HJB.out; omega])⟩
                      case measure => have := HJB.out; simp [intOf]; omega
                  · have HE := Lib.hid (show d5 = d4 from by rw [← HR9.out, su_over hjb])
                    go_wp2_with fail
                    clear t2 t3 
                    go_roundw
                    case rel => exact ⟨I, t1, d4, rfl, by first | rfl | go_num, by have := HI0.out; have := HIR.out; omega, by have := HIR.out; omega, HSS.out.2.1, Lib.hid (by rw [← HE.out]; exact HS9.out), HN4, Lib.hid (by rw [HSS.out.1]; exact HNX.out)⟩
                    case measure => have := HSS.out; simp [intOf]; omega
              · have c1I : ¬ (2 : Int) ≤ (r : Int) := fun e => c1 (Int.ofNat_le.1 e)
                have HE := Lib.hid (show d4 = d3 from by rw [HD4.out, if_neg c1])
                clear c1
                go_wp2_with fail
                clear t2 t3 v5 v6 v7 v8 u1 u2
                go_roundw
                case rel => exact ⟨I, t1, d4, rfl, by first | rfl | go_num, by have := HI0.out; have := HIR.out; omega, by have := HIR.out; omega, HSS.out.2.1, Lib.hid (by rw [HE.out]; exact HS7.out), HN4, Lib.hid (by rw [HSS.out.1]; exact HNX.out)⟩
                case measure => have := HSS.out; simp [intOf]; omega
    · have HE := Lib.hid (show R = (d1, false) from by rw [← HRR.out, show 5 - t = 0 by clear u1 u2; omega]; rfl)
      have htI : ¬ (t : Int) < 5 := by clear u1 u2; omega
      clear ht ht5 hib hi1
      go_wp2_with fail
      go_ret
      exact ⟨by rw [HE.out]; rfl, by rw [HE.out]; exact HS.out⟩

end Go.Proofs.Ytkcbkimconaegaa
