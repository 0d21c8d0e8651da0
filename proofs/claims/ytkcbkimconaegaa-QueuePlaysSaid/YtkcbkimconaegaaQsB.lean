/-
  Sorting of numbers: a range turned around; the heap.
  Conditions: none but sizes.
-/
import Derived.Test.YtkcbkimconaegaaQsA
namespace Go.Proofs.Ytkcbkimconaegaa
open Go.RowKit
open Go.Sort (swp reverseLoop reverseRange siftDown heapBuild heapPop heapSort)
set_option linter.unusedVariables false
set_option linter.unusedSimpArgs false
set_option maxRecDepth 100000

theorem le2 {j n : Nat} (h : j ≤ n) (hn : n ≤ 1000000) : j ≤ 2000000 := by omega
theorem le3 {j n : Nat} (h : j < n) (hn : n ≤ 1000000) : j + 1 ≤ 2000000 := by omega
theorem rev_go {i j : Nat} {d : Array Nat} (h : i < j) : reverseLoop i j d = reverseLoop (i + 1) (j - 1) (swp d i j) := by
  conv => lhs; unfold reverseLoop
  rw [if_pos h]
theorem rev_stop {i j : Nat} {d : Array Nat} (h : ¬ i < j) : reverseLoop i j d = d := by
  unfold reverseLoop
  rw [if_neg h]
set_option maxHeartbeats 4000000 in
theorem reverse_any {w : World} {blk off N cap a b n : Nat} {d : Array Nat} (h : HoldU w blk off N d) (hdn : d.size = n) (hab : a < b) (hb : b ≤ n) (hn : n ≤ 1000000) :
    Calls Try.prog 66 #[.slice (some ⟨blk, off, none⟩) n cap, .int .i64 a, .int .i64 b] w fun e w' => e = .returned (.tuple #[]) ∧ SrtW w blk off N (reverseRange d a b) w' := by
  obtain ⟨b1, hb1⟩ : ∃ b1, b = b1 + 1 := ⟨b - 1, by omega⟩
  obtain ⟨p1, p2⟩ := pred_wraps hb1 (le2 hb hn)
  have H0 := Lib.hid (SrtW.refl h)
  have HAB := Lib.hid (And.intro hab (And.intro hb (And.intro hn hb1)))
  have HDN := Lib.hid hdn
  have HI : Hid (reverseLoop a b1 d = reverseRange d a b) := Lib.hid (by unfold reverseRange; rw [show b - 1 = b1 by omega])
  generalize reverseRange d a b = R at *
  clear h hdn hb1 hab hb hn
  go_enter Try.func66, Try.ntmps66
  go_wp2_with fail
  go_loopw [6, 7] (fun s6 s7 wr => ∃ (i j : Nat) (d1 : Array Nat), s6 = .int .i64 i ∧ s7 = .int .i64 j ∧ i ≤ j + 1 ∧ j < n ∧ Hid (SrtW w blk off N d1 wr) ∧ Hid (d1.size = n) ∧ Hid (reverseLoop i j d1 = R)) (fun _ s7 _ => (intOf s7).toNat)
  case atStart => exact ⟨a, b1, d, rfl, rfl, by have := HAB.out; omega, by have := HAB.out; omega, H0, HDN, HI⟩
  case round =>
    rename World => wr
    obtain ⟨i, j, d1, rfl, rfl, hij, hjn, HS, HN, HR⟩ := hrel
    by_cases hlt : i < j
    · have hAB := HAB.out
      obtain ⟨i1, hi1⟩ : ∃ i1, i1 = i + 1 := ⟨_, rfl⟩
      obtain ⟨j1, hj1⟩ : ∃ j1, j = j1 + 1 := ⟨j - 1, by omega⟩
      have hin : i < n := by omega
      obtain ⟨q1, q2⟩ := next_wraps hi1 (by rw [hi1]; exact le3 hin hAB.2.2.1)
      obtain ⟨q3, q4⟩ := pred_wraps hj1 (le2 (Nat.le_of_lt hjn) hAB.2.2.1)
      obtain ⟨x, hx⟩ : ∃ x, x = d1[i]! := ⟨_, rfl⟩
      obtain ⟨y, hy⟩ : ∃ y, y = d1[j]! := ⟨_, rfl⟩
      have ci := HS.out.hold.cell (j := i) (by rw [HN.out]; exact hin)
      have cj := HS.out.hold.cell (j := j) (by rw [HN.out]; exact hjn)
      rw [← hx] at ci
      rw [← hy] at cj
      have HS3 := Lib.hid HS.out.drew
      have fi := HS.out.hold.fr (off + i)
      have fj := HS.out.hold.fr (off + j)
      obtain ⟨⟨z0, ck0⟩, _⟩ := HS.out.hold.second (i := i) (j := j) y (by rw [HN.out]; exact hin) (by rw [HN.out]; exact hjn)
      obtain ⟨⟨z, ck2⟩, fk2⟩ := HS3.out.hold.second (i := i) (j := j) y (by rw [HN.out]; exact hin) (by rw [HN.out]; exact hjn)
      have fk3 := fk2 (off + j)
      have HSW := Lib.hid (show SrtW w blk off N (swp d1 i j) _ from HS3.out.swap (i := i) (j := j) (by rw [HN.out]; exact hin) (by rw [HN.out]; exact hjn))
      rw [← hx, ← hy] at HSW
      have HST := Lib.hid (show reverseLoop i1 j1 (swp d1 i j) = R from by rw [← HR.out, rev_go hlt, hi1, show j - 1 = j1 by omega])
      have HK := Lib.hid (And.intro hi1 (And.intro hj1 (And.intro hij hlt)))
      clear fk2 hx hy hij hi1 hj1 hAB
      go_wp2_with fail
      go_region
      go_wp2_with fail
      go_roundw
      case rel => exact ⟨i1, j1, swp d1 i j, by go_num, by go_num, by have := HK.out; omega, by have := HK.out; omega, Lib.hid HSW.out, Lib.hid (by rw [swp_size]; exact HN.out), HST⟩
      case measure => have := HK.out; simp [intOf]; omega
    · have HE := Lib.hid (show R = d1 from by rw [← HR.out, rev_stop hlt])
      clear hij hjn
      go_wp2_with fail
      first | go_end0 | refine bodyPost_ret (results_none rfl _ _ _) rfl ?_
      exact ⟨rfl, by rw [HE.out]; exact HS.out⟩

end Go.Proofs.Ytkcbkimconaegaa
