/-
  Sorting of numbers: the heap.
  Conditions: none but sizes.
-/
import Derived.Test.YtkcbkimconaegaaQsB
namespace Go.Proofs.Ytkcbkimconaegaa
open Go.RowKit
open Go.Sort (swp siftDown heapBuild heapPop heapSort)
set_option linter.unusedVariables false
set_option linter.unusedSimpArgs false
set_option maxRecDepth 100000

theorem add_wraps {a b c : Nat} (hm : c = a + b) (h : c ≤ 2000000) : IntKind.i64.wrap ((a : Int) + (b : Int)) = (c : Int) ∧ wrap64 ((a : Int) + (b : Int)) = (c : Int) := by
  have e : (a : Int) + (b : Int) = (c : Int) := by omega
  rw [e]
  exact ⟨i64_id _ (by omega) (by omega), w64_id _ (by omega) (by omega)⟩
theorem dbl_wraps {a c : Nat} (hm : c = 2 * a) (h : c ≤ 2000000) : IntKind.i64.wrap (2 * (a : Int)) = (c : Int) ∧ wrap64 (2 * (a : Int)) = (c : Int) := by
  have e : 2 * (a : Int) = (c : Int) := by omega
  rw [e]
  exact ⟨i64_id _ (by omega) (by omega), w64_id _ (by omega) (by omega)⟩
theorem next_wraps3 {k j : Nat} (hm : j = k + 1) (h : k ≤ 2000000) : IntKind.i64.wrap ((k : Int) + 1) = (j : Int) ∧ wrap64 ((k : Int) + 1) = (j : Int) := by
  have e : (k : Int) + 1 = (j : Int) := by omega
  rw [e]
  exact ⟨i64_id _ (by omega) (by omega), w64_id _ (by omega) (by omega)⟩
/-- The greater child. -/
def childN (d : Array Nat) (hi first r : Nat) : Nat := if 2 * r + 2 < hi ∧ ltN d[first + (2 * r + 1)]! d[first + (2 * r + 1) + 1]! = true then 2 * r + 2 else 2 * r + 1
theorem sift_stop {hi first r : Nat} {d : Array Nat} (h : hi ≤ 2 * r + 1) : siftDown ltN hi first r d = d := by
  rw [siftDown, dif_pos h]
theorem sift_go {hi first r c : Nat} {d : Array Nat} (h : ¬ hi ≤ 2 * r + 1) (hc : c = childN d hi first r) : siftDown ltN hi first r d = if ltN d[first + r]! d[first + c]! = true then siftDown ltN hi first c (swp d (first + r) (first + c)) else d := by
  subst hc
  rw [siftDown, dif_neg h]
  unfold childN
  by_cases h1 : 2 * r + 2 < hi ∧ ltN d[first + (2 * r + 1)]! d[first + (2 * r + 1) + 1]! = true
  · rw [if_pos (by simp [h1.2]; omega), if_pos h1]
    by_cases h2 : ltN d[first + r]! d[first + (2 * r + 2)]! = true
    · rw [if_neg (by simp [h2]), if_pos h2, dif_pos h1.1]
    · rw [if_pos (by simpa using h2), if_neg h2]
  · rw [if_neg (by simp; intro a; rw [← Bool.not_eq_true]; intro b; exact h1 ⟨by omega, b⟩), if_neg h1]
    by_cases h2 : ltN d[first + r]! d[first + (2 * r + 1)]! = true
    · rw [if_neg (by simp [h2]), if_pos h2]
    · rw [if_pos (by simpa using h2), if_neg h2]


set_option maxHeartbeats 8000000 in
theorem sift_any {w : World} {blk off N cap lo hi first n : Nat} {d : Array Nat} (h : HoldU w blk off N d) (hdn : d.size = n) (hlo : lo ≤ n) (hf : first + hi ≤ n) (hn : n ≤ 1000000) :
    Calls Try.prog 74 #[.slice (some ⟨blk, off, none⟩) n cap, .int .i64 lo, .int .i64 hi, .int .i64 first] w fun e w' => e = .returned (.tuple #[]) ∧ SrtW w blk off N (siftDown ltN hi first lo d) w' := by
  have H0 := Lib.hid (SrtW.refl h)
  have HAB := Lib.hid (And.intro hlo (And.intro hf hn))
  have HDN := Lib.hid hdn
  generalize hRR : siftDown ltN hi first lo d = R
  have HI : Hid (siftDown ltN hi first lo d = R) := Lib.hid hRR
  clear h hdn hlo hf hn hRR
  go_enter Try.func74, Try.ntmps74
  go_wp2_with fail
  go_loopw [8] (fun s8 wr => ∃ (r : Nat) (d1 : Array Nat), s8 = .int .i64 r ∧ r ≤ n ∧ Hid (SrtW w blk off N d1 wr) ∧ Hid (d1.size = n) ∧ Hid (siftDown ltN hi first r d1 = R)) (fun s8 _ => n - (intOf s8).toNat)
  case atStart => exact ⟨lo, d, rfl, HAB.out.1, H0, HDN, HI⟩
  case round =>
    rename World => wr
    obtain ⟨r, d1, rfl, hr, HS, HN, HR⟩ := hrel
    obtain ⟨m2, hm2⟩ : ∃ m2, m2 = 2 * r := ⟨_, rfl⟩
    obtain ⟨c0, hc0⟩ : ∃ c0, c0 = m2 + 1 := ⟨_, rfl⟩
    have hAB := HAB.out
    have hm2b : m2 ≤ 2000000 := by omega
    by_cases hge : hi ≤ c0
    · obtain ⟨a1, a2⟩ := dbl_wraps hm2 hm2b
      obtain ⟨a3, a4⟩ := next_wraps3 hc0 hm2b
      have HE := Lib.hid (show R = d1 from by rw [← HR.out]; exact sift_stop (by clear a1 a2 a3 a4; omega))
      clear hAB hm2 hc0 hm2b hr
      go_wp2_with fail
      first | go_end0 | refine bodyPost_ret (results_none rfl _ _ _) rfl ?_
      exact ⟨rfl, by rw [HE.out]; exact HS.out⟩
    · have hc0n : c0 < n := by omega
      have hrn : r < hi := by omega
      obtain ⟨c1, hc1⟩ : ∃ c1, c1 = c0 + 1 := ⟨_, rfl⟩
      obtain ⟨f0, hf0⟩ : ∃ f0, f0 = first + c0 := ⟨_, rfl⟩
      obtain ⟨f1, hf1⟩ : ∃ f1, f1 = f0 + 1 := ⟨_, rfl⟩
      obtain ⟨fr, hfr⟩ : ∃ fr, fr = first + r := ⟨_, rfl⟩
      have hf0n : f0 < n := by omega
      have hfrn : fr < n := by omega
      have hn6 : n ≤ 1000000 := hAB.2.2
      obtain ⟨ch, hch⟩ : ∃ ch, ch = childN d1 hi first r := ⟨_, rfl⟩
      obtain ⟨x0, hx0⟩ : ∃ x, x = d1[f0]! := ⟨_, rfl⟩
      obtain ⟨x1, hx1⟩ : ∃ x, x = d1[f1]! := ⟨_, rfl⟩
      obtain ⟨xr, hxr⟩ : ∃ x, x = d1[fr]! := ⟨_, rfl⟩
      have k0 := HS.out.hold.cell (j := f0) (by rw [HN.out]; exact hf0n)
      have kr := HS.out.hold.cell (j := fr) (by rw [HN.out]; exact hfrn)
      rw [← hx0] at k0
      rw [← hxr] at kr
      have hk1 : c1 < hi → wr.cell? ⟨blk, off + f1, none⟩ = some (.int .u64 (x1 : Nat)) ∧ f1 < n := fun hh => by
        have hf1n : f1 < n := by omega
        have := HS.out.hold.cell (j := f1) (by rw [HN.out]; exact hf1n)
        rw [← hx1] at this
        exact ⟨this, hf1n⟩
      have HCH := Lib.hid (show ch = if c1 < hi ∧ ltN x0 x1 = true then c1 else c0 from by
        rw [hch, hx0, hx1]; unfold childN
        rw [show 2 * r + 2 = c1 by omega, show first + (2 * r + 1) = f0 by omega, ← hf1, show 2 * r + 1 = c0 by omega])
      have HALL := Lib.hid (And.intro hc0 (And.intro hc1 (And.intro hf0 (And.intro hf1 (And.intro hfr (And.intro hm2 (And.intro hge (And.intro hrn (And.intro hf0n (And.intro hfrn (And.intro hx0 (And.intro hx1 (And.intro hxr hch)))))))))))))
      have HK1 := Lib.hid hk1
      have HLA := Lib.hid (fun w' => less_any x0 x1 w')
      have HST0 := Lib.hid (show siftDown ltN hi first r d1 = if ltN xr d1[first + ch]! = true then siftDown ltN hi first ch (swp d1 fr (first + ch)) else d1 from by
        rw [sift_go (c := ch) (by omega) hch, hxr, hfr])
      have HF0 := Lib.hid (show first + c0 = f0 from hf0.symm)
      have HF1 := Lib.hid (show first + c1 = f1 from by omega)
      have HX0 := Lib.hid hx0.symm
      have HM0 := Lib.hid (show r < c0 ∧ c0 ≤ n from by omega)
      have HM1 := Lib.hid (show r < c1 ∧ c1 ≤ n from by omega)
      have HX1 := Lib.hid hx1.symm
      obtain ⟨a1, a2⟩ := dbl_wraps hm2 hm2b
      obtain ⟨a3, a4⟩ := next_wraps hc0 (le2 (Nat.le_of_lt hc0n) hn6)
      obtain ⟨a5, a6⟩ := next_wraps hc1 (by rw [hc1]; exact le3 hc0n hn6)
      obtain ⟨a7, a8⟩ := add_wraps hf0 (le2 (Nat.le_of_lt hf0n) hn6)
      obtain ⟨a9, a10⟩ := next_wraps hf1 (by rw [hf1]; exact le3 hf0n hn6)
      obtain ⟨a11, a12⟩ := add_wraps hfr (le2 (Nat.le_of_lt hfrn) hn6)
      obtain ⟨a13, a14⟩ := add_wraps HF1.out.symm (by rw [hf1]; exact le3 hf0n hn6)
      clear hAB hm2 hc0 hm2b hr hc0n hrn hc1 hf0 hf1 hfr hx0 hx1 hxr hch hk1 hn6
      go_upto_region 3 with fail
      by_cases h1 : c1 < hi
      · obtain ⟨k1, hf1n⟩ := HK1.out h1
        cases hl : ltN x0 x1 with
        | true =>
          rw [hl] at HLA
          have HC := Lib.hid (show ch = c1 from by rw [HCH.out, if_pos ⟨h1, hl⟩])
          clear hl
          obtain ⟨sf, hsf⟩ : ∃ sf, sf = ltN xr x1 := ⟨_, rfl⟩
          have HLB := Lib.hid (fun w' => less_any xr x1 w')
          rw [← hsf] at HLB
          have hstep : siftDown ltN hi first r d1 = if sf = true then siftDown ltN hi first c1 (swp d1 fr f1) else d1 := by
            have h9 := HST0.out
            rw [HC.out, HF1.out, show d1[f1]! = x1 from HX1.out, ← hsf] at h9
            exact h9
          have HSTEP := Lib.hid hstep
          have fr0 := HS.out.hold.fr (off + fr)
          have fc0 := HS.out.hold.fr (off + f1)
          clear hstep hsf
          cases sf with
          | false =>
            have HE := Lib.hid (show R = d1 from by rw [← HR.out, HSTEP.out]; rfl)
            go_wp2_with fail
            go_quiet ((go_at_call 68; with_reducible exact Calls.quiet_of_same (HLA.out _)))
            go_wp2_with fail
            have HS1 := Lib.hid (HS.out.drewN nq)
            have krq : (wr.drewN nq).cell? ⟨blk, off + fr, none⟩ = some (.int .u64 (xr : Nat)) := kr
            have kcq : (wr.drewN nq).cell? ⟨blk, off + f1, none⟩ = some (.int .u64 (x1 : Nat)) := k1
            have frq : (wr.drewN nq).frozen? ⟨blk, off + fr, none⟩ = false := fr0
            have fcq : (wr.drewN nq).frozen? ⟨blk, off + f1, none⟩ = false := fc0
            generalize wr.drewN nq = W1 at HS1 krq kcq frq fcq ⊢
            clear kr k0 fr0 fc0 nq
            go_quiet ((go_at_call 68; with_reducible exact Calls.quiet_of_same (HLB.out _)))
            go_wp2_with fail
            first | go_end0 | refine bodyPost_ret (results_none rfl _ _ _) rfl ?_
            exact ⟨rfl, by rw [HE.out]; exact HS1.out.drewN _⟩
          | true =>
            have HE := Lib.hid (show siftDown ltN hi first c1 (swp d1 fr f1) = R from by rw [← HR.out, HSTEP.out]; rfl)
            go_wp2_with fail
            go_quiet ((go_at_call 68; with_reducible exact Calls.quiet_of_same (HLA.out _)))
            go_wp2_with fail
            have HS1 := Lib.hid (HS.out.drewN nq)
            have krq : (wr.drewN nq).cell? ⟨blk, off + fr, none⟩ = some (.int .u64 (xr : Nat)) := kr
            have kcq : (wr.drewN nq).cell? ⟨blk, off + f1, none⟩ = some (.int .u64 (x1 : Nat)) := k1
            have frq : (wr.drewN nq).frozen? ⟨blk, off + fr, none⟩ = false := fr0
            have fcq : (wr.drewN nq).frozen? ⟨blk, off + f1, none⟩ = false := fc0
            generalize wr.drewN nq = W1 at HS1 krq kcq frq fcq ⊢
            clear kr k0 fr0 fc0 nq
            go_quiet ((go_at_call 68; with_reducible exact Calls.quiet_of_same (HLB.out _)))
            go_wp2_with fail
            have HS3 := Lib.hid (HS1.out.drewN (nq + 1))
            have HA := HALL.out
            obtain ⟨⟨z, ck2⟩, fk2⟩ := HS3.out.hold.second (i := fr) (j := f1) x1 (by rw [HN.out]; exact hfrn) (by rw [HN.out]; exact hf1n)
            obtain ⟨⟨z2, ck3⟩, fk3⟩ := HS1.out.hold.second (i := fr) (j := f1) x1 (by rw [HN.out]; exact hfrn) (by rw [HN.out]; exact hf1n)
            have fk4 := fk2 (off + f1)
            have HSW := Lib.hid (show SrtW w blk off N (swp d1 fr f1) _ from HS3.out.swap (i := fr) (j := f1) (by rw [HN.out]; exact hfrn) (by rw [HN.out]; exact hf1n))
            rw [show d1[f1]! = x1 from HX1.out, ← HA.2.2.2.2.2.2.2.2.2.2.2.2.1] at HSW
            have HMS := Lib.hid (show r < c1 ∧ c1 ≤ n from HM1.out)
            clear fk2 fk3 HA
            go_region
            go_wp2_with fail
            clear a1 a2 a3 a4 a5 a6 a7 a8 a9 a10 a11 a12 a13 a14
            go_roundw
            case rel => exact ⟨c1, swp d1 fr f1, rfl, HMS.out.2, HSW, Lib.hid (by rw [swp_size]; exact HN.out), HE⟩
            case measure => have := HMS.out; simp [intOf]; omega
        | false =>
          rw [hl] at HLA
          have HC := Lib.hid (show ch = c0 from by rw [HCH.out, if_neg (by rw [hl]; simp)])
          clear hl
          obtain ⟨sf, hsf⟩ : ∃ sf, sf = ltN xr x0 := ⟨_, rfl⟩
          have HLB := Lib.hid (fun w' => less_any xr x0 w')
          rw [← hsf] at HLB
          have hstep : siftDown ltN hi first r d1 = if sf = true then siftDown ltN hi first c0 (swp d1 fr f0) else d1 := by
            have h9 := HST0.out
            rw [HC.out, HF0.out, show d1[f0]! = x0 from HX0.out, ← hsf] at h9
            exact h9
          have HSTEP := Lib.hid hstep
          have fr0 := HS.out.hold.fr (off + fr)
          have fc0 := HS.out.hold.fr (off + f0)
          clear hstep hsf
          cases sf with
          | false =>
            have HE := Lib.hid (show R = d1 from by rw [← HR.out, HSTEP.out]; rfl)
            go_wp2_with fail
            go_quiet ((go_at_call 68; with_reducible exact Calls.quiet_of_same (HLA.out _)))
            go_wp2_with fail
            have HS1 := Lib.hid (HS.out.drewN nq)
            have krq : (wr.drewN nq).cell? ⟨blk, off + fr, none⟩ = some (.int .u64 (xr : Nat)) := kr
            have kcq : (wr.drewN nq).cell? ⟨blk, off + f0, none⟩ = some (.int .u64 (x0 : Nat)) := k0
            have frq : (wr.drewN nq).frozen? ⟨blk, off + fr, none⟩ = false := fr0
            have fcq : (wr.drewN nq).frozen? ⟨blk, off + f0, none⟩ = false := fc0
            generalize wr.drewN nq = W1 at HS1 krq kcq frq fcq ⊢
            clear kr k0 fr0 fc0 nq
            go_quiet ((go_at_call 68; with_reducible exact Calls.quiet_of_same (HLB.out _)))
            go_wp2_with fail
            first | go_end0 | refine bodyPost_ret (results_none rfl _ _ _) rfl ?_
            exact ⟨rfl, by rw [HE.out]; exact HS1.out.drewN _⟩
          | true =>
            have HE := Lib.hid (show siftDown ltN hi first c0 (swp d1 fr f0) = R from by rw [← HR.out, HSTEP.out]; rfl)
            go_wp2_with fail
            go_quiet ((go_at_call 68; with_reducible exact Calls.quiet_of_same (HLA.out _)))
            go_wp2_with fail
            have HS1 := Lib.hid (HS.out.drewN nq)
            have krq : (wr.drewN nq).cell? ⟨blk, off + fr, none⟩ = some (.int .u64 (xr : Nat)) := kr
            have kcq : (wr.drewN nq).cell? ⟨blk, off + f0, none⟩ = some (.int .u64 (x0 : Nat)) := k0
            have frq : (wr.drewN nq).frozen? ⟨blk, off + fr, none⟩ = false := fr0
            have fcq : (wr.drewN nq).frozen? ⟨blk, off + f0, none⟩ = false := fc0
            generalize wr.drewN nq = W1 at HS1 krq kcq frq fcq ⊢
            clear kr k0 fr0 fc0 nq
            go_quiet ((go_at_call 68; with_reducible exact Calls.quiet_of_same (HLB.out _)))
            go_wp2_with fail
            have HS3 := Lib.hid (HS1.out.drewN (nq + 1))
            have HA := HALL.out
            obtain ⟨⟨z, ck2⟩, fk2⟩ := HS3.out.hold.second (i := fr) (j := f0) x0 (by rw [HN.out]; exact hfrn) (by rw [HN.out]; exact hf0n)
            obtain ⟨⟨z2, ck3⟩, fk3⟩ := HS1.out.hold.second (i := fr) (j := f0) x0 (by rw [HN.out]; exact hfrn) (by rw [HN.out]; exact hf0n)
            have fk4 := fk2 (off + f0)
            have HSW := Lib.hid (show SrtW w blk off N (swp d1 fr f0) _ from HS3.out.swap (i := fr) (j := f0) (by rw [HN.out]; exact hfrn) (by rw [HN.out]; exact hf0n))
            rw [show d1[f0]! = x0 from HX0.out, ← HA.2.2.2.2.2.2.2.2.2.2.2.2.1] at HSW
            have HMS := Lib.hid (show r < c0 ∧ c0 ≤ n from HM0.out)
            clear fk2 fk3 HA
            go_region
            go_wp2_with fail
            clear a1 a2 a3 a4 a5 a6 a7 a8 a9 a10 a11 a12 a13 a14
            go_roundw
            case rel => exact ⟨c0, swp d1 fr f0, rfl, HMS.out.2, HSW, Lib.hid (by rw [swp_size]; exact HN.out), HE⟩
            case measure => have := HMS.out; simp [intOf]; omega
      · have HC := Lib.hid (show ch = c0 from by rw [HCH.out, if_neg (fun e => h1 e.1)])
        obtain ⟨sf, hsf⟩ : ∃ sf, sf = ltN xr x0 := ⟨_, rfl⟩
        have HLB := Lib.hid (fun w' => less_any xr x0 w')
        rw [← hsf] at HLB
        have hstep : siftDown ltN hi first r d1 = if sf = true then siftDown ltN hi first c0 (swp d1 fr f0) else d1 := by
          have h9 := HST0.out
          rw [HC.out, HF0.out, show d1[f0]! = x0 from HX0.out, ← hsf] at h9
          exact h9
        have HSTEP := Lib.hid hstep
        have fr0 := HS.out.hold.fr (off + fr)
        have fc0 := HS.out.hold.fr (off + f0)
        clear hstep hsf
        cases sf with
        | false =>
          have HE := Lib.hid (show R = d1 from by rw [← HR.out, HSTEP.out]; rfl)
          go_wp2_with fail
          go_quiet (fail)
          go_wp2_with fail
          have HS1 := Lib.hid (HS.out.drewN nq)
          have krq : (wr.drewN nq).cell? ⟨blk, off + fr, none⟩ = some (.int .u64 (xr : Nat)) := kr
          have kcq : (wr.drewN nq).cell? ⟨blk, off + f0, none⟩ = some (.int .u64 (x0 : Nat)) := k0
          have frq : (wr.drewN nq).frozen? ⟨blk, off + fr, none⟩ = false := fr0
          have fcq : (wr.drewN nq).frozen? ⟨blk, off + f0, none⟩ = false := fc0
          generalize wr.drewN nq = W1 at HS1 krq kcq frq fcq ⊢
          clear kr k0 fr0 fc0 nq
          go_quiet ((go_at_call 68; with_reducible exact Calls.quiet_of_same (HLB.out _)))
          go_wp2_with fail
          first | go_end0 | refine bodyPost_ret (results_none rfl _ _ _) rfl ?_
          exact ⟨rfl, by rw [HE.out]; exact HS1.out.drewN _⟩
        | true =>
          have HE := Lib.hid (show siftDown ltN hi first c0 (swp d1 fr f0) = R from by rw [← HR.out, HSTEP.out]; rfl)
          go_wp2_with fail
          go_quiet (fail)
          go_wp2_with fail
          have HS1 := Lib.hid (HS.out.drewN nq)
          have krq : (wr.drewN nq).cell? ⟨blk, off + fr, none⟩ = some (.int .u64 (xr : Nat)) := kr
          have kcq : (wr.drewN nq).cell? ⟨blk, off + f0, none⟩ = some (.int .u64 (x0 : Nat)) := k0
          have frq : (wr.drewN nq).frozen? ⟨blk, off + fr, none⟩ = false := fr0
          have fcq : (wr.drewN nq).frozen? ⟨blk, off + f0, none⟩ = false := fc0
          generalize wr.drewN nq = W1 at HS1 krq kcq frq fcq ⊢
          clear kr k0 fr0 fc0 nq
          go_quiet ((go_at_call 68; with_reducible exact Calls.quiet_of_same (HLB.out _)))
          go_wp2_with fail
          have HS3 := Lib.hid (HS1.out.drewN (nq + 1))
          have HA := HALL.out
          obtain ⟨⟨z, ck2⟩, fk2⟩ := HS3.out.hold.second (i := fr) (j := f0) x0 (by rw [HN.out]; exact hfrn) (by rw [HN.out]; exact hf0n)
          obtain ⟨⟨z2, ck3⟩, fk3⟩ := HS1.out.hold.second (i := fr) (j := f0) x0 (by rw [HN.out]; exact hfrn) (by rw [HN.out]; exact hf0n)
          have fk4 := fk2 (off + f0)
          have HSW := Lib.hid (show SrtW w blk off N (swp d1 fr f0) _ from HS3.out.swap (i := fr) (j := f0) (by rw [HN.out]; exact hfrn) (by rw [HN.out]; exact hf0n))
          rw [show d1[f0]! = x0 from HX0.out, ← HA.2.2.2.2.2.2.2.2.2.2.2.2.1] at HSW
          have HMS := Lib.hid (show r < c0 ∧ c0 ≤ n from HM0.out)
          clear fk2 fk3 HA
          go_region
          go_wp2_with fail
          clear a1 a2 a3 a4 a5 a6 a7 a8 a9 a10 a11 a12 a13 a14
          go_roundw
          case rel => exact ⟨c0, swp d1 fr f0, rfl, HMS.out.2, HSW, Lib.hid (by rw [swp_size]; exact HN.out), HE⟩
          case measure => have := HMS.out; simp [intOf]; omega

end Go.Proofs.Ytkcbkimconaegaa
