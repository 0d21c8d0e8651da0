/-
  Sorting of numbers: a row in memory, cmp.Less, the sort of few by insertion, the turning around of a range.
  Conditions: none but sizes.
-/
import Derived.Test.YtkcbkimconaegaaQpR
import Derived.Sort.AssemblyPlain
import Derived.BigQuiet
import Derived.Deep.QuietTactic
namespace Go.Proofs.Ytkcbkimconaegaa
open Go.RowKit
open Go.Sort (swp insInner insOuter insertionSort reverseLoop reverseRange)
set_option linter.unusedVariables false
set_option linter.unusedSimpArgs false
set_option maxRecDepth 100000

def ltN (x y : Nat) : Bool := decide (x < y)
theorem swoN : Go.Sort.SWO ltN := ⟨fun x => by simp [ltN], fun x y z h1 h2 => by simp [ltN] at *; omega, fun x y z h1 h2 => by simp [ltN] at *; omega⟩

/-- The row in its block. -/
def HoldU (w : World) (blk off N : Nat) (d : Array Nat) : Prop := ∃ cs, w.heap[blk]? = some (.cells cs 22 (0, 0)) ∧ cs.size = N ∧ off + d.size ≤ N ∧ ∀ j, j < d.size → cs[off + j]? = some (.int .u64 (d[j]! : Nat))
section
variable {w w' w0 : World} {blk off N : Nat} {d : Array Nat}
theorem HoldU.cell (h : HoldU w blk off N d) {j : Nat} (hj : j < d.size) : w.cell? ⟨blk, off + j, none⟩ = some (.int .u64 (d[j]! : Nat)) := by
  obtain ⟨cs, h1, _, _, h4⟩ := h
  rw [cell_of_row _ _ _ _ _ (0, 0) h1, h4 j hj]
theorem HoldU.fr (h : HoldU w blk off N d) (i : Nat) : w.frozen? ⟨blk, i, none⟩ = false := by
  obtain ⟨cs, h1, _⟩ := h
  exact frozen_of_row w blk i _ _ h1
theorem HoldU.keep (h : HoldU w blk off N d) (hk : w'.heap[blk]? = w.heap[blk]?) : HoldU w' blk off N d := by
  obtain ⟨cs, h1, h2⟩ := h
  exact ⟨cs, hk.trans h1, h2⟩
theorem HoldU.lt (h : HoldU w blk off N d) : blk < w.heap.size := by
  obtain ⟨cs, h1, h2⟩ := h
  exact (Array.getElem?_eq_some_iff.1 h1).1
theorem get!_set {d : Array Nat} {i j x : Nat} (hi : i < d.size) : (d.setIfInBounds i x)[j]! = if j = i then x else d[j]! := by
  rw [Array.getElem!_eq_getD, Array.getElem!_eq_getD, Array.getD_eq_getD_getElem?, Array.getD_eq_getD_getElem?, Array.getElem?_setIfInBounds]
  by_cases c : i = j
  · subst c; rw [if_pos rfl, if_pos hi, if_pos rfl]; rfl
  · rw [if_neg c, if_neg (fun e => c e.symm)]
theorem swp_size (d : Array Nat) (i j : Nat) : (swp d i j).size = d.size := by simp [swp]
theorem HoldU.set (h : HoldU w blk off N d) {i : Nat} (x : Nat) (hi : i < d.size) : HoldU (w.setCell ⟨blk, off + i, none⟩ (.int .u64 x)) blk off N (d.setIfInBounds i x) := by
  obtain ⟨cs, h1, h2, h3, h4⟩ := h
  refine ⟨_, heap_setCell_same w blk (off + i) cs _ _ h1, by rw [Array.size_setIfInBounds]; exact h2, by rw [Array.size_setIfInBounds]; exact h3, fun j hj => ?_⟩
  rw [Array.size_setIfInBounds] at hj
  rw [get!_set hi]
  by_cases c : j = i
  · subst c
    rw [if_pos rfl, Array.getElem?_setIfInBounds_self, if_pos (by omega)]
  · rw [if_neg c, Array.getElem?_setIfInBounds_ne (by omega), h4 j hj]
theorem HoldU.swap (h : HoldU w blk off N d) {i j : Nat} (hi : i < d.size) (hj : j < d.size) : HoldU ((w.setCell ⟨blk, off + i, none⟩ (.int .u64 (d[j]! : Nat))).setCell ⟨blk, off + j, none⟩ (.int .u64 (d[i]! : Nat))) blk off N (swp d i j) :=
  (h.set d[j]! hi).set d[i]! (by rw [Array.size_setIfInBounds]; exact hj)
/-- A cell behind the store of another one. -/
theorem HoldU.second (h : HoldU w blk off N d) {i j : Nat} (x : Nat) (hi : i < d.size) (hj : j < d.size) : (∃ z : Nat, (w.setCell ⟨blk, off + i, none⟩ (.int .u64 x)).cell? ⟨blk, off + j, none⟩ = some (.int .u64 z)) ∧ ∀ t, (w.setCell ⟨blk, off + i, none⟩ (.int .u64 x)).frozen? ⟨blk, t, none⟩ = false :=
  ⟨⟨_, (h.set x hi).cell (by rw [Array.size_setIfInBounds]; exact hj)⟩, (h.set x hi).fr⟩
/-- The row behind what was done to it alone. -/
structure SrtW (w0 : World) (blk off N : Nat) (d : Array Nat) (w : World) : Prop where
  hold : HoldU w blk off N d
  mv : MovedQ (fun k => k = blk) w0 w
  inn : blk < w0.heap.size
theorem SrtW.refl (h : HoldU w blk off N d) : SrtW w blk off N d w := ⟨h, MovedQ.refl _ _, h.lt⟩
theorem SrtW.trans {w1 w2 : World} {d1 : Array Nat} (h : SrtW w0 blk off N d w1) (h2 : SrtW w1 blk off N d1 w2) : SrtW w0 blk off N d1 w2 := ⟨h2.hold, h.mv.trans h2.mv fun k hk => .inl hk, h.inn⟩
theorem SrtW.drewN (h : SrtW w0 blk off N d w) (n : Nat) : SrtW w0 blk off N d (w.drewN n) := ⟨h.hold.keep rfl, ⟨h.mv.os, h.mv.tape, h.mv.output, h.mv.size, h.mv.block⟩, h.inn⟩
theorem SrtW.drew (h : SrtW w0 blk off N d w) : SrtW w0 blk off N d w.drew := h.drewN 1
theorem SrtW.below (h : SrtW w0 blk off N d w) (hb : Below w.heap.size w w') : SrtW w0 blk off N d w' := ⟨h.hold.keep (hb.block _ h.hold.lt), h.mv.step hb, h.inn⟩
theorem SrtW.swap (h : SrtW w0 blk off N d w) {i j : Nat} (hi : i < d.size) (hj : j < d.size) : SrtW w0 blk off N (swp d i j) ((w.setCell ⟨blk, off + i, none⟩ (.int .u64 (d[j]! : Nat))).setCell ⟨blk, off + j, none⟩ (.int .u64 (d[i]! : Nat))) :=
  ⟨h.hold.swap hi hj, (h.mv.setCell (fun _ => rfl) _ _).setCell (fun _ => rfl) _ _, h.inn⟩
end

theorem isnan_any (x : Nat) (w : World) : Calls Try.prog 79 #[.int .u64 x] w fun e w' => e = .returned (.bool false) ∧ w' = w := by
  go_enter Try.func79, Try.ntmps79
  go_wp2_with fail
  go_ret
  exact ⟨by first | rfl | simp, rfl⟩
theorem less_any (x y : Nat) (w : World) : Calls Try.prog 68 #[.int .u64 x, .int .u64 y] w fun e w' => e = .returned (.bool (ltN x y)) ∧ w' = w := by
  have H1 := Lib.hid (isnan_any x w)
  obtain ⟨b, hb⟩ : ∃ b, b = ltN x y := ⟨_, rfl⟩
  have h2 : decide ((x : Int) < (y : Int)) = b := by rw [hb, Bool.eq_iff_iff, decide_eq_true_iff]; unfold ltN; rw [decide_eq_true_iff]; omega
  rw [← hb]
  clear hb
  go_enter Try.func68, Try.ntmps68
  go_wp2_with (go_at_call 79; refine H1.out.mono ?_; rintro e w1 ⟨rfl, rfl⟩)
  go_ret
  exact ⟨by first | rfl | (simp only [Ending.returned.injEq, Value.bool.injEq]; rw [← h2, Bool.eq_iff_iff]; simp) | (simp; rw [← h2]; simp), rfl⟩

theorem insInner_size (a : Nat) : ∀ (j : Nat) (d : Array Nat), (insInner ltN a j d).size = d.size
  | 0, d => rfl
  | j + 1, d => by
    unfold insInner
    split
    · rw [insInner_size a j, swp_size]
    · rfl
theorem insInner_go {a k : Nat} {d : Array Nat} (h : a < k + 1) (hl : ltN d[k + 1]! d[k]! = true) : insInner ltN a (k + 1) d = insInner ltN a k (swp d (k + 1) k) := by
  conv => lhs; unfold insInner
  rw [if_pos (by simp [hl]; omega)]
theorem insInner_stop {a k : Nat} {d : Array Nat} (h : ltN d[k + 1]! d[k]! = false) : insInner ltN a (k + 1) d = d := by
  unfold insInner
  rw [if_neg (by simp [h])]
theorem insInner_low {a j : Nat} {d : Array Nat} (h : j ≤ a) : insInner ltN a j d = d := by
  cases j with
  | zero => rfl
  | succ k =>
    unfold insInner
    rw [if_neg (by simp; omega)]
theorem insOuter_go {a b i : Nat} {d : Array Nat} (h : i < b) : insOuter ltN a b i d = insOuter ltN a b (i + 1) (insInner ltN a i d) := by
  conv => lhs; unfold insOuter
  rw [if_pos h]
theorem insOuter_stop {a b i : Nat} {d : Array Nat} (h : ¬ i < b) : insOuter ltN a b i d = d := by
  unfold insOuter
  rw [if_neg h]
/-- One less, and one more. -/
theorem pred_wraps {k j : Nat} (hm : j = k + 1) (h : j ≤ 2000000) : IntKind.i64.wrap ((j : Int) - 1) = (k : Int) ∧ wrap64 ((j : Int) - 1) = (k : Int) := by
  have e : (j : Int) - 1 = (k : Int) := by omega
  rw [e]
  exact ⟨i64_id _ (by omega) (by omega), w64_id _ (by omega) (by omega)⟩
theorem next_wraps {k j : Nat} (hm : j = k + 1) (h : j ≤ 2000000) : IntKind.i64.wrap ((k : Int) + 1) = (j : Int) ∧ wrap64 ((k : Int) + 1) = (j : Int) := by
  have e : (k : Int) + 1 = (j : Int) := by omega
  rw [e]
  exact ⟨i64_id _ (by omega) (by omega), w64_id _ (by omega) (by omega)⟩

set_option maxHeartbeats 4000000 in
theorem ins_any {w : World} {blk off N cap a b n : Nat} {d : Array Nat} (h : HoldU w blk off N d) (hdn : d.size = n) (hab : a ≤ b) (hb : b ≤ n) (hn : n ≤ 1000000) :
    Calls Try.prog 62 #[.slice (some ⟨blk, off, none⟩) n cap, .int .i64 a, .int .i64 b] w fun e w' => e = .returned (.tuple #[]) ∧ SrtW w blk off N (insertionSort ltN d a b) w' := by
  obtain ⟨a1, ha1⟩ : ∃ a1, a1 = a + 1 := ⟨_, rfl⟩
  obtain ⟨b1, b2⟩ := next_wraps ha1 (by omega)
  have HL := Lib.hid (fun x y w' => less_any x y w')
  have H0 := Lib.hid (SrtW.refl h)
  have HAB := Lib.hid (And.intro hab (And.intro hb hn))
  have HDN := Lib.hid hdn
  have HI : Hid (insOuter ltN a b a1 d = insertionSort ltN d a b) := Lib.hid (by rw [ha1]; rfl)
  have HA1 := Lib.hid ha1
  generalize insertionSort ltN d a b = R at *
  clear h hdn ha1 hab hb hn
  go_enter Try.func62, Try.ntmps62
  go_wp2_with fail
  go_loopw [6] (fun s6 wr => ∃ (i : Nat) (d1 : Array Nat), s6 = .int .i64 i ∧ a1 ≤ i ∧ i ≤ b + 1 ∧ Hid (SrtW w blk off N d1 wr) ∧ Hid (d1.size = n) ∧ Hid (insOuter ltN a b i d1 = R)) (fun s6 _ => b + 1 - (intOf s6).toNat)
  case atStart => exact ⟨a1, d, rfl, Nat.le_refl _, by have := HA1.out; have := HAB.out; omega, H0, HDN, HI⟩
  case round =>
    rename World => wr
    obtain ⟨i, d1, rfl, hi1, hi2, HS, HN, HR⟩ := hrel
    obtain ⟨i1, hi1e⟩ : ∃ i1, i1 = i + 1 := ⟨_, rfl⟩
    have hib : i1 ≤ 2000000 := by have := HAB.out; omega
    obtain ⟨w1, w2⟩ := next_wraps hi1e hib
    by_cases hlt : i < b
    · have hlI : (i : Int) < (b : Int) := by omega
      have HIE := Lib.hid (And.intro hi1e (And.intro hi1 (And.intro hi2 hlt)))
      clear hi1e hi1 hi2 hib hlt
      go_wp2_with fail
      go_loopw [7] (fun s7 wq => ∃ (j : Nat) (d2 : Array Nat), s7 = .int .i64 j ∧ a ≤ j ∧ j ≤ i ∧ Hid (SrtW w blk off N d2 wq) ∧ Hid (d2.size = n) ∧ Hid (insInner ltN a j d2 = insInner ltN a i d1)) (fun s7 _ => (intOf s7).toNat)
      case atStart => exact ⟨i, d1, rfl, by have := HIE.out; have := HA1.out; omega, Nat.le_refl _, HS, HN, Lib.hid rfl⟩
      case round =>
        rename World => wq
        obtain ⟨j, d2, rfl, hja, hji, HS2, HN2, HR2⟩ := hrel
        have hfin : ∀ wz, SrtW w blk off N d2 wz → insInner ltN a j d2 = d2 → Hid (SrtW w blk off N d2 wz) ∧ Hid (d2.size = n) ∧ Hid (insOuter ltN a b i1 d2 = R) := fun wz hz he => ⟨Lib.hid hz, HN2, Lib.hid (by rw [← HR.out, insOuter_go HIE.out.2.2.2, HIE.out.1, ← HR2.out, he])⟩
        have HFIN := Lib.hid hfin
        clear hfin
        by_cases hj0 : j = a
        · subst hj0
          have ht : decide ((j : Int) < (j : Int)) = false := by simp
          go_wp2_with fail
          go_quiet (fail)
          go_wp2_with fail
          go_roundw
          case rel => exact ⟨i1, d2, by go_num, by have := HIE.out; omega, by have := HIE.out; omega, (HFIN.out _ ((HS2.out.drewN _)) (insInner_low (Nat.le_refl _))).1, HN2, (HFIN.out _ HS2.out (insInner_low (Nat.le_refl _))).2.2⟩
          case measure => have := HIE.out; simp [intOf]; omega
        · obtain ⟨k, hk⟩ : ∃ k, j = k + 1 := ⟨j - 1, by omega⟩
          have hAB := HAB.out
          have hIE := HIE.out
          have hjn : j < n := by omega
          obtain ⟨x, hx⟩ : ∃ x, x = d2[j]! := ⟨_, rfl⟩
          obtain ⟨y, hy⟩ : ∃ y, y = d2[k]! := ⟨_, rfl⟩
          have cj := HS2.out.hold.cell (j := j) (by rw [HN2.out]; exact hjn)
          have ck := HS2.out.hold.cell (j := k) (by rw [HN2.out]; omega)
          rw [← hx] at cj
          rw [← hy] at ck
          obtain ⟨p1, p2⟩ := pred_wraps hk (by omega)
          have t1 : a < j := by omega
          have t2 : j < n := by omega
          have t3 : k < n := by omega
          have hl : ltN d2[k + 1]! d2[k]! = ltN x y := by rw [hx, hy, hk]
          obtain ⟨c, hc⟩ : ∃ c, c = ltN x y := ⟨_, rfl⟩
          have HLC := Lib.hid (fun w' => less_any x y w')
          rw [← hc] at HLC hl
          have HK := Lib.hid (And.intro hk (And.intro hja (And.intro hji (And.intro hj0 hjn))))
          have hsw : ∀ wz, SrtW w blk off N d2 wz → SrtW w blk off N (swp d2 j k) ((wz.setCell ⟨blk, off + j, none⟩ (.int .u64 y)).setCell ⟨blk, off + k, none⟩ (.int .u64 x)) := fun wz hz => by
            rw [hx, hy]; exact hz.swap (by rw [HN2.out]; exact hjn) (by rw [HN2.out]; omega)
          have HSW := Lib.hid hsw
          have HFR := Lib.hid (fun wz (hz : SrtW w blk off N d2 wz) i => hz.hold.fr i)
          have fj := HFR.out _ HS2.out (off + j)
          have fk := HFR.out _ HS2.out (off + k)
          clear hsw hk hja hji hj0 hjn hAB hIE hx hy
          cases c with
          | false =>
            have HST := Lib.hid (show insInner ltN a j d2 = d2 from by rw [HK.out.1]; exact insInner_stop hl)
            clear hl hc fj fk
            go_wp2_with fail
            go_quiet ((go_at_call 68; with_reducible exact Calls.quiet_of_same (HLC.out _)))
            go_wp2_with fail
            go_roundw
            case rel => exact ⟨i1, d2, by go_num, by have := HIE.out; omega, by have := HIE.out; omega, Lib.hid (HS2.out.drewN _), HN2, (HFIN.out _ HS2.out HST.out).2.2⟩
            case measure => have := HIE.out; simp [intOf]; omega
          | true =>
            have HST := Lib.hid (show insInner ltN a j d2 = insInner ltN a k (swp d2 j k) from by have := HK.out.1; have h2 := HK.out.2; rw [this]; exact insInner_go (by omega) hl)
            clear hl hc
            go_wp2_with fail
            go_quiet ((go_at_call 68; with_reducible exact Calls.quiet_of_same (HLC.out _)))
            go_wp2_with fail
            have HS3 := Lib.hid (HS2.out.drewN (nq + 1))
            obtain ⟨⟨z, ck2⟩, fk2⟩ := HS3.out.hold.second (i := j) (j := k) y (by rw [HN2.out]; exact t2) (by rw [HN2.out]; exact t3)
            have fk3 := fk2 (off + k)
            clear fk2
            go_region
            go_wp2_with fail
            go_roundw
            case rel => exact ⟨k, swp d2 j k, by go_num, by have := HK.out; omega, by have := HK.out; omega, Lib.hid (HSW.out _ HS3.out), Lib.hid (by rw [swp_size]; exact HN2.out), Lib.hid (by rw [← HST.out]; exact HR2.out)⟩
            case measure => have := HK.out; simp [intOf]; omega
    · have hlI : ¬ (i : Int) < (b : Int) := by omega
      have HE := Lib.hid (show R = d1 from by rw [← HR.out, insOuter_stop hlt])
      clear hi1e hi1 hi2 hib hlt
      go_wp2_with fail
      first | go_end0 | refine bodyPost_ret (results_none rfl _ _ _) rfl ?_
      exact ⟨rfl, by rw [HE.out]; exact HS.out⟩

end Go.Proofs.Ytkcbkimconaegaa
