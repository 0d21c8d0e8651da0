/-
  Sorting of numbers: the sort by a heap.
  Conditions: none but sizes.
-/
import Derived.Test.YtkcbkimconaegaaQsC
namespace Go.Proofs.Ytkcbkimconaegaa
open Go.RowKit
open Go.Sort (swp siftDown heapBuild heapPop heapSort)
set_option linter.unusedVariables false
set_option linter.unusedSimpArgs false
set_option maxRecDepth 100000

theorem siftDown_size (hi first : Nat) : ∀ (m r : Nat) (d : Array Nat), hi - r ≤ m → (siftDown ltN hi first r d).size = d.size
  | 0, r, d, h => by rw [sift_stop (by omega)]
  | m + 1, r, d, h => by
    by_cases c : hi ≤ 2 * r + 1
    · rw [sift_stop c]
    · rw [sift_go c rfl]
      have hc : r < childN d hi first r := by unfold childN; split <;> omega
      split
      · rw [siftDown_size hi first m _ _ (by omega), swp_size]
      · rfl
theorem sub_wraps {a b c : Nat} (hm : a = b + c) (h : a ≤ 2000000) : IntKind.i64.wrap ((a : Int) - (b : Int)) = (c : Int) ∧ wrap64 ((a : Int) - (b : Int)) = (c : Int) := by
  have e : (a : Int) - (b : Int) = (c : Int) := by omega
  rw [e]
  exact ⟨i64_id _ (by omega) (by omega), w64_id _ (by omega) (by omega)⟩
theorem half_wraps {a c : Nat} (hm : c = a / 2) (h : a ≤ 2000000) : Int.tdiv (a : Int) 2 = (c : Int) ∧ IntKind.i64.wrap (Int.tdiv (a : Int) 2) = (c : Int) ∧ wrap64 (Int.tdiv (a : Int) 2) = (c : Int) := by
  have e : Int.tdiv (a : Int) 2 = (c : Int) := by rw [Int.tdiv_eq_ediv_of_nonneg (by omega)]; omega
  rw [e]
  exact ⟨rfl, i64_id _ (by omega) (by omega), w64_id _ (by omega) (by omega)⟩
theorem neg_wraps : IntKind.i64.wrap (-1) = -1 ∧ wrap64 (-1) = -1 := ⟨i64_id _ (by omega) (by omega), w64_id _ (by omega) (by omega)⟩
theorem id_wraps {a : Nat} (h : a ≤ 2000000) : IntKind.i64.wrap (a : Int) = (a : Int) ∧ wrap64 (a : Int) = (a : Int) := ⟨i64_id _ (by omega) (by omega), w64_id _ (by omega) (by omega)⟩
/-- A counter that runs down to -1: so many rounds are left. -/
def downI (k : Nat) (v : Value) : Prop := (k = 0 ∧ v = .int .i64 (-1)) ∨ ∃ i, k = i + 1 ∧ v = .int .i64 (i : Nat)

set_option maxHeartbeats 8000000 in
theorem heap_any {w : World} {blk off N cap a b n : Nat} {d : Array Nat} (h : HoldU w blk off N d) (hdn : d.size = n) (hab : a < b) (hb : b ≤ n) (hn : n ≤ 1000000) :
    Calls Try.prog 63 #[.slice (some ⟨blk, off, none⟩) n cap, .int .i64 a, .int .i64 b] w fun e w' => e = .returned (.tuple #[]) ∧ SrtW w blk off N (heapSort ltN d a b) w' := by
  obtain ⟨hi, hhi⟩ : ∃ hi, b = a + hi := ⟨b - a, by omega⟩
  obtain ⟨h1, hh1⟩ : ∃ h1, hi = h1 + 1 := ⟨hi - 1, by omega⟩
  obtain ⟨h2, hh2⟩ : ∃ h2, h2 = h1 / 2 := ⟨_, rfl⟩
  have H0 := Lib.hid (SrtW.refl h)
  have HDN := Lib.hid hdn
  have hhn : a + hi ≤ n := by omega
  have hh1n : h1 < n := by omega
  have hh2n : h2 < n := by omega
  have han : a < n := by omega
  obtain ⟨B, hB⟩ : ∃ B, B = heapBuild ltN hi a (h2 + 1) d := ⟨_, rfl⟩
  have hR : heapSort ltN d a b = heapPop ltN a (h1 + 1) B := by
    unfold heapSort
    rw [hB, show b - a = hi by omega, show hi - 1 = h1 by omega, ← hh2, hh1]
  rw [hR]
  obtain ⟨R, hRR⟩ : ∃ R, R = heapPop ltN a (h1 + 1) B := ⟨_, rfl⟩
  rw [← hRR]
  have HB := Lib.hid hB.symm
  have HR := Lib.hid hRR.symm
  have HSI := Lib.hid (fun (lo k : Nat) (d1 : Array Nat) (w1 : World) (h : SrtW w blk off N d1 w1) (hz : d1.size = n) (hl : lo ≤ n) (hk : k ≤ hi) => show Calls Try.prog 74 #[.slice (some ⟨blk, off, none⟩) n cap, .int .i64 lo, .int .i64 k, .int .i64 a] w1 (fun e w' => e = .returned (.tuple #[]) ∧ SrtW w blk off N (siftDown ltN k a lo d1) w' ∧ (siftDown ltN k a lo d1).size = n) from
    (sift_any (cap := cap) h.hold hz hl (by omega) hn).mono fun e w' hx => ⟨hx.1, h.trans hx.2, by rw [siftDown_size k a k lo d1 (by omega)]; exact hz⟩)
  have HAB := Lib.hid (And.intro hh1 (And.intro hh2 (And.intro hhn (And.intro hh1n (And.intro hh2n (And.intro han hn))))))
  obtain ⟨a1, a2⟩ := sub_wraps hhi (le2 hb hn)
  obtain ⟨a3, a4⟩ := pred_wraps hh1 (le2 (Nat.le_trans (Nat.le_add_left hi a) hhn) hn)
  obtain ⟨a5, a6, a7⟩ := half_wraps hh2 (le2 (Nat.le_of_lt hh1n) hn)
  obtain ⟨a8, a9⟩ := neg_wraps
  obtain ⟨a10, a11⟩ := id_wraps (le2 (Nat.le_of_lt hh2n) hn)
  obtain ⟨a12, a13⟩ := id_wraps (le2 (Nat.le_of_lt hh1n) hn)
  clear h hdn hab hb hn hhi hh1 hh2 hhn hh1n hh2n hB hR hRR han
  go_enter Try.func63, Try.ntmps63
  go_wp2_with fail
  go_loopw [9] (fun s9 wr => ∃ (k : Nat) (d1 : Array Nat), downI k s9 ∧ k ≤ h2 + 1 ∧ Hid (SrtW w blk off N d1 wr) ∧ Hid (d1.size = n) ∧ Hid (heapBuild ltN hi a k d1 = B)) (fun s9 _ => ((intOf s9) + 1).toNat)
  case atStart => exact ⟨h2 + 1, d, .inr ⟨h2, rfl, rfl⟩, Nat.le_refl _, H0, HDN, HB⟩
  case round =>
    rename World => wr
    obtain ⟨k, d1, hk, hkl, HS, HN, HBB⟩ := hrel
    rcases hk with ⟨rfl, rfl⟩ | ⟨i, rfl, rfl⟩
    · have HDB : Hid (d1 = B) := HBB
      go_wp2_with fail
      go_loopw [10] (fun s10 wr => ∃ (k : Nat) (d2 : Array Nat), downI k s10 ∧ k ≤ h1 + 1 ∧ Hid (SrtW w blk off N d2 wr) ∧ Hid (d2.size = n) ∧ Hid (heapPop ltN a k d2 = R)) (fun s10 _ => ((intOf s10) + 1).toNat)
      case atStart => exact ⟨h1 + 1, d1, .inr ⟨h1, rfl, rfl⟩, Nat.le_refl _, HS, HN, by rw [HDB.out]; exact HR⟩
      case round =>
        rename World => wq
        obtain ⟨k, d2, hk, hkl2, HS2, HN2, HBB2⟩ := hrel
        rcases hk with ⟨rfl, rfl⟩ | ⟨i, rfl, rfl⟩
        · have HE : Hid (d2 = R) := HBB2
          go_wp2_with fail
          first | go_end0 | refine bodyPost_ret (results_none rfl _ _ _) rfl ?_
          exact ⟨rfl, by rw [← HE.out]; exact HS2.out⟩
        · have hAB := HAB.out
          have hin : a + i < n := by clear a1 a2 a3 a4 a5 a6 a7 a8 a9 a10 a11 a12 a13; omega
          have hin2 : i ≤ n := by clear a1 a2 a3 a4 a5 a6 a7 a8 a9 a10 a11 a12 a13; omega
          have hihi : i ≤ hi := by clear a1 a2 a3 a4 a5 a6 a7 a8 a9 a10 a11 a12 a13; omega
          have hkl' : i ≤ h1 + 1 := by clear a1 a2 a3 a4 a5 a6 a7 a8 a9 a10 a11 a12 a13; omega
          have han : a < n := hAB.2.2.2.2.2.1
          obtain ⟨f, hf⟩ : ∃ f, f = a + i := ⟨_, rfl⟩
          rw [← hf] at hin
          obtain ⟨q3, q4⟩ := add_wraps hf (le2 (Nat.le_of_lt hin) hAB.2.2.2.2.2.2)
          obtain ⟨x, hx⟩ : ∃ x, x = d2[a]! := ⟨_, rfl⟩
          obtain ⟨y, hy⟩ : ∃ y, y = d2[f]! := ⟨_, rfl⟩
          have ca := HS2.out.hold.cell (j := a) (by rw [HN2.out]; exact han)
          have cf := HS2.out.hold.cell (j := f) (by rw [HN2.out]; exact hin)
          rw [← hx] at ca
          rw [← hy] at cf
          have fa := HS2.out.hold.fr (off + a)
          have ff := HS2.out.hold.fr (off + f)
          have HS3 := Lib.hid HS2.out.drew
          obtain ⟨⟨z, ck2⟩, fk2⟩ := HS3.out.hold.second (i := a) (j := f) y (by rw [HN2.out]; exact han) (by rw [HN2.out]; exact hin)
          obtain ⟨⟨z2, ck3⟩, _⟩ := HS2.out.hold.second (i := a) (j := f) y (by rw [HN2.out]; exact han) (by rw [HN2.out]; exact hin)
          have fk4 := fk2 (off + f)
          have HSW := Lib.hid (show SrtW w blk off N (swp d2 a f) _ from HS3.out.swap (i := a) (j := f) (by rw [HN2.out]; exact han) (by rw [HN2.out]; exact hin))
          rw [← hx, ← hy] at HSW
          have HC := Lib.hid (HSI.out 0 i (swp d2 a f) _ HSW.out (by rw [swp_size]; exact HN2.out) (Nat.zero_le _) hihi)
          have HNX := Lib.hid (show heapPop ltN a i (siftDown ltN i a 0 (swp d2 a f)) = R from by rw [hf]; exact HBB2.out)
          have hz : (0 : Int) ≤ (i : Int) := Int.natCast_nonneg i
          clear fk2 hx hy hf hAB
          go_wp2_with fail
          go_region
          go_wp2_with fail
          refine HC.out.mono ?_
          rintro e w2 ⟨rfl, h2s, h2n⟩
          have H2S := Lib.hid h2s
          have H2N := Lib.hid h2n
          clear h2s h2n
          cases i with
          | zero =>
            go_wp2_with fail
            go_roundw
            case rel => exact ⟨0, _, .inl ⟨rfl, by first | rfl | go_num⟩, Nat.zero_le _, H2S, H2N, HNX⟩
            case measure => simp [intOf]
          | succ j =>
            obtain ⟨q1, q2⟩ := id_wraps (le2 (Nat.le_of_succ_le hin2) HAB.out.2.2.2.2.2.2)
            go_wp2_with fail
            clear a1 a2 a3 a4 a5 a6 a7 a8 a9 a10 a11 a12 a13 q3 q4
            go_roundw
            case rel => exact ⟨j + 1, _, .inr ⟨j, rfl, by first | rfl | (rw [q2]) | go_num⟩, hkl', H2S, H2N, HNX⟩
            case measure => (try simp only [q1, q2]); clear q1 q2; simp [intOf]; try omega
    · have hin : i ≤ n := by have := HAB.out; clear a1 a2 a3 a4 a5 a6 a7 a8 a9 a10 a11 a12 a13; omega
      have HC := Lib.hid ((HSI.out i hi d1 wr HS.out HN.out hin (Nat.le_refl _)))
      have HNX := Lib.hid (show heapBuild ltN hi a i (siftDown ltN hi a i d1) = B from HBB.out)
      have hz : (0 : Int) ≤ (i : Int) := Int.natCast_nonneg i
      have hkl' : i ≤ h2 + 1 := by clear a1 a2 a3 a4 a5 a6 a7 a8 a9 a10 a11 a12 a13; omega
      go_wp2_with fail
      refine HC.out.mono ?_
      rintro e w2 ⟨rfl, h2s, h2n⟩
      have H2S := Lib.hid h2s
      have H2N := Lib.hid h2n
      clear h2s h2n
      cases i with
      | zero =>
        go_wp2_with fail
        go_roundw
        case rel => exact ⟨0, _, .inl ⟨rfl, by first | rfl | go_num⟩, Nat.zero_le _, H2S, H2N, HNX⟩
        case measure => simp [intOf]
      | succ j =>
        obtain ⟨q1, q2⟩ := id_wraps (le2 (Nat.le_of_succ_le hin) HAB.out.2.2.2.2.2.2)
        go_wp2_with fail
        clear a1 a2 a3 a4 a5 a6 a7 a8 a9 a10 a11 a12 a13
        go_roundw
        case rel => exact ⟨j + 1, _, .inr ⟨j, rfl, by first | rfl | (rw [q2]) | go_num⟩, hkl', H2S, H2N, HNX⟩
        case measure => (try simp only [q1, q2]); clear q1 q2; simp [intOf]; try omega

end Go.Proofs.Ytkcbkimconaegaa
