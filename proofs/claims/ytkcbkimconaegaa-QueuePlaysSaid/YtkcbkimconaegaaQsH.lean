/-
  Sorting of numbers: which one is the pivot (the choice).
  Conditions: none but sizes.
-/
import Derived.Test.YtkcbkimconaegaaQsG
namespace Go.Proofs.Ytkcbkimconaegaa
open Go.RowKit
set_option linter.unusedVariables false
set_option linter.unusedSimpArgs false
set_option maxRecDepth 100000

theorem quart_wraps {a c : Nat} (hm : c = a / 4) (h : a ≤ 2000000) : Int.tdiv (a : Int) 4 = (c : Int) ∧ IntKind.i64.wrap (Int.tdiv (a : Int) 4) = (c : Int) ∧ wrap64 (Int.tdiv (a : Int) 4) = (c : Int) := by
  have e : Int.tdiv (a : Int) 4 = (c : Int) := by rw [Int.tdiv_eq_ediv_of_nonneg (by omega)]; omega
  rw [e]
  exact ⟨rfl, i64_id _ (by omega) (by omega), w64_id _ (by omega) (by omega)⟩
theorem mul_wraps {a c : Nat} (k : Int) (hm : (c : Int) = a * k) (h : c ≤ 2000000) : IntKind.i64.wrap ((a : Int) * k) = (c : Int) ∧ wrap64 ((a : Int) * k) = (c : Int) := by
  rw [← hm]
  exact ⟨i64_id _ (by omega) (by omega), w64_id _ (by omega) (by omega)⟩
set_option maxHeartbeats 4000000 in
theorem pivot_any {w : World} {blk off N cap a b n : Nat} {d : Array Nat} (h : HoldU w blk off N d) (hdn : d.size = n) (hab : a + 12 < b) (hb : b ≤ n) (hn : n ≤ 1000000) :
    Calls Try.prog 65 #[.slice (some ⟨blk, off, none⟩) n cap, .int .i64 a, .int .i64 b] w fun e w' => ∃ (p hint : Nat), e = .returned (.tuple #[.int .i64 p, .int .i64 hint]) ∧ a ≤ p ∧ p < b ∧ (hint = 0 ∨ hint = 1 ∨ hint = 2) ∧ Below w.heap.size w w' := by
  obtain ⟨l, hl⟩ : ∃ l, b = a + l := ⟨b - a, by omega⟩
  obtain ⟨q, hq⟩ : ∃ q, q = l / 4 := ⟨_, rfl⟩
  obtain ⟨q2, hq2⟩ : ∃ q2, q2 = q * 2 := ⟨_, rfl⟩
  obtain ⟨q3, hq3⟩ : ∃ q3, q3 = q * 3 := ⟨_, rfl⟩
  obtain ⟨i, hi⟩ : ∃ i, i = a + q := ⟨_, rfl⟩
  obtain ⟨j, hj⟩ : ∃ j, j = a + q2 := ⟨_, rfl⟩
  obtain ⟨k, hk⟩ : ∃ k, k = a + q3 := ⟨_, rfl⟩
  have hqn : q ≤ n ∧ q2 ≤ n ∧ q3 ≤ n ∧ i < n ∧ j < n ∧ k < n ∧ l ≤ n := by omega
  have hrg : a ≤ i ∧ i < b ∧ a ≤ j ∧ j < b ∧ a ≤ k ∧ k < b := by omega
  obtain ⟨W0, hW0⟩ : ∃ W0, W0 = w.alloc (.cells #[.int .i64 0] 3) := ⟨_, rfl⟩
  have hb0 : Below w.heap.size w W0 := by rw [hW0]; exact (Below.refl _ _).alloc (Nat.le_refl _) _
  have hbx : BoxI W0 w.heap.size 0 := by rw [hW0]; exact heap_alloc_new w _
  have h0 : RowI W0 blk off N d w.heap.size W0 := ⟨h.keep (hb0.block _ h.lt), ⟨0, hbx⟩, MovedQ.refl _ _⟩
  have HMD := Lib.hid (fun (a b c : Nat) w1 (hw : RowI W0 blk off N d w.heap.size w1) (ha : a < n) (hb : b < n) (hc : c < n) => (show Calls Try.prog 78 #[.slice (some ⟨blk, off, none⟩) n cap, .int .i64 a, .int .i64 b, .int .i64 c, .pointer (some ⟨w.heap.size, 0, none⟩)] w1 (fun e w' => ∃ x : Nat, e = .returned (.int .i64 x) ∧ (x = a ∨ x = b ∨ x = c) ∧ Hid (RowI W0 blk off N d w.heap.size w')) from by
    obtain ⟨u, hu⟩ := hw.box
    exact (median_any hw.hold hu hdn ha hb hc).mono fun e w' ⟨x, e1, e2, e3⟩ => ⟨x, e1, e2, Lib.hid (hw.trans e3)⟩))
  have HMA := Lib.hid (fun (a : Nat) w1 (hw : RowI W0 blk off N d w.heap.size w1) (h1 : 1 ≤ a) (ha : a + 1 < n) => (show Calls Try.prog 77 #[.slice (some ⟨blk, off, none⟩) n cap, .int .i64 a, .pointer (some ⟨w.heap.size, 0, none⟩)] w1 (fun e w' => ∃ x : Nat, e = .returned (.int .i64 x) ∧ a ≤ x + 1 ∧ x ≤ a + 1 ∧ Hid (RowI W0 blk off N d w.heap.size w')) from by
    obtain ⟨u, hu⟩ := hw.box
    exact (medadj_any hw.hold hu hdn h1 ha hn).mono fun e w' ⟨x, e1, e2, e3, e4⟩ => ⟨x, e1, e2, e3, Lib.hid (hw.trans e4)⟩))
  have HEND := Lib.hid (fun w1 (hw : RowI W0 blk off N d w.heap.size w1) => (show Below w.heap.size w w1 from hw.mv.below hb0 (fun k hk => by rw [hk]; exact Nat.le_refl _) hb0.size))
  have HR0 := Lib.hid h0
  have HAL := Lib.hid (And.intro hl (And.intro hq (And.intro hq2 (And.intro hq3 (And.intro hi (And.intro hj (And.intro hk (And.intro hqn (And.intro hrg (And.intro hab (And.intro hb hn)))))))))))
  have hl8 : (8 : Int) ≤ (l : Int) := by omega
  obtain ⟨a1, a2⟩ := sub_wraps hl (le2 hb hn)
  obtain ⟨a3, a4, a5⟩ := quart_wraps hq (le2 hqn.2.2.2.2.2.2 hn)
  obtain ⟨a6, a7⟩ := id_wraps (le2 hqn.1 hn)
  obtain ⟨a8, a9⟩ := mul_wraps 2 (show (q2 : Int) = q * 2 by clear a1 a2 a3 a4 a5 a6 a7; omega) (le2 hqn.2.1 hn)
  obtain ⟨a10, a11⟩ := mul_wraps 3 (show (q3 : Int) = q * 3 by clear a1 a2 a3 a4 a5 a6 a7 a8 a9; omega) (le2 hqn.2.2.1 hn)
  obtain ⟨a12, a13⟩ := add_wraps hi (le2 (Nat.le_of_lt hqn.2.2.2.1) hn)
  obtain ⟨a14, a15⟩ := add_wraps hj (le2 (Nat.le_of_lt hqn.2.2.2.2.1) hn)
  obtain ⟨a16, a17⟩ := add_wraps hk (le2 (Nat.le_of_lt hqn.2.2.2.2.2.1) hn)
  clear h hdn hab hb hn hl hq hq2 hq3 hi hj hk hqn hrg hb0 hbx h0
  by_cases h50 : 50 ≤ l
  · have h50I : (50 : Int) ≤ (l : Int) := Int.ofNat_le.2 h50
    have HB := Lib.hid (show (1 ≤ i ∧ i + 1 < n) ∧ (1 ≤ j ∧ j + 1 < n) ∧ (1 ≤ k ∧ k + 1 < n) ∧ (a + 1 ≤ i ∧ i + 1 < b) ∧ (a + 1 ≤ j ∧ j + 1 < b) ∧ (a + 1 ≤ k ∧ k + 1 < b) from by
      have := HAL.out
      clear a1 a2 a3 a4 a5 a6 a7 a8 a9 a10 a11 a12 a13 a14 a15 a16 a17
      omega)
    go_enter Try.func65, Try.ntmps65
    go_upto_region 8 with fail
    rw [← hW0]
    clear hW0 a1 a2 a3 a4 a5 a6 a7 a8 a9 a10 a11 a12 a13 a14 a15 a16 a17 h50I hl8 h50
    go_wp2_with fail
    refine (HMA.out i _ HR0.out HB.out.1.1 HB.out.1.2).mono ?_
    rintro e w1 ⟨x1, rfl, p1, p2, HR1⟩
    have HX1 := Lib.hid (And.intro p1 p2)
    clear p1 p2
    go_wp2_with fail
    refine (HMA.out j _ HR1.out HB.out.2.1.1 HB.out.2.1.2).mono ?_
    rintro e w2 ⟨x2, rfl, p1, p2, HR2⟩
    have HX2 := Lib.hid (And.intro p1 p2)
    clear p1 p2
    go_wp2_with fail
    refine (HMA.out k _ HR2.out HB.out.2.2.1.1 HB.out.2.2.1.2).mono ?_
    rintro e w3 ⟨x3, rfl, p1, p2, HR3⟩
    have HX3 := Lib.hid (And.intro p1 p2)
    clear p1 p2
    have HRX := Lib.hid (show (a ≤ x1 ∧ x1 < b) ∧ (a ≤ x2 ∧ x2 < b) ∧ (a ≤ x3 ∧ x3 < b) from by have := HB.out; have := HX1.out; have := HX2.out; have := HX3.out; omega)
    have hbn : b ≤ n := HAL.out.2.2.2.2.2.2.2.2.2.2.1
    have HBN := Lib.hid hbn
    clear hbn
    go_wp2_with fail
    refine (HMD.out x1 x2 x3 _ HR3.out (Nat.lt_of_lt_of_le HRX.out.1.2 HBN.out) (Nat.lt_of_lt_of_le HRX.out.2.1.2 HBN.out) (Nat.lt_of_lt_of_le HRX.out.2.2.2 HBN.out)).mono ?_
    rintro e w4 ⟨x4, rfl, p4, HR4⟩
    have HP := Lib.hid (show a ≤ x4 ∧ x4 < b from by have := HRX.out; rcases p4 with rfl | rfl | rfl <;> omega)
    clear p4
    obtain ⟨u, hu⟩ := HR4.out.box
    have cu := hu.c
    clear hu
    by_cases u0 : u = 0
    · subst u0
      go_wp2_with fail
      go_ret2
      exact ⟨x4, 1, rfl, HP.out.1, HP.out.2, .inr (.inl rfl), HEND.out _ HR4.out⟩
    · by_cases u12 : u = 12
      · subst u12
        go_wp2_with fail
        go_ret2
        exact ⟨x4, 2, rfl, HP.out.1, HP.out.2, .inr (.inr rfl), HEND.out _ HR4.out⟩
      · go_wp2_with fail
        go_ret2
        exact ⟨x4, 0, rfl, HP.out.1, HP.out.2, .inl rfl, HEND.out _ HR4.out⟩
  · have h50I : ¬ (50 : Int) ≤ (l : Int) := fun e => h50 (Int.ofNat_le.1 e)
    have HB := Lib.hid HAL.out.2.2.2.2.2.2.2
    go_enter Try.func65, Try.ntmps65
    go_upto_region 11 with fail
    rw [← hW0]
    clear hW0 a1 a2 a3 a4 a5 a6 a7 a8 a9 a10 a11 a12 a13 a14 a15 a16 a17 h50I hl8 h50
    go_wp2_with fail
    refine (HMD.out i j k _ HR0.out HB.out.1.2.2.2.1 HB.out.1.2.2.2.2.1 HB.out.1.2.2.2.2.2.1).mono ?_
    rintro e w4 ⟨x4, rfl, p4, HR4⟩
    have HP := Lib.hid (show a ≤ x4 ∧ x4 < b from by have := HB.out.2.1; rcases p4 with rfl | rfl | rfl <;> omega)
    clear p4
    obtain ⟨u, hu⟩ := HR4.out.box
    have cu := hu.c
    clear hu
    by_cases u0 : u = 0
    · subst u0
      go_wp2_with fail
      go_ret2
      exact ⟨x4, 1, rfl, HP.out.1, HP.out.2, .inr (.inl rfl), HEND.out _ HR4.out⟩
    · by_cases u12 : u = 12
      · subst u12
        go_wp2_with fail
        go_ret2
        exact ⟨x4, 2, rfl, HP.out.1, HP.out.2, .inr (.inr rfl), HEND.out _ HR4.out⟩
      · go_wp2_with fail
        go_ret2
        exact ⟨x4, 0, rfl, HP.out.1, HP.out.2, .inl rfl, HEND.out _ HR4.out⟩

end Go.Proofs.Ytkcbkimconaegaa
