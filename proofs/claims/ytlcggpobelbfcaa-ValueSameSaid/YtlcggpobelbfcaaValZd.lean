/-
  The contract of value.Find: its answer lies in new memory.
  Conditions: at most 1000 values.
-/
import Derived.Test.YtlcggpobelbfcaaValZc
namespace Go.Proofs.Ytlcggpobelbfcaa
open Go.RowKit
set_option linter.unusedVariables false
set_option linter.unusedSimpArgs false

theorem idx_cases (s : ByteArray) : ∀ (l : List ByteArray) (i : Nat), idxD s i l = -1 ∨ ∃ j : Nat, i ≤ j ∧ j < i + l.length ∧ idxD s i l = (j : Int)
  | [], i => .inl rfl
  | x :: r, i => by
    unfold idxD
    by_cases h : s = x
    · rw [if_pos h]
      exact .inr ⟨i, Nat.le_refl _, by simp, rfl⟩
    · rw [if_neg h]
      rcases idx_cases s r (i + 1) with h1 | ⟨j, h1, h2, h3⟩
      · exact .inl h1
      · exact .inr ⟨j, by omega, by simp; omega, h3⟩

/-- What Find tells: in new memory. -/
def FindVSaid (t : Tree) (s : ByteArray) (w : World) (e : Ending) (w' : World) : Prop :=
  ∃ (k n : Nat) (st : ByteArray) (kv lv : Value) (xs : List Cell5) (b : Bool), e = .returned (.tuple #[.agg #[.int .u8 k, .int .u64 n, .string st, kv, lv], .bool b]) ∧ ShowsT (lowm w.heap.size w') ((findD t s).getD tz) [.int .u8 k, .int .u64 n, .string st, kv, lv] ∧
    OwnG valC 29 w' w.heap.size lv xs ∧ xs.length = ((findD t s).getD tz).l.length ∧ b = (findD t s).isSome ∧ Below w.heap.size w w'
theorem findV_none {t : Tree} {s : ByteArray} {w w' : World} (hR : findD t s = none) (hb : Below w.heap.size w w') : FindVSaid t s w (.returned (.tuple #[.agg #[.int .u8 0, .int .u64 0, .string ⟨#[]⟩, .slice none 0 0, .slice none 0 0], .bool false])) w' := by
  refine ⟨0, 0, ⟨#[]⟩, .slice none 0 0, .slice none 0 0, [], false, rfl, ?_, OwnG.nil_ _ _ _ _, ?_, ?_, hb⟩
  · rw [hR]; exact tz_shows _
  · rw [hR]; rfl
  · rw [hR]; rfl

set_option maxRecDepth 100000 in
set_option maxHeartbeats 4000000 in
theorem vfind_any (t : Tree) (vs : List Value) (s : ByteArray) (w : World) (h : ShowsT w t vs) (hc : cntT t ≤ 1000) :
    Calls Try.prog 16 #[.agg vs.toArray, .string s] w (FindVSaid t s w) := by
  have HC := Lib.hid (fun w' (hw' : Below w.heap.size w w') => check_any t vs w' (h.kept hw' (Nat.le_refl _)))
  have HCH := Lib.hid h
  have HCP := Lib.hid (fun j (hj : j < t.l.length) vs w' hs => copied_any _ (t.l[j]'hj) vs w' rfl hs (by have := cnt_child t j hj; omega))
  obtain ⟨kv, A, c, d0, d1, cs, rfl, hk, hn, hks, hkl, hkz, hsz, hln, hlc, hcm, _⟩ := h.open
  obtain ⟨A3, c3, rfl⟩ := str_form hks
  have HKS := Lib.hid (fun w' (hw' : Below w.heap.size w w') => sindex_any (.slice A3 t.ks.length c3) d0 t.ks s w' (hks.below' hw' (Nat.le_refl _)) hkl)
  have HNONE := Lib.hid (fun w' (hR : findD t s = none) hb => findV_none (w := w) (w' := w') hR hb)
  obtain ⟨W2, hW2⟩ : ∃ W2, W2 = (w.alloc (Obj.cells #[.int .u8 t.k, .int .u64 t.n, .string t.s, .slice A3 t.ks.length c3, .slice A t.l.length c] 29)).alloc (Obj.cells #[.int .u8 0, .int .u64 0, .string ⟨#[]⟩, .slice none 0 0, .slice none 0 0] 29) := ⟨_, rfl⟩
  have hB2 : Below w.heap.size w W2 := by rw [hW2]; exact (below_boxV _ _).alloc (by simp) _
  have hX2 : BoxV W2 w.heap.size (.int .u8 t.k) (.int .u64 t.n) (.string t.s) (.slice A3 t.ks.length c3) (.slice A t.l.length c) := by rw [hW2]; exact (BoxV.new w).kept ((Below.refl _ _).alloc (Nat.le_refl _) _) (Nat.le_refl _)
  have hZ2 : BoxV W2 (w.heap.size + 1) (.int .u8 0) (.int .u64 0) (.string ⟨#[]⟩) (.slice none 0 0) (.slice none 0 0) := by
    rw [hW2]
    have := BoxV.new (v0 := .int .u8 0) (v1 := .int .u64 0) (v2 := .string ⟨#[]⟩) (v3 := .slice none 0 0) (v4 := .slice none 0 0) (w.alloc (Obj.cells #[.int .u8 t.k, .int .u64 t.n, .string t.s, .slice A3 t.ks.length c3, .slice A t.l.length c] 29))
    rw [World.size_alloc] at this
    exact this
  have HB2 := Lib.hid hB2
  have HX2 := Lib.hid hX2
  have HZ2 := Lib.hid hZ2
  by_cases hk8 : t.k = 168
  case neg =>
    have hr : findD t s = none := by unfold findD; rw [if_neg (fun h => hk8 h.1)]
    have hkI : ((t.k : Int) != 168) = true := by simp; omega
    have z0 := hZ2.c0
    have z1 := hZ2.c1
    have z2 := hZ2.c2
    have z3 := hZ2.c3
    have z4 := hZ2.c4
    have fz := hZ2.fr
    have x0 := hX2.c0
    have H5 := Lib.hid (hZ2.set5 (.int .u8 0) (.int .u64 0) (.string ⟨#[]⟩) (.slice none 0 0) (.slice none 0 0))
    have HRN := Lib.hid hr
    clear h hks hk8 hX2 hZ2 hB2 hr
    go_enter Try.func16, Try.ntmps16
    go_upto_region 1 with fail
    rw [← hW2]
    clear hW2
    go_wp2_with fail
    refine bodyPost_ret (results_row_tmp rfl _ _ (w.heap.size + 1) 29 _ (0, 0) _ rfl H5.out Try.underlying29 rfl (by kernel_rfl)) rfl ?_
    exact HNONE.out _ HRN.out (below_set5 HB2.out (Nat.le_succ _) _ _ _ _ _)
  have hkI : ((t.k : Int) != 168) = false := by simp; omega
  by_cases hc0 : checkT t = 0
  case neg =>
    have hr : findD t s = none := by unfold findD; rw [if_neg (fun h => hc0 h.2)]
    have hcI : ((checkT t : Int) != 0) = true := by simp; omega
    have HC2 := Lib.hid (HC.out _ hB2)
    have HRN := Lib.hid hr
    have x0 := hX2.c0
    have x1 := hX2.c1
    have x2 := hX2.c2
    have x3 := hX2.c3
    have x4 := hX2.c4
    clear h hks hk8 hX2 hZ2 hB2 hc0 HC hr
    generalize checkT t = C at *
    go_enter Try.func16, Try.ntmps16
    go_upto_region 1 with fail
    rw [← hW2]
    clear hW2
    go_wp2_with fail
    refine HC2.out.mono ?_
    rintro e w3 ⟨rfl, hb3⟩
    have hZ3 := HZ2.out.kept hb3 (Nat.le_refl _)
    have z0 := hZ3.c0
    have z1 := hZ3.c1
    have z2 := hZ3.c2
    have z3 := hZ3.c3
    have z4 := hZ3.c4
    have fz := hZ3.fr
    have H5 := Lib.hid (hZ3.set5 (.int .u8 0) (.int .u64 0) (.string ⟨#[]⟩) (.slice none 0 0) (.slice none 0 0))
    have hB3 := Lib.hid (HB2.out.trans (hb3.mono HB2.out.size))
    clear x0 x1 x2 x3 x4
    go_wp2_with fail
    refine bodyPost_ret (results_row_tmp rfl _ _ (w.heap.size + 1) 29 _ (0, 0) _ rfl H5.out Try.underlying29 rfl (by kernel_rfl)) rfl ?_
    exact HNONE.out _ HRN.out (below_set5 hB3.out (Nat.le_succ _) _ _ _ _ _)
  have hkl2 : t.ks.length = t.l.length := by
    have hv : validT t = true := by
      unfold checkT at hc0
      repeat' split at hc0
      all_goals first | (exact absurd hc0 (by decide)) | skip
      rename_i h1 h2 h3
      simpa using h3
    have := (hd168 hk8).1 (may_head hv)
    exact this.2.2.1
  have hRR : findD t s = if idxD s 0 t.ks < 0 then none else t.l[(idxD s 0 t.ks).toNat]? := by unfold findD; rw [if_pos ⟨hk8, hc0⟩]
  have HC2 := Lib.hid (show Calls Try.prog 28 #[.agg #[.int .u8 t.k, .int .u64 t.n, .string t.s, .slice A3 t.ks.length c3, .slice A t.l.length c]] W2 fun e w' => e = .returned (.int .i64 (0 : Nat)) ∧ Below W2.heap.size W2 w' from by
    have := HC.out _ hB2
    rw [hc0] at this
    exact this)
  have x0 := hX2.c0
  have x1 := hX2.c1
  have x2 := hX2.c2
  have x3 := hX2.c3
  have x4 := hX2.c4
  rcases idx_cases s t.ks 0 with hix | ⟨j, _, hj, hix⟩
  · have hr : findD t s = none := by rw [hRR, hix]; rfl
    have HRN := Lib.hid hr
    rw [hix] at HKS
    clear hRR h hks hk8 hX2 hZ2 hB2 hc0 HC hkl2 hr hix
    go_enter Try.func16, Try.ntmps16
    go_upto_region 1 with fail
    rw [← hW2]
    clear hW2
    go_wp2_with fail
    refine HC2.out.mono ?_
    rintro e w3 ⟨rfl, hb3⟩
    have hX3 := HX2.out.kept hb3 (Nat.le_refl _)
    have hZ3 := HZ2.out.kept hb3 (Nat.le_refl _)
    have hB3 := Lib.hid (HB2.out.trans (hb3.mono HB2.out.size))
    clear x0 x1 x2 x3 x4
    have x3 := hX3.c3
    have HI := Lib.hid (HKS.out w3 hB3.out)
    have z0 := hZ3.c0
    have z1 := hZ3.c1
    have z2 := hZ3.c2
    have z3 := hZ3.c3
    have z4 := hZ3.c4
    have fz := hZ3.fr
    have H5 := Lib.hid (hZ3.set5 (.int .u8 0) (.int .u64 0) (.string ⟨#[]⟩) (.slice none 0 0) (.slice none 0 0))
    clear hX3 hZ3 hb3
    go_wp2_with fail
    refine HI.out.mono ?_
    rintro e w4 ⟨rfl, rfl⟩
    go_wp2_with fail
    refine bodyPost_ret (results_row_tmp rfl _ _ (w.heap.size + 1) 29 _ (0, 0) _ rfl H5.out Try.underlying29 rfl (by kernel_rfl)) rfl ?_
    exact HNONE.out _ HRN.out (below_set5 hB3.out (Nat.le_succ _) _ _ _ _ _)
  · rw [Nat.zero_add] at hj
    have hjl : j < t.l.length := by omega
    have hr : findD t s = some (t.l[j]'hjl) := by
      rw [hRR, hix, if_neg (by omega)]
      simp [hjl]
    have HRN := Lib.hid hr
    rw [hix] at HKS
    have hj0 : ¬ (j : Int) < 0 := by omega
    have hjI : (j : Int) < (t.l.length : Int) := by omega
    obtain ⟨d, o, v0, v1, v2, v3, v4, rfl, hd, hch, b0, b1, b2, b3, b4⟩ := h.child j hjl
    obtain ⟨k5, n5, s5, p3, q3, r3, p4, q4, r4, hv5⟩ := hch.cells5
    simp only [List.cons.injEq, and_true] at hv5
    obtain ⟨rfl, rfl, rfl, rfl, rfl⟩ := hv5
    have HCC := Lib.hid (fun w' (hb : Below w.heap.size w w') => HCP.out j hjl _ w' (hch.kept hb (Nat.le_refl _)))
    unfold CpSaid at HCC
    have hD : ∀ (w' : World), Below w.heap.size w w' → w'.cell? ⟨d, o + j * 5, none⟩ = some (.int .u8 k5) ∧ w'.cell? ⟨d, o + j * 5 + 1, none⟩ = some (.int .u64 n5) ∧ w'.cell? ⟨d, o + j * 5 + 2, none⟩ = some (.string s5) ∧ w'.cell? ⟨d, o + j * 5 + 3, none⟩ = some (.slice p3 q3 r3) ∧ w'.cell? ⟨d, o + j * 5 + 4, none⟩ = some (.slice p4 q4 r4) :=
      fun w' hb => ⟨cell_kept b0 hb (Nat.le_refl _) hd, cell_kept b1 hb (Nat.le_refl _) hd, cell_kept b2 hb (Nat.le_refl _) hd, cell_kept b3 hb (Nat.le_refl _) hd, cell_kept b4 hb (Nat.le_refl _) hd⟩
    have HD := Lib.hid hD
    clear hRR h hks hk8 hX2 hZ2 hB2 hc0 HC hkl2 hr hix hch b0 b1 b2 b3 b4 hD
    go_enter Try.func16, Try.ntmps16
    go_upto_region 1 with fail
    rw [← hW2]
    clear hW2
    go_wp2_with fail
    refine HC2.out.mono ?_
    rintro e w3 ⟨rfl, hb3⟩
    have hX3 := HX2.out.kept hb3 (Nat.le_refl _)
    have HZ3 := Lib.hid (HZ2.out.kept hb3 (Nat.le_refl _))
    have HB3 := Lib.hid (HB2.out.trans (hb3.mono HB2.out.size))
    clear x0 x1 x2 x3 x4
    have x3 := hX3.c3
    have x4 := hX3.c4
    have HI := Lib.hid (HKS.out w3 HB3.out)
    obtain ⟨e0, e1, e2, e3, e4⟩ := HD.out w3 HB3.out
    have HC3 := Lib.hid (HCC.out w3 HB3.out)
    clear hX3 hb3
    go_wp2_with fail
    refine HI.out.mono ?_
    rintro e w4 ⟨rfl, rfl⟩
    go_wp2_with fail
    refine HC3.out.mono ?_
    rintro e w7 ⟨kv7, lv7, xs7, rfl, hsh7, ho7, hxl7, hb7⟩
    have hZ7 := HZ3.out.kept hb7 (Nat.le_refl _)
    obtain ⟨k7, m7, st7, a3, c7, d7, a4, c8, d8, hv7⟩ := hsh7.cells5
    simp only [List.cons.injEq, and_true] at hv7
    obtain ⟨hv0, hv1, hv2, hv3, hv4⟩ := hv7
    subst hv3
    subst hv4
    rw [hv0, hv1, hv2] at hsh7 ⊢
    clear hv0 hv1 hv2
    have z0 := hZ7.c0
    have z1 := hZ7.c1
    have z2 := hZ7.c2
    have z3 := hZ7.c3
    have z4 := hZ7.c4
    have fz := hZ7.fr
    have H5 := Lib.hid (hZ7.set5 (.int .u8 k7) (.int .u64 m7) (.string st7) (.slice a3 c7 d7) (.slice a4 c8 d8))
    have HSH := Lib.hid hsh7
    have HO7 := Lib.hid ho7
    have HB7 := Lib.hid (HB3.out.trans (hb7.mono HB3.out.size))
    have hlo3 := HZ3.out.lt
    have HLO := Lib.hid hlo3
    clear hsh7 ho7 hZ7 hb7 e0 e1 e2 e3 e4 x3 x4 hlo3
    go_wp2_with fail
    refine bodyPost_ret (results_row_tmp rfl _ _ (w.heap.size + 1) 29 _ (0, 0) _ rfl H5.out Try.underlying29 rfl (by kernel_rfl)) rfl ?_
    have hlo : w.heap.size + 1 < w3.heap.size := HLO.out
    refine ⟨k7, m7, st7, .slice a3 c7 d7, .slice a4 c8 d8, xs7, true, rfl, ?_, ?_, ?_, by rw [HRN.out]; rfl, below_set5 HB7.out (by omega) _ _ _ _ _⟩
    · rw [HRN.out]
      show ShowsT _ (t.l[j]'hjl) _
      exact (HSH.out.sub (((((low_set hlo _ _).trans (low_set hlo _ _)).trans (low_set hlo _ _)).trans (low_set hlo _ _)).trans (low_set hlo _ _))).sub (low_anti (by omega))
    · refine (HO7.out.mono (by omega)).keep fun g hg => ?_
      have hg2 := (HO7.out.block g hg).1
      exact keep5 w7 (w.heap.size + 1) 0 _ _ _ _ _ g (by omega)
    · rw [HRN.out]; exact hxl7

end Go.Proofs.Ytlcggpobelbfcaa
