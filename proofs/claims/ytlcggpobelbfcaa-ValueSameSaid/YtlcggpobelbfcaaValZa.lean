/-
  The contract of the document's own Find.
  Conditions: none but sizes.
-/
import Derived.Test.YtlcggpobelbfcaaValZ
import Derived.Test.YtlcggpobelbfcaaValT
import Derived.Test.YtlcggpobelbfcaaValX
namespace Go.Proofs.Ytlcggpobelbfcaa
open Go.RowKit
set_option linter.unusedVariables false
set_option linter.unusedSimpArgs false

theorem BoxV.set5 {w : World} {b : Nat} {o0 o1 o2 o3 o4 : Value} (h : BoxV w b o0 o1 o2 o3 o4) (a0 a1 a2 a3 a4 : Value) :
    BoxV (((((w.setCell ⟨b, 0, none⟩ a0).setCell ⟨b, 1, none⟩ a1).setCell ⟨b, 2, none⟩ a2).setCell ⟨b, 3, none⟩ a3).setCell ⟨b, 4, none⟩ a4) b a0 a1 a2 a3 a4 := by
  have r1 := heap_setCell_same _ b 0 _ 29 a0 h
  have r2 := heap_setCell_same _ b 1 _ 29 a1 r1
  have r3 := heap_setCell_same _ b 2 _ 29 a2 r2
  have r4 := heap_setCell_same _ b 3 _ 29 a3 r3
  exact heap_setCell_same _ b 4 _ 29 a4 r4
theorem below_set5 {B b : Nat} {w0 w : World} (hb : Below B w0 w) (h : B ≤ b) (a0 a1 a2 a3 a4 : Value) :
    Below B w0 (((((w.setCell ⟨b, 0, none⟩ a0).setCell ⟨b, 1, none⟩ a1).setCell ⟨b, 2, none⟩ a2).setCell ⟨b, 3, none⟩ a3).setCell ⟨b, 4, none⟩ a4) :=
  below_set (below_set (below_set (below_set (below_set hb h _) h _) h _) h _) h _

/-- The value that has a key. -/
noncomputable def findD (t : Tree) (s : ByteArray) : Option Tree :=
  if t.k = 168 ∧ checkT t = 0 then (if idxD s 0 t.ks < 0 then none else t.l[(idxD s 0 t.ks).toNat]?) else none
def tz : Tree := .node 0 0 ⟨#[]⟩ [] []
/-- What Find tells. -/
def FindSaid (t : Tree) (s : ByteArray) (w : World) (e : Ending) (w' : World) : Prop :=
  ∃ vs b, e = .returned (.tuple #[.agg vs.toArray, .bool b]) ∧ ShowsT w' ((findD t s).getD tz) vs ∧ b = (findD t s).isSome ∧ Below w.heap.size w w'
theorem tz_shows (w : World) : ShowsT w tz [.int .u8 (0 : Nat), .int .u64 (0 : Nat), .string ⟨#[]⟩, .slice none 0 0, .slice none 0 0] :=
  ShowsT.make (k := 0) (n := 0) (s := ⟨#[]⟩) (ks := []) (l := []) (by decide) (by decide) (ShowsG.nil_ _ _ 0) (by simp) (by simp) (Nat.zero_le _) (ListT.nil _)

set_option maxRecDepth 100000 in
set_option maxHeartbeats 4000000 in
theorem qfind_any (t : Tree) (vs : List Value) (s : ByteArray) (w : World) (h : ShowsT w t vs) :
    Calls Try.prog 17 #[.agg vs.toArray, .string s] w (FindSaid t s w) := by
  have HC := Lib.hid (fun w' (hw' : Below w.heap.size w w') => qcheck_any t vs w' (h.kept hw' (Nat.le_refl _)))
  have HCH := Lib.hid h
  obtain ⟨kv, A, c, d0, d1, cs, rfl, hk, hn, hks, hkl, hkz, hsz, hln, hlc, hcm, _⟩ := h.open
  obtain ⟨A3, c3, rfl⟩ := str_form hks
  have HKS := Lib.hid (fun w' (hw' : Below w.heap.size w w') => hks.below' hw' (Nat.le_refl _))
  obtain ⟨R, hR⟩ : ∃ R, R = findD t s := ⟨_, rfl⟩
  unfold FindSaid
  rw [← hR]
  by_cases hk8 : t.k = 168
  case neg =>
    have hr : R = none := by rw [hR]; unfold findD; rw [if_neg (fun h => hk8 h.1)]
    subst hr
    have hkI : ((t.k : Int) != 168) = true := by simp; omega
    clear hR h hks hk8
    go_enter Try.func17, Try.ntmps17
    go_wp2_with fail
    exact bodyPost_ret (results_row_tmp rfl _ _ (w.heap.size + 1) 29 _ (0, 0) _ rfl (by have := BoxV.new (v0 := .int .u8 0) (v1 := .int .u64 0) (v2 := .string ⟨#[]⟩) (v3 := .slice none 0 0) (v4 := .slice none 0 0) (w.alloc (Obj.cells #[.int .u8 t.k, .int .u64 t.n, .string t.s, .slice A3 t.ks.length c3, .slice A t.l.length c] 29)); rw [World.size_alloc] at this; exact this) Try.underlying29 rfl (by kernel_rfl)) rfl ⟨[.int .u8 0, .int .u64 0, .string ⟨#[]⟩, .slice none 0 0, .slice none 0 0], false, rfl, tz_shows _, rfl, (below_boxV _ _).alloc (by simp) _⟩
  have hkI : ((t.k : Int) != 168) = false := by simp; omega
  obtain ⟨W2, hW2⟩ : ∃ W2, W2 = (w.alloc (Obj.cells #[.int .u8 t.k, .int .u64 t.n, .string t.s, .slice A3 t.ks.length c3, .slice A t.l.length c] 29)).alloc (Obj.cells #[.int .u8 0, .int .u64 0, .string ⟨#[]⟩, .slice none 0 0, .slice none 0 0] 29) := ⟨_, rfl⟩
  have hB2 : Below w.heap.size w W2 := by rw [hW2]; exact (below_boxV _ _).alloc (by simp) _
  have hX2 : BoxV W2 w.heap.size (.int .u8 t.k) (.int .u64 t.n) (.string t.s) (.slice A3 t.ks.length c3) (.slice A t.l.length c) := by rw [hW2]; exact (BoxV.new w).kept ((Below.refl _ _).alloc (Nat.le_refl _) _) (Nat.le_refl _)
  have hZ2 : BoxV W2 (w.heap.size + 1) (.int .u8 0) (.int .u64 0) (.string ⟨#[]⟩) (.slice none 0 0) (.slice none 0 0) := by
    rw [hW2]
    have := BoxV.new (v0 := .int .u8 0) (v1 := .int .u64 0) (v2 := .string ⟨#[]⟩) (v3 := .slice none 0 0) (v4 := .slice none 0 0) (w.alloc (Obj.cells #[.int .u8 t.k, .int .u64 t.n, .string t.s, .slice A3 t.ks.length c3, .slice A t.l.length c] 29))
    rw [World.size_alloc] at this
    exact this
  have HB2 := Lib.hid hB2
  have HX2 := Lib.hid hX2
  have HZ2 := Lib.hid hZ2
  by_cases hc : checkT t = 0
  case neg =>
    have hr : R = none := by rw [hR]; unfold findD; rw [if_neg (fun h => hc h.2)]
    subst hr
    have hcI : ((checkT t : Int) != 0) = true := by simp; omega
    have HC2 := Lib.hid (HC.out _ hB2)
    clear hR h hks hk8 hX2 hZ2 hB2 hc HC
    generalize checkT t = C at *
    go_enter Try.func17, Try.ntmps17
    go_wp2_with fail
    rw [← hW2]
    clear hW2
    refine HC2.out.mono ?_
    rintro e w3 ⟨rfl, hb3⟩
    have hZ3 := HZ2.out.kept hb3 (Nat.le_refl _)
    have z0 := hZ3.c0
    have z1 := hZ3.c1
    have z2 := hZ3.c2
    have z3 := hZ3.c3
    have z4 := hZ3.c4
    have fz := hZ3.fr
    have H5 := Lib.hid (hZ3.set5 (.int .u8 0) (.int .u64 0) (.string ⟨#[]⟩) (.slice none 0 0) (.slice none 0 0))
    have hB3 := HB2.out.trans (hb3.mono HB2.out.size)
    go_wp2_with fail
    exact bodyPost_ret (results_row_tmp rfl _ _ (w.heap.size + 1) 29 _ (0, 0) _ rfl H5.out Try.underlying29 rfl (by kernel_rfl)) rfl ⟨[.int .u8 0, .int .u64 0, .string ⟨#[]⟩, .slice none 0 0, .slice none 0 0], false, rfl, tz_shows _, rfl, below_set5 hB3 (by omega) _ _ _ _ _⟩
  have hkl2 : t.ks.length = t.l.length := by
    have hv : validT t = true := by
      unfold checkT at hc
      repeat' split at hc
      all_goals first | (exact absurd hc (by decide)) | skip
      rename_i h1 h2 h3
      simpa using h3
    have := (hd168 hk8).1 (may_head hv)
    exact this.2.2.1
  have hRR : R = if idxD s 0 t.ks < 0 then none else t.l[(idxD s 0 t.ks).toNat]? := by rw [hR]; unfold findD; rw [if_pos ⟨hk8, hc⟩]
  have HRR := Lib.hid hRR
  have HC2 := Lib.hid (show Calls Try.prog 36 #[.agg #[.int .u8 t.k, .int .u64 t.n, .string t.s, .slice A3 t.ks.length c3, .slice A t.l.length c]] W2 fun e w' => e = .returned (.int .i64 (0 : Nat)) ∧ Below W2.heap.size W2 w' from by
    have := HC.out _ hB2
    rw [hc] at this
    exact this)
  obtain ⟨n, hn⟩ : ∃ n, n = t.ks.length := ⟨_, rfl⟩
  have HN := Lib.hid hn
  have HKL := Lib.hid hkl2
  have hzz : W2.heap.size = W2.heap.size := rfl
  clear hR hRR h hks hk8 hX2 hZ2 hB2 hc HC hn hkl2 hzz
  go_enter Try.func17, Try.ntmps17
  go_wp2_with fail
  rw [← hW2]
  clear hW2
  refine HC2.out.mono ?_
  rintro e w3 ⟨rfl, hb3⟩
  have hB3 := HB2.out.trans (hb3.mono HB2.out.size)
  have hX3 := HX2.out.kept hb3 (Nat.le_refl _)
  have hZ3 := HZ2.out.kept hb3 (Nat.le_refl _)
  have x3 := hX3.c3
  have x4 := hX3.c4
  have z0 := hZ3.c0
  have z1 := hZ3.c1
  have z2 := hZ3.c2
  have z3 := hZ3.c3
  have z4 := hZ3.c4
  have fz := hZ3.fr
  have H5 := Lib.hid (fun a0 a1 a2 a3 a4 => hZ3.set5 a0 a1 a2 a3 a4)
  have HB3 := Lib.hid hB3
  have HCELL := Lib.hid (fun j hj => str_cell (HKS.out w3 hB3) j hj)
  have HCHI := Lib.hid (fun j (hj : j < t.l.length) => HCH.out.child j hj)
  clear hB3 hX3 hZ3 hb3
  go_wp2_with fail
  go_loopw [6] (fun i wr => wr = w3 ∧ ∃ j : Nat, j ≤ t.ks.length ∧ i = .int .i64 j ∧ Hid (∀ q (h : q < t.ks.length), q < j → t.ks[q] ≠ s)) (fun i _ => t.ks.length - (intOf i).toNat)
  case atStart => exact ⟨rfl, 0, by omega, rfl, Lib.hid fun q _ h => absurd h (by omega)⟩
  case round =>
    obtain ⟨rfl, j, hj, rfl, hlo⟩ := hrel
    by_cases hlt : j < t.ks.length
    · have hjl : (j : Int) < (t.ks.length : Int) := by omega
      have hltl : j < t.l.length := by rw [← HKL.out]; exact hlt
      have hjll : (j : Int) < (t.l.length : Int) := by omega
      obtain ⟨o, c', hA, hcell⟩ := HCELL.out j hlt
      simp only [Value.slice.injEq, true_and] at hA
      obtain ⟨rfl, rfl⟩ := hA
      by_cases hx : t.ks[j] = s
      · have HV := Lib.hid (show R = some (t.l[j]'hltl) from by
          have hi := idxD_some s t.ks 0 j hlt hx hlo.out
          rw [HRR.out, hi, if_neg (by omega)]
          simp [hltl])
        obtain ⟨d, o', v0, v1, v2, v3, v4, rfl, hd, hch, b0, b1, b2, b3, b4⟩ := HCHI.out j hltl
        obtain ⟨k5, n5, s5, p3, q3, r3, p4, q4, r4, hv5⟩ := hch.cells5
        simp only [List.cons.injEq, and_true] at hv5
        obtain ⟨rfl, rfl, rfl, rfl, rfl⟩ := hv5
        have H55 := Lib.hid (H5.out (.int .u8 k5) (.int .u64 n5) (.string s5) (.slice p3 q3 r3) (.slice p4 q4 r4))
        have hB5 := below_set5 (b := w.heap.size + 1) HB3.out (by omega) (.int .u8 k5) (.int .u64 n5) (.string s5) (.slice p3 q3 r3) (.slice p4 q4 r4)
        have HB5 := Lib.hid hB5
        have HS5 := Lib.hid (hch.kept hB5 (Nat.le_refl _))
        have e0 := cell_kept b0 HB3.out (Nat.le_refl _) hd
        have e1 := cell_kept b1 HB3.out (Nat.le_refl _) hd
        have e2 := cell_kept b2 HB3.out (Nat.le_refl _) hd
        have e3 := cell_kept b3 HB3.out (Nat.le_refl _) hd
        have e4 := cell_kept b4 HB3.out (Nat.le_refl _) hd
        rw [hx] at hcell
        clear hx hB5 hch hlo b0 b1 b2 b3 b4
        go_wp2_with fail
        refine bodyPost_ret (results_row_tmp rfl _ _ (w.heap.size + 1) 29 _ (0, 0) _ rfl H55.out Try.underlying29 rfl (by kernel_rfl)) rfl ⟨[.int .u8 k5, .int .u64 n5, .string s5, .slice p3 q3 r3, .slice p4 q4 r4], true, rfl, ?_, by rw [HV.out]; rfl, HB5.out⟩
        rw [HV.out]
        exact HS5.out
      · have HLO : Hid (∀ q (h : q < t.ks.length), q < j + 1 → t.ks[q] ≠ s) := Lib.hid (fun q hq hqj => by
          by_cases hq2 : q < j
          · exact hlo.out q hq hq2
          · obtain rfl : q = j := by omega
            exact hx)
        have hne := toListNe (a := t.ks[j]) (b := s) hx
        clear hlo hx
        generalize t.ks[j]'hlt = x at *
        go_wp2_with fail
        go_roundw
        case rel => exact ⟨trivial, j + 1, by omega, by go_num, HLO⟩
        case measure => simp [intOf]; omega
    · have hjl : ¬ (j : Int) < (t.ks.length : Int) := by omega
      have HV := Lib.hid (show R = none from by
        rw [HRR.out, idxD_none s t.ks 0 fun q hq => hlo.out q hq (by omega)]
        rfl)
      have H55 := Lib.hid (H5.out (.int .u8 0) (.int .u64 0) (.string ⟨#[]⟩) (.slice none 0 0) (.slice none 0 0))
      clear hlo
      go_wp2_with fail
      refine bodyPost_ret (results_row_tmp rfl _ _ (w.heap.size + 1) 29 _ (0, 0) _ rfl H55.out Try.underlying29 rfl (by kernel_rfl)) rfl ?_
      refine ⟨[.int .u8 0, .int .u64 0, .string ⟨#[]⟩, .slice none 0 0, .slice none 0 0], .inl ⟨rfl, ?_, HV.out, ?_⟩⟩
      · rw [HV.out]; exact tz_shows _
      · exact below_set5 HB3.out (by omega) _ _ _ _ _
end Go.Proofs.Ytlcggpobelbfcaa
