/-
  Texts, together: GaC, GaCb.
  Conditions: none but sizes.
-/
import Derived.Test.YtdjahdnaihijjaaGreatDoorGaAZ
import Derived.Test.YtdjahdnaihijjaaGreatDoorGaPZ
/-
  The contracts of gather.fits and refused.
  Conditions: none but sizes.
-/
namespace Go.Proofs.YtdjahdnaihijjaaGreatDoor
open Go.RowKit
set_option linter.unusedVariables false
set_option linter.unusedSimpArgs false

/-- What is open of an assembly, as eleven cells. -/
def ptVs (v1 v2 : Value) (h : Fr) (x : Bool) : List Value := [v1, v2, .bool h.a, .bool h.b, .bool h.c, .bool h.d, .int .u8 h.t, .int .u8 h.k, .int .u16 h.ch, .string h.p, .bool x]

set_option maxRecDepth 100000 in
set_option maxHeartbeats 2000000 in
theorem fits_any (f : Fr) (v1 v2 : Value) (p : Pt) (is : Bool) (w : World) (h1 : v1.oneCell' = true) (h2 : v2.oneCell' = true) :
    Calls Tryz.prog 53 #[.agg f.vs.toArray, .agg (ptVs v1 v2 p.head p.whole).toArray, .bool is] w fun e w' => e = .returned (.bool (fitsD f (if is = true then some p else none))) ∧ Below w.heap.size w w' := by
  obtain ⟨segs, bytes, ⟨ha, hb, hc, hd, ht, hk, hch, hp⟩, whole⟩ := p
  obtain ⟨fa, fb, fc, fd, ft, fk, fch, fp⟩ := f
  simp only [Fr.vs, ptVs]
  have HF := Lib.hid (first_any ft fk)
  have HB := Lib.hid (fun o o' => (f_below_box w o).alloc (by simp) o')
  cases is with
  | false =>
    simp only [fitsD]
    cases fa with
    | false =>
      go_enter Tryz.func53, Tryz.ntmps53
      go_wp2_with fail
      all_goals
        go_ret
        exact ⟨rfl, HB.out _ _⟩
    | true =>
      cases fc with
      | false =>
        go_enter Tryz.func53, Tryz.ntmps53
        go_wp2_with fail
        all_goals
          go_ret
          exact ⟨rfl, HB.out _ _⟩
      | true =>
        by_cases h1 : firstD ft fk = true
        · rw [h1] at HF
          simp only [if_neg (show ¬ (false = true) by decide), h1, Bool.true_and]
          clear h1
          by_cases hk0 : fk = 0
          · have e1 : ((fk : Int) == 0) = true := by rw [beq_iff_eq]; omega
            have e2 : ((fk : Int) != 0) = false := by simp; omega
            have e3 : (fk == 0) = true := by rw [beq_iff_eq]; omega
            rw [e3]
            have E1 := Lib.hid (And.intro e1 e2)
            clear hk0 e1 e2 e3
            go_enter Tryz.func53, Tryz.ntmps53
            cases fb <;>
            · go_wp2_with (go_at_call 70; refine (HF.out _).mono ?_; rintro e w1 ⟨rfl, rfl⟩; have e1 := E1.out.1; have e2 := E1.out.2)
              all_goals
                go_ret
                exact ⟨rfl, HB.out _ _⟩
          · have e1 : ((fk : Int) == 0) = false := by rw [beq_eq_false_iff_ne]; omega
            have e2 : ((fk : Int) != 0) = true := by simp; omega
            have e3 : (fk == 0) = false := by rw [beq_eq_false_iff_ne]; omega
            rw [e3]
            have E1 := Lib.hid (And.intro e1 e2)
            clear hk0 e1 e2 e3
            go_enter Tryz.func53, Tryz.ntmps53
            cases fb <;>
            · go_wp2_with (go_at_call 70; refine (HF.out _).mono ?_; rintro e w1 ⟨rfl, rfl⟩; have e1 := E1.out.1; have e2 := E1.out.2)
              all_goals
                go_ret
                exact ⟨rfl, HB.out _ _⟩
        · have h1f : firstD ft fk = false := by simpa using h1
          rw [h1f] at HF
          simp only [if_neg (show ¬ (false = true) by decide), h1f]
          clear h1 h1f
          go_enter Tryz.func53, Tryz.ntmps53
          go_wp2_with (go_at_call 70; refine (HF.out _).mono ?_; rintro e w1 ⟨rfl, rfl⟩)
          all_goals
            go_ret
            exact ⟨rfl, HB.out _ _⟩
  | true =>
    clear HF
    rw [if_pos rfl]
    unfold fitsD
    dsimp only
    cases whole with
    | false =>
      rw [if_pos rfl]
      cases fc with
      | true =>
        go_enter Tryz.func53, Tryz.ntmps53
        go_wp2_with fail
        all_goals
          go_ret
          exact ⟨rfl, HB.out _ _⟩
      | false =>
        by_cases he : ft = ht
        · have e1 : ((ft : Int) == (ht : Int)) = true := by rw [beq_iff_eq]; omega
          have e2 : (ft == ht) = true := by rw [beq_iff_eq]; omega
          rw [e2]
          clear he e2
          go_enter Tryz.func53, Tryz.ntmps53
          cases fa <;> cases ha <;> cases fb <;> cases hb <;>
          · go_wp2_with fail
            all_goals
              go_ret
              exact ⟨rfl, HB.out _ _⟩
        · have e1 : ((ft : Int) == (ht : Int)) = false := by rw [beq_eq_false_iff_ne]; omega
          have e2 : (ft == ht) = false := by rw [beq_eq_false_iff_ne]; omega
          rw [e2]
          clear he e2
          go_enter Tryz.func53, Tryz.ntmps53
          go_wp2_with fail
          all_goals
            go_ret
            exact ⟨rfl, HB.out _ _⟩
    | true =>
      rw [if_neg (by decide)]
      cases fc with
      | false =>
        go_enter Tryz.func53, Tryz.ntmps53
        go_wp2_with fail
        all_goals
          go_ret
          exact ⟨rfl, HB.out _ _⟩
      | true =>
        cases fa with
        | true =>
          go_enter Tryz.func53, Tryz.ntmps53
          go_wp2_with fail
          all_goals
            go_ret
            exact ⟨rfl, HB.out _ _⟩
        | false =>
          by_cases he : ht < ft
          · have e1 : (ht : Int) < (ft : Int) := by omega
            have e2 : decide (ht < ft) = true := by simpa using he
            rw [e2]
            clear he e2
            go_enter Tryz.func53, Tryz.ntmps53
            go_wp2_with fail
            all_goals
              go_ret
              exact ⟨by first | rfl | simp [e1], HB.out _ _⟩
          · have e1 : ¬ (ht : Int) < (ft : Int) := by omega
            have e2 : decide (ht < ft) = false := by simpa using he
            rw [e2]
            clear he e2
            go_enter Tryz.func53, Tryz.ntmps53
            go_wp2_with fail
            all_goals
              go_ret
              exact ⟨by first | rfl | simp [e1], HB.out _ _⟩

end Go.Proofs.YtdjahdnaihijjaaGreatDoor
/-
  The contract of gather.refused.
  Conditions: none but sizes.
-/
namespace Go.Proofs.YtdjahdnaihijjaaGreatDoor
open Go.RowKit
set_option linter.unusedVariables false
set_option linter.unusedSimpArgs false

/-- Eleven cells in a block of the call's own. -/
def BoxP (w : World) (b : Nat) (v1 v2 : Value) (h : Fr) (x : Bool) : Prop :=
  w.heap[b]? = some (.cells #[v1, v2, .bool h.a, .bool h.b, .bool h.c, .bool h.d, .int .u8 h.t, .int .u8 h.k, .int .u16 h.ch, .string h.p, .bool x] 85 (0, 0))
section
variable {w w' : World} {b B : Nat} {v1 v2 : Value} {h : Fr} {x : Bool}
theorem BoxP.new (w : World) (v1 v2 : Value) (h : Fr) (x : Bool) : BoxP (w.alloc (Obj.cells #[v1, v2, .bool h.a, .bool h.b, .bool h.c, .bool h.d, .int .u8 h.t, .int .u8 h.k, .int .u16 h.ch, .string h.p, .bool x] 85)) w.heap.size v1 v2 h x := heap_alloc_new w _
theorem BoxP.lt (H : BoxP w b v1 v2 h x) : b < w.heap.size := (Array.getElem?_eq_some_iff.1 H).1
theorem BoxP.kept (H : BoxP w b v1 v2 h x) (hb : Below B w w') (hB : w.heap.size ≤ B) : BoxP w' b v1 v2 h x := (hb.block b (Nat.lt_of_lt_of_le H.lt hB)).trans H
theorem BoxP.at (H : BoxP w b v1 v2 h x) (i : Nat) : w.cell? ⟨b, i, none⟩ = (ptVs v1 v2 h x)[i]? := by
  rw [cell_of_row w b i _ 85 (0, 0) H]
  simp [ptVs]
theorem BoxP.c0 (H : BoxP w b v1 v2 h x) : w.cell? ⟨b, 0, none⟩ = some v1 := H.at 0
theorem BoxP.c1 (H : BoxP w b v1 v2 h x) : w.cell? ⟨b, 1, none⟩ = some v2 := H.at 1
theorem BoxP.c2 (H : BoxP w b v1 v2 h x) : w.cell? ⟨b, 2, none⟩ = some (.bool h.a) := H.at 2
theorem BoxP.c3 (H : BoxP w b v1 v2 h x) : w.cell? ⟨b, 3, none⟩ = some (.bool h.b) := H.at 3
theorem BoxP.c4 (H : BoxP w b v1 v2 h x) : w.cell? ⟨b, 4, none⟩ = some (.bool h.c) := H.at 4
theorem BoxP.c5 (H : BoxP w b v1 v2 h x) : w.cell? ⟨b, 5, none⟩ = some (.bool h.d) := H.at 5
theorem BoxP.c6 (H : BoxP w b v1 v2 h x) : w.cell? ⟨b, 6, none⟩ = some (.int .u8 h.t) := H.at 6
theorem BoxP.c7 (H : BoxP w b v1 v2 h x) : w.cell? ⟨b, 7, none⟩ = some (.int .u8 h.k) := H.at 7
theorem BoxP.c8 (H : BoxP w b v1 v2 h x) : w.cell? ⟨b, 8, none⟩ = some (.int .u16 h.ch) := H.at 8
theorem BoxP.c9 (H : BoxP w b v1 v2 h x) : w.cell? ⟨b, 9, none⟩ = some (.string h.p) := H.at 9
theorem BoxP.c10 (H : BoxP w b v1 v2 h x) : w.cell? ⟨b, 10, none⟩ = some (.bool x) := H.at 10
theorem BoxP.fr (H : BoxP w b v1 v2 h x) (i : Nat) : w.frozen? ⟨b, i, none⟩ = false := frozen_of_row w b i _ 85 H
end

theorem sum_wraps (n m : Nat) (hn : n ≤ 16384) (hm : m ≤ 4084) : wrap64 ((n : Int) + (m : Int)) = (n : Int) + (m : Int) ∧ IntKind.i64.wrap ((n : Int) + (m : Int)) = (n : Int) + (m : Int) := ⟨w64_id _ (by omega) (by omega), i64_id _ (by omega) (by omega)⟩

set_option maxRecDepth 100000 in
set_option maxHeartbeats 2000000 in
theorem refused_any (f : Fr) (v1 : Value) (A : Option Addr) (n c : Nat) (p : Pt) (is : Bool) (w : World) (h1 : v1.oneCell' = true) (hf : f.ok) (hn : n = ((if is = true then some p else none).getD pt0).bytes.length) (hn2 : n ≤ 16384) :
    Calls Tryz.prog 28 #[.agg f.vs.toArray, .agg (ptVs v1 (.slice A n c) p.head p.whole).toArray, .bool is] w fun e w' => e = .returned (.int .i64 (refusedD f (if is = true then some p else none))) ∧ Below w.heap.size w w' := by
  have HC := Lib.hid (fun w => fcheck_any f w hf.2.2.2)
  have HF := Lib.hid (fun w => fits_any f v1 (.slice A n c) p is w h1 rfl)
  have HB := Lib.hid (fun o o' => (f_below_box w o).alloc (by simp) o')
  have hXF := BoxF.new w f
  unfold refusedD
  rw [← hn]
  generalize (if is = true then some p else none) = o at *
  have hX2 : BoxF ((w.alloc (Obj.cells #[.bool f.a, .bool f.b, .bool f.c, .bool f.d, .int .u8 f.t, .int .u8 f.k, .int .u16 f.ch, .string f.p] 51)).alloc (Obj.cells #[v1, .slice A n c, .bool p.head.a, .bool p.head.b, .bool p.head.c, .bool p.head.d, .int .u8 p.head.t, .int .u8 p.head.k, .int .u16 p.head.ch, .string p.head.p, .bool p.whole] 85)) w.heap.size f := hXF.kept (f_below_box _ _) (Nat.le_refl _)
  have hP2 : BoxP ((w.alloc (Obj.cells #[.bool f.a, .bool f.b, .bool f.c, .bool f.d, .int .u8 f.t, .int .u8 f.k, .int .u16 f.ch, .string f.p] 51)).alloc (Obj.cells #[v1, .slice A n c, .bool p.head.a, .bool p.head.b, .bool p.head.c, .bool p.head.d, .int .u8 p.head.t, .int .u8 p.head.k, .int .u16 p.head.ch, .string p.head.p, .bool p.whole] 85)) (w.heap.size + 1) v1 (.slice A n c) p.head p.whole := by
    have := BoxP.new (w.alloc (Obj.cells #[.bool f.a, .bool f.b, .bool f.c, .bool f.d, .int .u8 f.t, .int .u8 f.k, .int .u16 f.ch, .string f.p] 51)) v1 (.slice A n c) p.head p.whole
    rw [World.size_alloc] at this
    exact this
  have HALL := Lib.hid (And.intro hX2 (And.intro hP2 (HB.out (Obj.cells #[.bool f.a, .bool f.b, .bool f.c, .bool f.d, .int .u8 f.t, .int .u8 f.k, .int .u16 f.ch, .string f.p] 51) (Obj.cells #[v1, .slice A n c, .bool p.head.a, .bool p.head.b, .bool p.head.c, .bool p.head.d, .int .u8 p.head.t, .int .u8 p.head.k, .int .u16 p.head.ch, .string p.head.p, .bool p.whole] 85))))
  obtain ⟨segs, bytes, ⟨ha, hb, hcc, hd, ht, hk, hch, hp⟩, whole⟩ := p
  clear hXF hX2 hP2 HB
  by_cases hc : checkF f = 0
  · have hp := checkF_le hc
    rw [hc] at HC
    rw [if_neg (by omega)]
    clear hf hn
    by_cases hfit : fitsD f o = true
    · rw [hfit] at HF
      rw [if_neg (by simp [hfit])]
      obtain ⟨hw1, hw2⟩ := sum_wraps n f.p.size hn2 hp
      clear hc hfit
      by_cases hs : 16384 < n + f.p.size
      · have i1 : (16384 : Int) < (n : Int) + (f.p.size : Int) := by omega
        rw [if_pos hs]
        obtain ⟨fa, fb, fc, fd, ft, fk, fch, fp⟩ := f
        simp only [Fr.vs, ptVs] at *
        clear hs
        go_enter Tryz.func28, Tryz.ntmps28
        go_wp2_with (first
          | (go_at_call 26
             refine (HC.out _).mono ?_
             rintro e w1 ⟨rfl, hb1⟩
             have hb01 := HALL.out.2.2.trans (hb1.mono HALL.out.2.2.size)
             have hX1 := HALL.out.1.kept hb1 (Nat.le_refl _)
             have hP1 := HALL.out.2.1.kept hb1 (Nat.le_refl _)
             have x0 := hX1.c0
             have x1 := hX1.c1
             have x2 := hX1.c2
             have x3 := hX1.c3
             have x4 := hX1.c4
             have x5 := hX1.c5
             have x6 := hX1.c6
             have x7 := hX1.c7
             have y0 := hP1.c0
             have y1 := hP1.c1
             have y2 := hP1.c2
             have y3 := hP1.c3
             have y4 := hP1.c4
             have y5 := hP1.c5
             have y6 := hP1.c6
             have y7 := hP1.c7
             have y8 := hP1.c8
             have y9 := hP1.c9
             have y10 := hP1.c10)
          | (go_at_call 53
             refine (HF.out _).mono ?_
             rintro e w2 ⟨rfl, hb2⟩
             have z7 := (hX1.kept hb2 (Nat.le_refl _)).c7
             have u1 := (hP1.kept hb2 (Nat.le_refl _)).c1
             have hb02 := hb01.trans (hb2.mono hb01.size)))
        go_ret
        exact ⟨rfl, hb02⟩
      · have i1 : ¬ (16384 : Int) < (n : Int) + (f.p.size : Int) := by omega
        rw [if_neg hs]
        obtain ⟨fa, fb, fc, fd, ft, fk, fch, fp⟩ := f
        simp only [Fr.vs, ptVs] at *
        clear hs
        go_enter Tryz.func28, Tryz.ntmps28
        go_wp2_with (first
          | (go_at_call 26
             refine (HC.out _).mono ?_
             rintro e w1 ⟨rfl, hb1⟩
             have hb01 := HALL.out.2.2.trans (hb1.mono HALL.out.2.2.size)
             have hX1 := HALL.out.1.kept hb1 (Nat.le_refl _)
             have hP1 := HALL.out.2.1.kept hb1 (Nat.le_refl _)
             have x0 := hX1.c0
             have x1 := hX1.c1
             have x2 := hX1.c2
             have x3 := hX1.c3
             have x4 := hX1.c4
             have x5 := hX1.c5
             have x6 := hX1.c6
             have x7 := hX1.c7
             have y0 := hP1.c0
             have y1 := hP1.c1
             have y2 := hP1.c2
             have y3 := hP1.c3
             have y4 := hP1.c4
             have y5 := hP1.c5
             have y6 := hP1.c6
             have y7 := hP1.c7
             have y8 := hP1.c8
             have y9 := hP1.c9
             have y10 := hP1.c10)
          | (go_at_call 53
             refine (HF.out _).mono ?_
             rintro e w2 ⟨rfl, hb2⟩
             have z7 := (hX1.kept hb2 (Nat.le_refl _)).c7
             have u1 := (hP1.kept hb2 (Nat.le_refl _)).c1
             have hb02 := hb01.trans (hb2.mono hb01.size)))
        go_ret
        exact ⟨rfl, hb02⟩
    · have hf0 : fitsD f o = false := by simpa using hfit
      rw [hf0] at HF
      rw [if_pos hf0]
      clear hc hfit hf0
      obtain ⟨fa, fb, fc, fd, ft, fk, fch, fp⟩ := f
      simp only [Fr.vs, ptVs] at *
      go_enter Tryz.func28, Tryz.ntmps28
      go_wp2_with (first
        | (go_at_call 26
           refine (HC.out _).mono ?_
           rintro e w1 ⟨rfl, hb1⟩
           have hb01 := HALL.out.2.2.trans (hb1.mono HALL.out.2.2.size)
           have hX1 := HALL.out.1.kept hb1 (Nat.le_refl _)
           have hP1 := HALL.out.2.1.kept hb1 (Nat.le_refl _)
           have x0 := hX1.c0
           have x1 := hX1.c1
           have x2 := hX1.c2
           have x3 := hX1.c3
           have x4 := hX1.c4
           have x5 := hX1.c5
           have x6 := hX1.c6
           have x7 := hX1.c7
           have y0 := hP1.c0
           have y1 := hP1.c1
           have y2 := hP1.c2
           have y3 := hP1.c3
           have y4 := hP1.c4
           have y5 := hP1.c5
           have y6 := hP1.c6
           have y7 := hP1.c7
           have y8 := hP1.c8
           have y9 := hP1.c9
           have y10 := hP1.c10)
        | (go_at_call 53
           refine (HF.out _).mono ?_
           rintro e w2 ⟨rfl, hb2⟩
           have z7 := (hX1.kept hb2 (Nat.le_refl _)).c7
           have u1 := (hP1.kept hb2 (Nat.le_refl _)).c1
           have hb02 := hb01.trans (hb2.mono hb01.size)))
      go_ret
      exact ⟨rfl, hb02⟩
  · have hc6 := checkF_no hc
    rw [if_pos hc]
    rw [hc6] at HC
    have e6 : ((60 : Int) != 0) = true := by decide
    clear hc hc6 hf hn HF
    obtain ⟨fa, fb, fc, fd, ft, fk, fch, fp⟩ := f
    simp only [Fr.vs, ptVs] at *
    go_enter Tryz.func28, Tryz.ntmps28
    go_wp2_with (go_at_call 26; refine (HC.out _).mono ?_; rintro e w1 ⟨rfl, hb1⟩; have hb01 := HALL.out.2.2.trans (hb1.mono HALL.out.2.2.size))
    go_ret
    exact ⟨rfl, hb01⟩

end Go.Proofs.YtdjahdnaihijjaaGreatDoor
