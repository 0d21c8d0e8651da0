/-
  The contract of the document's own fits for frames.
  Conditions: none but sizes.
-/
import Derived.Test.YtocankfabgjjmaaGaY
import Derived.Test.YtocankfabgjjmaaGaA
import Derived.Test.YtocankfabgjjmaaFrH
namespace Go.Proofs.Ytocankfabgjjmaa
open Go.RowKit
set_option linter.unusedVariables false
set_option linter.unusedSimpArgs false

set_option maxRecDepth 100000 in
set_option maxHeartbeats 8000000 in
theorem qgfits_any (A : Option Addr) (N c d : Nat) (l : List Fr) (f : Fr) (w : World) (h : ShowsG frC w d (.slice A N c) l) (hl : l.length ≤ 17592186044416) :
    Calls Try.prog 19 #[.slice A N c, .agg f.vs.toArray] w fun e w' => e = .returned (.bool (fitsQ l f)) ∧ Below w.heap.size w w' := by
  obtain ⟨hN, _, _⟩ := h.lens
  obtain ⟨fa, fb, fc, fd, ft, fk, fch, fp⟩ := f
  simp only [Fr.vs]
  have hX := BoxF.new w ⟨fa, fb, fc, fd, ft, fk, fch, fp⟩
  have hb0 := f_below_box w (Obj.cells #[.bool fa, .bool fb, .bool fc, .bool fd, .int .u8 ft, .int .u8 fk, .int .u16 fch, .string fp] 30)
  dsimp only at hX
  have x0 := hX.c0
  have x1 := hX.c1
  have x2 := hX.c2
  have x3 := hX.c3
  have x4 := hX.c4
  have x5 := hX.c5
  dsimp only at x0 x1 x2 x3 x4 x5
  have HB := Lib.hid hb0
  have HX := Lib.hid hX
  have HS := Lib.hid (h.below' hb0 (Nat.le_refl _))
  obtain ⟨R, hR⟩ : ∃ R, R = fitsQ l ⟨fa, fb, fc, fd, ft, fk, fch, fp⟩ := ⟨_, rfl⟩
  rw [← hR]
  unfold fitsQ at hR
  dsimp only at hR
  clear h hX hb0
  by_cases h1 : 1 < fk
  · rw [if_pos h1] at hR
    subst hR
    have e1 : (1 : Int) < (fk : Int) := by omega
    have e1' : decide ((1 : Int) < (fk : Int)) = true := by simpa using e1
    clear h1 hl
    go_enter Try.func19, Try.ntmps19
    go_wp2_with fail
    go_ret
    exact ⟨rfl, HB.out⟩
  · rw [if_neg h1] at hR
    have e1 : decide ((1 : Int) < (fk : Int)) = false := by simp; omega
    have hk01 : fk = 0 ∨ fk = 1 := by omega
    clear h1
    by_cases hz : N = 0
    · have : l = [] := List.eq_nil_of_length_eq_zero (by omega)
      subst this
      simp only [List.getLast?_nil] at hR
      subst hz
      clear hN hl
      obtain ⟨b1, hb1⟩ : ∃ b1, b1 = (ft == fk) := ⟨_, rfl⟩
      obtain ⟨b2, hb2⟩ : ∃ b2, b2 = (fk == 1) := ⟨_, rfl⟩
      rw [← hb1, ← hb2] at hR
      have E := Lib.hid (show ((ft : Int) == (fk : Int)) = b1 ∧ ((fk : Int) == 1) = b2 by
        refine ⟨?_, ?_⟩
        · rw [hb1, Bool.eq_iff_iff]; simp; omega
        · rw [hb2, Bool.eq_iff_iff]; simp; omega)
      clear hb1 hb2 hk01
      have y1 := E.out.1
      have y2 := E.out.2
      cases fa <;> cases fc <;> cases b1 <;> cases b2 <;> cases fb <;> simp only [Bool.and_true, Bool.and_false, Bool.true_and, Bool.false_and, Bool.or_true, Bool.true_or, Bool.or_false, Bool.false_or] at hR <;> subst hR <;>
      · go_enter Try.func19, Try.ntmps19
        go_wp2_with fail
        all_goals
          go_ret
          exact ⟨rfl, HB.out⟩
    · obtain ⟨J, hJ⟩ : ∃ J, N = J + 1 := ⟨N - 1, by omega⟩
      have hJl : J < l.length := by omega
      obtain ⟨o, rfl, hd, hcl⟩ := HS.out.at_ (by omega)
      obtain ⟨y0, y1, y2, y3, y4, y5, y6, y7⟩ := fr_cell hcl hJl
      have hlast : l.getLast? = some l[J] := by rw [List.getLast?_eq_getElem?, hN, hJ]; simp [hJl]
      rw [hlast] at hR
      dsimp only at hR
      have hjn : (J : Int) < (N : Int) := by omega
      have en : ((N : Int) == 0) = false := by rw [beq_eq_false_iff_ne]; omega
      have ew : IntKind.i64.wrap ((N : Int) - 1) = (J : Int) := by rw [i64_id _ (by omega) (by omega)]; omega
      have ew' : wrap64 ((N : Int) - 1) = (J : Int) := by rw [w64_id _ (by omega) (by omega)]; omega
      clear hcl hlast
      generalize l[J] = g at *
      obtain ⟨ga, gb, gc, gd, gt, gk, gch, gp⟩ := g
      dsimp only at y0 y1 y2 y3 y4 y5 y6 y7 hR
      have hbb := HB.out.alloc (by simp) (Obj.cells #[.bool ga, .bool gb, .bool gc, .bool gd, .int .u8 gt, .int .u8 gk, .int .u16 gch, .string gp] 30)
      have hX2 := HX.out.kept (f_below_box _ (Obj.cells #[.bool ga, .bool gb, .bool gc, .bool gd, .int .u8 gt, .int .u8 gk, .int .u16 gch, .string gp] 30)) (Nat.le_refl _)
      have hG := BoxF.new (w.alloc (Obj.cells #[.bool fa, .bool fb, .bool fc, .bool fd, .int .u8 ft, .int .u8 fk, .int .u16 fch, .string fp] 30)) ⟨ga, gb, gc, gd, gt, gk, gch, gp⟩
      rw [World.size_alloc] at hG
      dsimp only at hG
      have HXG := Lib.hid (And.intro hX2 hG)
      have HBB := Lib.hid hbb
      obtain ⟨b1, hb1⟩ : ∃ b1, b1 = (ft == gt) := ⟨_, rfl⟩
      obtain ⟨b2, hb2⟩ : ∃ b2, b2 = decide (gt < ft) := ⟨_, rfl⟩
      rw [← hb1, ← hb2] at hR
      have E := Lib.hid (show ((ft : Int) == (gt : Int)) = b1 ∧ decide ((gt : Int) < (ft : Int)) = b2 ∧ decide (gt < ft) = b2 by
        refine ⟨?_, ?_, hb2.symm⟩
        · rw [hb1, Bool.eq_iff_iff]; simp; omega
        · rw [hb2, Bool.eq_iff_iff]; simp)
      have HR := Lib.hid hR
      clear hN hz hJ hJl hl hd hbb hX2 hG hb1 hb2 hR hk01
      go_enter Try.func19, Try.ntmps19
      go_upto_region 6 with fail
      clear x0 x1 x2 x3 x4 x5 y0 y1 y2 y3 y4 y5 y6 y7
      have hXX := HXG.out.1
      have hGG := HXG.out.2
      clear HX
      generalize (w.alloc _).alloc _ = W2 at *
      have x0 := hXX.c0
      have x1 := hXX.c1
      have x2 := hXX.c2
      have x4 := hXX.c4
      have y0 := hGG.c0
      have y1 := hGG.c1
      have y3 := hGG.c3
      have y4 := hGG.c4
      have z1 := E.out.1
      have z2 := E.out.2.1
      have z3 := E.out.2.2
      have hR := HR.out
      clear HR E hXX hGG HXG
      dsimp only at x0 x1 x2 x4 y0 y1 y3 y4
      cases gd
      · rw [if_pos rfl] at hR
        cases fc with
        | true =>
          simp only [Bool.not_true, Bool.false_and] at hR
          subst hR
          go_wp2_with fail
          all_goals
            go_ret
            exact ⟨rfl, HBB.out⟩
        | false =>
          cases b1 with
          | false =>
            simp only [Bool.and_false, Bool.false_and] at hR
            subst hR
            go_wp2_with fail
            all_goals
              go_ret
              exact ⟨rfl, HBB.out⟩
          | true =>
            simp only [Bool.not_false, Bool.true_and] at hR
            cases fa <;> cases ga <;> cases fb <;> cases gb <;>
            · subst hR
              go_wp2_with fail
              all_goals
                go_ret
                exact ⟨rfl, HBB.out⟩
      · rw [if_neg (by decide)] at hR
        cases fc <;> cases fa <;> cases b2 <;> simp only [Bool.and_true, Bool.and_false, Bool.true_and, Bool.false_and, Bool.not_true, Bool.not_false] at hR <;>
        · subst hR
          go_wp2_with fail
          all_goals
            go_ret
            exact ⟨by first | rfl | (show Ending.returned (Value.bool (decide (gt < ft))) = _; rw [z3]), HBB.out⟩

end Go.Proofs.Ytocankfabgjjmaa
