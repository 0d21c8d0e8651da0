/-
  The contracts of gather.fits and refused.
  Conditions: none but sizes.
-/
import Derived.Test.YtocankfabgjjmaaGaA
import Derived.Test.YtocankfabgjjmaaGaM
namespace Go.Proofs.Ytocankfabgjjmaa
open Go.RowKit
set_option linter.unusedVariables false
set_option linter.unusedSimpArgs false

/-- What is open of an assembly, as eleven cells. -/
def ptVs (v1 v2 : Value) (h : Fr) (x : Bool) : List Value := [v1, v2, .bool h.a, .bool h.b, .bool h.c, .bool h.d, .int .u8 h.t, .int .u8 h.k, .int .u16 h.ch, .string h.p, .bool x]

set_option maxRecDepth 100000 in
set_option maxHeartbeats 2000000 in
theorem fits_any (f : Fr) (v1 v2 : Value) (p : Pt) (is : Bool) (w : World) (h1 : v1.oneCell' = true) (h2 : v2.oneCell' = true) :
    Calls Try.prog 24 #[.agg f.vs.toArray, .agg (ptVs v1 v2 p.head p.whole).toArray, .bool is] w fun e w' => e = .returned (.bool (fitsD f (if is = true then some p else none))) ∧ Below w.heap.size w w' := by
  obtain ⟨segs, bytes, ⟨ha, hb, hc, hd, ht, hk, hch, hp⟩, whole⟩ := p
  obtain ⟨fa, fb, fc, fd, ft, fk, fch, fp⟩ := f
  simp only [Fr.vs, ptVs]
  have HF := Lib.hid (first_any ft fk)
  have HB := Lib.hid (fun o o' => (f_below_box w o).alloc (by simp) o')
  cases is with
  | false =>
    simp only [fitsD]
    cases fa with
    | false =>
      go_enter Try.func24, Try.ntmps24
      go_wp2_with fail
      all_goals
        go_ret
        exact ⟨rfl, HB.out _ _⟩
    | true =>
      cases fc with
      | false =>
        go_enter Try.func24, Try.ntmps24
        go_wp2_with fail
        all_goals
          go_ret
          exact ⟨rfl, HB.out _ _⟩
      | true =>
        by_cases h1 : firstD ft fk = true
        · rw [h1] at HF
          simp only [if_neg (show ¬ (false = true) by decide), h1, Bool.true_and]
          clear h1
          by_cases hk0 : fk = 0
          · have e1 : ((fk : Int) == 0) = true := by rw [beq_iff_eq]; omega
            have e2 : ((fk : Int) != 0) = false := by simp; omega
            have e3 : (fk == 0) = true := by rw [beq_iff_eq]; omega
            rw [e3]
            have E1 := Lib.hid (And.intro e1 e2)
            clear hk0 e1 e2 e3
            go_enter Try.func24, Try.ntmps24
            cases fb <;>
            · go_wp2_with (go_at_call 25; refine (HF.out _).mono ?_; rintro e w1 ⟨rfl, rfl⟩; have e1 := E1.out.1; have e2 := E1.out.2)
              all_goals
                go_ret
                exact ⟨rfl, HB.out _ _⟩
          · have e1 : ((fk : Int) == 0) = false := by rw [beq_eq_false_iff_ne]; omega
            have e2 : ((fk : Int) != 0) = true := by simp; omega
            have e3 : (fk == 0) = false := by rw [beq_eq_false_iff_ne]; omega
            rw [e3]
            have E1 := Lib.hid (And.intro e1 e2)
            clear hk0 e1 e2 e3
            go_enter Try.func24, Try.ntmps24
            cases fb <;>
            · go_wp2_with (go_at_call 25; refine (HF.out _).mono ?_; rintro e w1 ⟨rfl, rfl⟩; have e1 := E1.out.1; have e2 := E1.out.2)
              all_goals
                go_ret
                exact ⟨rfl, HB.out _ _⟩
        · have h1f : firstD ft fk = false := by simpa using h1
          rw [h1f] at HF
          simp only [if_neg (show ¬ (false = true) by decide), h1f]
          clear h1 h1f
          go_enter Try.func24, Try.ntmps24
          go_wp2_with (go_at_call 25; refine (HF.out _).mono ?_; rintro e w1 ⟨rfl, rfl⟩)
          all_goals
            go_ret
            exact ⟨rfl, HB.out _ _⟩
  | true =>
    clear HF
    rw [if_pos rfl]
    unfold fitsD
    dsimp only
    cases whole with
    | false =>
      rw [if_pos rfl]
      cases fc with
      | true =>
        go_enter Try.func24, Try.ntmps24
        go_wp2_with fail
        all_goals
          go_ret
          exact ⟨rfl, HB.out _ _⟩
      | false =>
        by_cases he : ft = ht
        · have e1 : ((ft : Int) == (ht : Int)) = true := by rw [beq_iff_eq]; omega
          have e2 : (ft == ht) = true := by rw [beq_iff_eq]; omega
          rw [e2]
          clear he e2
          go_enter Try.func24, Try.ntmps24
          cases fa <;> cases ha <;> cases fb <;> cases hb <;>
          · go_wp2_with fail
            all_goals
              go_ret
              exact ⟨rfl, HB.out _ _⟩
        · have e1 : ((ft : Int) == (ht : Int)) = false := by rw [beq_eq_false_iff_ne]; omega
          have e2 : (ft == ht) = false := by rw [beq_eq_false_iff_ne]; omega
          rw [e2]
          clear he e2
          go_enter Try.func24, Try.ntmps24
          go_wp2_with fail
          all_goals
            go_ret
            exact ⟨rfl, HB.out _ _⟩
    | true =>
      rw [if_neg (by decide)]
      cases fc with
      | false =>
        go_enter Try.func24, Try.ntmps24
        go_wp2_with fail
        all_goals
          go_ret
          exact ⟨rfl, HB.out _ _⟩
      | true =>
        cases fa with
        | true =>
          go_enter Try.func24, Try.ntmps24
          go_wp2_with fail
          all_goals
            go_ret
            exact ⟨rfl, HB.out _ _⟩
        | false =>
          by_cases he : ht < ft
          · have e1 : (ht : Int) < (ft : Int) := by omega
            have e2 : decide (ht < ft) = true := by simpa using he
            rw [e2]
            clear he e2
            go_enter Try.func24, Try.ntmps24
            go_wp2_with fail
            all_goals
              go_ret
              exact ⟨by first | rfl | simp [e1], HB.out _ _⟩
          · have e1 : ¬ (ht : Int) < (ft : Int) := by omega
            have e2 : decide (ht < ft) = false := by simpa using he
            rw [e2]
            clear he e2
            go_enter Try.func24, Try.ntmps24
            go_wp2_with fail
            all_goals
              go_ret
              exact ⟨by first | rfl | simp [e1], HB.out _ _⟩

end Go.Proofs.Ytocankfabgjjmaa
