/-
  The contracts of xid's Check, OneGlobal, Compare and of what they call.
  Conditions: none but sizes.
-/
import Derived.Test.YtalcfglcbpkebaaDoorRef04A
import Derived.Lib.Bytealg
import Derived.StillTailTactics
import Derived.Deep.RegionWith
import Derived.Sort.Grow
namespace Go.Proofs.YtalcfglcbpkebaaDoor
open Go.RowKit
set_option linter.unusedVariables false
set_option linter.unusedSimpArgs false

theorem check_ok (f : Nat) (g h : ByteArray) (w : World) (hm : mayX g h) :
    Calls Tryd.prog 11 #[xidV f g h] w fun e w' => e = .returned (.int .i64 0) ∧ Below w.heap.size w w' := by
  obtain ⟨h1, h2, h3⟩ := hm
  unfold xidV
  have hne : ¬ g.toList = [] := by rw [sb_toList]; intro e; have := sb_length g; rw [e] at this; simp at this; omega
  have t0 : g.toList.isEmpty = false := by simpa using hne
  have t2 : decide ((64 : Int) < g.size) = false := by simp; omega
  have t3 : decide ((64 : Int) < h.size) = false := by simp; omega
  clear h1 h2 h3
  go_enter Tryd.func11, Tryd.ntmps11
  go_wp2_with fail
  go_ret
  exact ⟨rfl, below_box _ _⟩

theorem check_no (f : Nat) (g h : ByteArray) (w : World) (hm : ¬ mayX g h) (hg : g.size ≤ 140737488355328) (hh : h.size ≤ 140737488355328) :
    Calls Tryd.prog 11 #[xidV f g h] w fun e w' => e = .returned (.int .i64 40) ∧ Below w.heap.size w w' := by
  unfold xidV
  have hm' : g.size < 1 ∨ 64 < g.size ∨ 64 < h.size := by unfold mayX at hm; omega
  by_cases c1 : g.size < 1
  case' pos => have t1 : g.toList = [] := by rw [sb_toList]; exact List.eq_nil_of_length_eq_zero (by rw [sb_length]; omega)
  case' neg =>
    have hne : ¬ g.toList = [] := by rw [sb_toList]; intro e; have := sb_length g; rw [e] at this; simp at this; omega
    have t0 : g.toList.isEmpty = false := by simpa using hne
    by_cases c2 : 64 < g.size
    case' pos => have t2 : decide ((64 : Int) < g.size) = true := by simp; omega
    case' neg =>
      have t2 : decide ((64 : Int) < g.size) = false := by simp; omega
      have t3 : decide ((64 : Int) < h.size) = true := by simp; omega
  all_goals
    clear hm hm'
    try clear c1
    try clear c2
    go_enter Tryd.func11, Tryd.ntmps11
    go_wp2_with fail
    go_ret
    exact ⟨rfl, below_box _ _⟩

set_option maxRecDepth 100000 in
theorem oneGlobal_any (f1 f2 : Nat) (g1 h1 g2 h2 : ByteArray) (w : World) :
    Calls Tryd.prog 15 #[xidV f1 g1 h1, xidV f2 g2 h2] w fun e w' => e = .returned (.bool (decide (f1 = f2 ∧ g1 = g2))) ∧ Below w.heap.size w w' := by
  unfold xidV
  obtain ⟨r, hr⟩ : ∃ r, r = decide (f1 = f2 ∧ g1 = g2) := ⟨_, rfl⟩
  rw [← hr]
  by_cases ef : f1 = f2
  · subst ef
    by_cases eg : g1 = g2
    · subst eg
      have HR := Lib.hid (show r = true by simp [hr])
      clear hr
      go_enter Tryd.func15, Tryd.ntmps15
      go_wp2_with fail
      go_ret
      exact ⟨by rw [HR.out]; rfl, below_box2 _ _ _⟩
    · have e1 := toList_ne eg
      have HR := Lib.hid (show r = false by simp [hr, eg])
      clear hr eg
      go_enter Tryd.func15, Tryd.ntmps15
      go_wp2_with fail
      go_ret
      exact ⟨by rw [HR.out]; rfl, below_box2 _ _ _⟩
  · have e0 : ¬ (f1 : Int) = (f2 : Int) := by omega
    have HR := Lib.hid (show r = false by simp [hr, ef])
    clear hr ef
    go_enter Tryd.func15, Tryd.ntmps15
    go_wp2_with fail
    go_ret
    exact ⟨by rw [HR.out]; rfl, below_box2 _ _ _⟩

theorem isNaN_any (a : Nat) (w : World) : Calls Tryd.prog 51 #[.int .u32 a] w fun e w' => e = .returned (.bool false) ∧ w = w' := by
  go_enter Tryd.func51, Tryd.ntmps51
  go_wp2_with fail
  go_ret
  exact ⟨rfl, rfl⟩

/-- What cmp.Compare of two numbers answers. -/
def cmpN (a b : Nat) : Int := if a < b then -1 else if b < a then 1 else 0
theorem cmpN_any (a b : Nat) (w : World) : Calls Tryd.prog 29 #[.int .u32 a, .int .u32 b] w fun e w' => e = .returned (.int .i64 (cmpN a b)) ∧ w = w' := by
  unfold cmpN
  by_cases h1 : a < b
  case' neg => by_cases h2 : b < a
  all_goals
    first
      | (have t1 : decide ((a : Int) < (b : Int)) = true := by simp; omega)
      | (have t1 : decide ((a : Int) < (b : Int)) = false := by simp; omega
         have t2 : decide ((b : Int) < (a : Int)) = true := by simp; omega)
      | (have t1 : decide ((a : Int) < (b : Int)) = false := by simp; omega
         have t2 : decide ((b : Int) < (a : Int)) = false := by simp; omega)
    go_enter Tryd.func29, Tryd.ntmps29
    go_wp2_with (go_at_call 51; refine (isNaN_any _ _).mono ?_; rintro e w' ⟨rfl, rfl⟩)
    go_ret
    exact ⟨by simp_all, rfl⟩

set_option maxRecDepth 100000 in
theorem cmpS1 (a b : ByteArray) (w : World) : Calls Tryd.prog 52 #[.string a, .string b] w fun e w' => e = .returned (.int .i64 (Lib.compareBytes (sb a) (sb b))) ∧ w = w' := by
  go_enter Tryd.func52, Tryd.ntmps52
  go_wp2
  rw [run_callFunc_extern Tryd.func69 (by kernel_rfl) (by kernel_rfl) (by kernel_rfl) (e := Extern.BytealgCompare.compare) (by kernel_rfl), Lib.run_compareString]
  simp only [Result.andThen]
  rw [Oper.upon_value]
  go_wp2
  go_ret
  exact ⟨rfl, rfl⟩
theorem cmpS_any (a b : ByteArray) (w : World) : Calls Tryd.prog 30 #[.string a, .string b] w fun e w' => e = .returned (.int .i64 (Lib.compareBytes (sb a) (sb b))) ∧ w = w' := by
  have h := fun w => cmpS1 a b w
  generalize Lib.compareBytes (sb a) (sb b) = r at *
  go_enter Tryd.func30, Tryd.ntmps30
  go_wp2_with (go_at_call 52; refine (h _).mono ?_; rintro e w' ⟨rfl, rfl⟩)
  go_ret
  exact ⟨rfl, rfl⟩

/-- What cmp.Or of three numbers answers. -/
def orD (x y z : Int) : Int := if x ≠ 0 then x else if y ≠ 0 then y else z
theorem or_any (b cap : Nat) (x y z : Int) (w : World) (hx : w.cell? ⟨b, 0, none⟩ = some (.int .i64 x)) (hy : w.cell? ⟨b, 1, none⟩ = some (.int .i64 y)) (hz : w.cell? ⟨b, 2, none⟩ = some (.int .i64 z)) :
    Calls Tryd.prog 28 #[.slice (some ⟨b, 0, none⟩) 3 cap] w fun e w' => e = .returned (.int .i64 (orD x y z)) ∧ w = w' := by
  obtain ⟨r, hr⟩ : ∃ r, r = orD x y z := ⟨_, rfl⟩
  rw [← hr]
  have HR := Lib.hid hr
  clear hr
  by_cases c1 : x = 0
  · subst c1
    by_cases c2 : y = 0
    · subst c2
      by_cases c3 : z = 0
      · subst c3
        go_enter Tryd.func28, Tryd.ntmps28
        go_wp2_with fail
        refine wp_loop_rounds 4 ?_
        iterate 4
          rw [rounds_succ]
          go_wp2_with fail
        go_ret
        exact ⟨by rw [HR.out]; rfl, rfl⟩
      · have t3 : (z != 0) = true := by simpa using c3
        have HC := Lib.hid c3
        clear c3
        go_enter Tryd.func28, Tryd.ntmps28
        go_wp2_with fail
        refine wp_loop_rounds 4 ?_
        iterate 3
          rw [rounds_succ]
          go_wp2_with fail
        go_ret
        exact ⟨by rw [HR.out]; simp [orD, HC.out], rfl⟩
    · have t2 : (y != 0) = true := by simpa using c2
      have HC := Lib.hid c2
      clear c2
      go_enter Tryd.func28, Tryd.ntmps28
      go_wp2_with fail
      refine wp_loop_rounds 4 ?_
      iterate 2
        rw [rounds_succ]
        go_wp2_with fail
      go_ret
      exact ⟨by rw [HR.out]; simp [orD, HC.out], rfl⟩
  · have t1 : (x != 0) = true := by simpa using c1
    have HC := Lib.hid c1
    clear c1
    go_enter Tryd.func28, Tryd.ntmps28
    go_wp2_with fail
    refine wp_loop_rounds 4 ?_
    rw [rounds_succ]
    go_wp2_with fail
    go_ret
    exact ⟨by rw [HR.out]; simp [orD, HC.out], rfl⟩

end Go.Proofs.YtalcfglcbpkebaaDoor
