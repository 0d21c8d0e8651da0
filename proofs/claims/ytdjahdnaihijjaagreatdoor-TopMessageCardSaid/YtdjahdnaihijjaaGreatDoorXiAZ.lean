/-
  The contracts of xid's Check, OneGlobal, Compare and of what they call.
  Conditions: none but sizes.
-/
import Derived.Lib.Bytealg
import Derived.StillTailTactics
import Derived.Deep.RegionWith
import Derived.Sort.Grow
import Derived.Test.YtdjahdnaihijjaaGreatDoorRef04AZ
namespace Go.Proofs.YtdjahdnaihijjaaGreatDoor
open Go.RowKit
set_option linter.unusedVariables false
set_option linter.unusedSimpArgs false

theorem x_check_ok (f : Nat) (g h : ByteArray) (w : World) (hm : mayX g h) :
    Calls Tryz.prog 45 #[xidV f g h] w fun e w' => e = .returned (.int .i64 0) ∧ Below w.heap.size w w' := by
  obtain ⟨h1, h2, h3⟩ := hm
  unfold xidV
  have hne : ¬ g.toList = [] := by rw [sb_toList]; intro e; have := sb_length g; rw [e] at this; simp at this; omega
  have t0 : g.toList.isEmpty = false := by simpa using hne
  have t2 : decide ((64 : Int) < g.size) = false := by simp; omega
  have t3 : decide ((64 : Int) < h.size) = false := by simp; omega
  clear h1 h2 h3
  go_enter Tryz.func45, Tryz.ntmps45
  go_wp2_with fail
  go_ret
  exact ⟨rfl, below_box _ _⟩

theorem check_no (f : Nat) (g h : ByteArray) (w : World) (hm : ¬ mayX g h) (hg : g.size ≤ 140737488355328) (hh : h.size ≤ 140737488355328) :
    Calls Tryz.prog 45 #[xidV f g h] w fun e w' => e = .returned (.int .i64 40) ∧ Below w.heap.size w w' := by
  unfold xidV
  have hm' : g.size < 1 ∨ 64 < g.size ∨ 64 < h.size := by unfold mayX at hm; omega
  by_cases c1 : g.size < 1
  case' pos => have t1 : g.toList = [] := by rw [sb_toList]; exact List.eq_nil_of_length_eq_zero (by rw [sb_length]; omega)
  case' neg =>
    have hne : ¬ g.toList = [] := by rw [sb_toList]; intro e; have := sb_length g; rw [e] at this; simp at this; omega
    have t0 : g.toList.isEmpty = false := by simpa using hne
    by_cases c2 : 64 < g.size
    case' pos => have t2 : decide ((64 : Int) < g.size) = true := by simp; omega
    case' neg =>
      have t2 : decide ((64 : Int) < g.size) = false := by simp; omega
      have t3 : decide ((64 : Int) < h.size) = true := by simp; omega
  all_goals
    clear hm hm'
    try clear c1
    try clear c2
    go_enter Tryz.func45, Tryz.ntmps45
    go_wp2_with fail
    go_ret
    exact ⟨rfl, below_box _ _⟩

/-- What cmp.Compare of two numbers answers. -/
def cmpN (a b : Nat) : Int := if a < b then -1 else if b < a then 1 else 0
/-- What cmp.Or of three numbers answers. -/
def orD (x y z : Int) : Int := if x ≠ 0 then x else if y ≠ 0 then y else z
end Go.Proofs.YtdjahdnaihijjaaGreatDoor
