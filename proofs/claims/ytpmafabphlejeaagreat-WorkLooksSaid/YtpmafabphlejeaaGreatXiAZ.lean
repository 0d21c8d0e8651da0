/-
  Texts, together: XiA, XiR.
  Conditions: none but sizes.
-/
import Derived.Lib.Bytealg
import Derived.StillTailTactics
import Derived.Deep.RegionWith
import Derived.Sort.Grow
import Derived.Test.YtpmafabphlejeaaGreatRef04AZ
import Derived.Lib.SmallJoins
import Derived.Test.YtpmafabphlejeaaGreatRowkitZ
/-
  The contracts of xid's Check, OneGlobal, Compare and of what they call.
  Conditions: none but sizes.
-/
namespace Go.Proofs.YtpmafabphlejeaaGreat
open Go.RowKit
set_option linter.unusedVariables false
set_option linter.unusedSimpArgs false

theorem x_check_ok (f : Nat) (g h : ByteArray) (w : World) (hm : mayX g h) :
    Calls Tryz.prog 48 #[xidV f g h] w fun e w' => e = .returned (.int .i64 0) ∧ Below w.heap.size w w' := by
  obtain ⟨h1, h2, h3⟩ := hm
  unfold xidV
  have hne : ¬ g.toList = [] := by rw [sb_toList]; intro e; have := sb_length g; rw [e] at this; simp at this; omega
  have t0 : g.toList.isEmpty = false := by simpa using hne
  have t2 : decide ((64 : Int) < g.size) = false := by simp; omega
  have t3 : decide ((64 : Int) < h.size) = false := by simp; omega
  clear h1 h2 h3
  go_enter Tryz.func48, Tryz.ntmps48
  go_wp2_with fail
  go_ret
  exact ⟨rfl, below_box _ _⟩

theorem check_no (f : Nat) (g h : ByteArray) (w : World) (hm : ¬ mayX g h) (hg : g.size ≤ 140737488355328) (hh : h.size ≤ 140737488355328) :
    Calls Tryz.prog 48 #[xidV f g h] w fun e w' => e = .returned (.int .i64 40) ∧ Below w.heap.size w w' := by
  unfold xidV
  have hm' : g.size < 1 ∨ 64 < g.size ∨ 64 < h.size := by unfold mayX at hm; omega
  by_cases c1 : g.size < 1
  case' pos => have t1 : g.toList = [] := by rw [sb_toList]; exact List.eq_nil_of_length_eq_zero (by rw [sb_length]; omega)
  case' neg =>
    have hne : ¬ g.toList = [] := by rw [sb_toList]; intro e; have := sb_length g; rw [e] at this; simp at this; omega
    have t0 : g.toList.isEmpty = false := by simpa using hne
    by_cases c2 : 64 < g.size
    case' pos => have t2 : decide ((64 : Int) < g.size) = true := by simp; omega
    case' neg =>
      have t2 : decide ((64 : Int) < g.size) = false := by simp; omega
      have t3 : decide ((64 : Int) < h.size) = true := by simp; omega
  all_goals
    clear hm hm'
    try clear c1
    try clear c2
    go_enter Tryz.func48, Tryz.ntmps48
    go_wp2_with fail
    go_ret
    exact ⟨rfl, below_box _ _⟩

/-- What cmp.Compare of two numbers answers. -/
def cmpN (a b : Nat) : Int := if a < b then -1 else if b < a then 1 else 0
/-- What cmp.Or of three numbers answers. -/
def orD (x y z : Int) : Int := if x ≠ 0 then x else if y ≠ 0 then y else z
end Go.Proofs.YtpmafabphlejeaaGreat
/-
  How an argument is opened that is a name.
  Conditions: none.
-/
namespace Go.Proofs.YtpmafabphlejeaaGreat
open Go.ChangeShapes Go.WideShapes Go.ChangeAt Go.RowKit
open Go.ChangeMaps (open_string shut_string)
set_option linter.unusedVariables false
set_option linter.unusedSimpArgs false

section
variable {H : Type} {enc : TypeId × Value → H} {w : World} {base : Nat} {spare : Nat → Bool} {held : Bool}
set_option maxRecDepth 100000 in
theorem open_xid {r : Reach} {b0 : Nat} {v : Value} {d : DataW H} {p : List MemPlace} (hv : Value.okWide Tryz.prog w r b0 55 v) (h : DataW.Trod enc Tryz.prog w base spare held 55 v d p)
    {ts : List TypeId} {ds : List (DataW H)} (hsz : (DataW.weightsEach Tryz.prog ts ds).all (· ≤ reachBytes) = true) (j : Nat) (hj : ts[j]? = some 55) (hd : ds[j]? = some d) :
    ∃ (f : Nat) (g h : ByteArray), v = xidV f g h ∧ f < 4294967296 ∧ g.size ≤ 140737488351232 ∧ h.size ≤ 140737488351232 := by
  obtain ⟨c0, c1, c2, y0, y1, y2, m, rfl, rfl, rfl, hy0, hy1, hy2⟩ := Go.Joins.open_agg3 Tryz.underlying55 (by kernel_rfl) (by kernel_rfl) hv h
  obtain ⟨a, e0, rfl, wa⟩ := DataW.trod_int Tryz.underlying53 hy0
  obtain ⟨s1, e1, rfl, z1⟩ := DataW.trod_string Tryz.underlying9 hy1
  obtain ⟨s2, e2, rfl, z2⟩ := DataW.trod_string Tryz.underlying9 hy2
  simp at e0 e1 e2
  subst e0 e1 e2
  obtain ⟨a0, a1⟩ := u32_range wa
  obtain ⟨f, rfl⟩ := Int.eq_ofNat_of_zero_le a0
  have hb : reachBytes = 140737488351232 := by decide
  have hw : ∀ x, x ∈ DataW.weights (H := H) Tryz.prog 55 (.agg [.lit (.int .u32 (f : Int)), .lit (.string s1.data.toList), .lit (.string s2.data.toList)]) → x ≤ 140737488351232 := fun x hx => by
    have := List.all_eq_true.1 hsz _ (DataW.weights_mem_each hj hd x hx)
    rw [← hb]
    simpa using this
  have hm : DataW.weights (H := H) Tryz.prog 55 (.agg [.lit (.int .u32 (f : Int)), .lit (.string s1.data.toList), .lit (.string s2.data.toList)]) = [s1.data.toList.length, s2.data.toList.length] := by
    simp [DataW.weights, DataW.weightsEach, Tryz.underlying55]
  rw [hm] at hw
  have b1 := hw s1.data.toList.length (by simp)
  have b2 := hw s2.data.toList.length (by simp)
  exact ⟨f, s1, s2, rfl, by omega, by rw [← sb_length]; exact b1, by rw [← sb_length]; exact b2⟩
end

end Go.Proofs.YtpmafabphlejeaaGreat
