/-
  What the rows of this seat share: the table out of the row's condition; the witness's start; names that came in.
  Conditions: none.
-/
import Derived.Test.YtalcfglcbpkebaaDoorXiN
import Derived.Test.YtalcfglcbpkebaaDoorRowkit
import Derived.LaidMore
import Derived.LaidSub
import Derived.Stop.Joined
import Derived.Lib.LaidTab
import Derived.Lib.SmallJoins
namespace Go.Proofs.YtalcfglcbpkebaaDoor
open Go.ChangeShapes Go.WideShapes Go.ChangeAt Go.RowKit
open Go.ChangeMaps (open_string shut_string)
set_option linter.unusedVariables false
set_option linter.unusedSimpArgs false

theorem gTab : Tryd.prog.globalNamed "internal/strconv.uint64pow10" = some 1 := by kernel_rfl
theorem tTab : (Tryd.prog.globals[1]?).map (·.type) = some 119 := by kernel_rfl

/-- What the row lists. -/
def laid1 {H : Type} : List (String × DataW H) := [("math/bits.deBruijn32tab", Rows.laid_math_bits_deBruijn32tab), ("math/bits.deBruijn64tab", Rows.laid_math_bits_deBruijn64tab), ("internal/strconv.uint64pow10", Rows.laid_internal_strconv_uint64pow10)]

/-- The door's own heap meets the condition. -/
theorem door_met (os : Os) (args : Array Value) : laidMetH Tryd.prog laid1 ((World.doorLaid Tryd.prog 24 os).forCall (fun _ _ => 0) ⟨#[], args, []⟩).memory :=
  laidMetH_of_parts3 (fuel := 8) (laidMet_of_run' 8 (by kernel_rfl) (by kernel_rfl)) (by kernel_rfl) (by kernel_rfl)

theorem tab_of_laid {W : World} (h : laidMetH Tryd.prog laid1 W) : Tab W := by
  rw [MakeChecks.laidMetH_plain _ _ _ (by kernel_rfl)] at h
  have h2 := laidMet.filter (fun x => x.1 == "internal/strconv.uint64pow10") h
  exact Lib.tabIs_of_head (P := Tryd.prog) (W := W) (k := .u64) (zs := Lib.pow10Tab) (rest := []) gTab tTab Tryd.underlying119 Tryd.underlying63 (by kernel_rfl) (by kernel_rfl) h2

section
variable {H : Type} {enc : TypeId × Value → H} {w : World} {base : Nat} {spare : Nat → Bool} {held : Bool}
set_option maxRecDepth 100000 in
/-- A name that came in by value. -/
theorem open_xid {r : Reach} {b0 : Nat} {v : Value} {d : DataW H} {p : List MemPlace} (hv : Value.okWide Tryd.prog w r b0 24 v) (h : DataW.Trod enc Tryd.prog w base spare held 24 v d p)
    {ts : List TypeId} {ds : List (DataW H)} (hsz : (DataW.weightsEach Tryd.prog ts ds).all (· ≤ reachBytes) = true) (j : Nat) (hj : ts[j]? = some 24) (hd : ds[j]? = some d) :
    ∃ (f : Nat) (g h : ByteArray), v = xidV f g h ∧ f < 4294967296 ∧ g.size ≤ 140737488351232 ∧ h.size ≤ 140737488351232 := by
  obtain ⟨c0, c1, c2, y0, y1, y2, m, rfl, rfl, rfl, hy0, hy1, hy2⟩ := Go.Joins.open_agg3 Tryd.underlying24 (by kernel_rfl) (by kernel_rfl) hv h
  obtain ⟨a, e0, rfl, wa⟩ := DataW.trod_int Tryd.underlying22 hy0
  obtain ⟨s1, e1, rfl, z1⟩ := DataW.trod_string Tryd.underlying9 hy1
  obtain ⟨s2, e2, rfl, z2⟩ := DataW.trod_string Tryd.underlying9 hy2
  simp at e0 e1 e2
  subst e0 e1 e2
  obtain ⟨a0, a1⟩ := u32_range wa
  obtain ⟨f, rfl⟩ := Int.eq_ofNat_of_zero_le a0
  have hb : reachBytes = 140737488351232 := by decide
  have hw : ∀ x, x ∈ DataW.weights (H := H) Tryd.prog 24 (.agg [.lit (.int .u32 (f : Int)), .lit (.string s1.data.toList), .lit (.string s2.data.toList)]) → x ≤ 140737488351232 := fun x hx => by
    have := List.all_eq_true.1 hsz _ (DataW.weights_mem_each hj hd x hx)
    rw [← hb]
    simpa using this
  have hm : DataW.weights (H := H) Tryd.prog 24 (.agg [.lit (.int .u32 (f : Int)), .lit (.string s1.data.toList), .lit (.string s2.data.toList)]) = [s1.data.toList.length, s2.data.toList.length] := by
    simp [DataW.weights, DataW.weightsEach, Tryd.underlying24]
  rw [hm] at hw
  have b1 := hw s1.data.toList.length (by simp)
  have b2 := hw s2.data.toList.length (by simp)
  exact ⟨f, s1, s2, rfl, by omega, by rw [← sb_length]; exact b1, by rw [← sb_length]; exact b2⟩
end

end Go.Proofs.YtalcfglcbpkebaaDoor
