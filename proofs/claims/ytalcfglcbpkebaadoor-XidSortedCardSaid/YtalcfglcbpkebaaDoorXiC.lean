/-
  The contracts of strconv.AppendUint at base 10 and of xid's appendHex and Text.
  Conditions: the table of powers of ten reads as the library's own text lays it.
-/
import Derived.Test.YtalcfglcbpkebaaDoorXiB
import Derived.Test.YtalcfglcbpkebaaDoorRef04E
import Derived.Test.YtalcfglcbpkebaaDoorLayA
import Derived.Shelf.Strconv.AppendUint10
namespace Go.Proofs.YtalcfglcbpkebaaDoor
open Go.RowKit
set_option linter.unusedVariables false
set_option linter.unusedSimpArgs false

/-- The table of powers of ten lies as its text lays it. -/
def Tab (w : World) : Prop := Lib.TabIs Tryd.prog w "internal/strconv.uint64pow10" .u64 Lib.pow10Tab
theorem Tab.below {w w' : World} (h : Tab w) (hb : Below w.heap.size w w') : Tab w' := Lib.tabBelow_of_tabIs h w' hb

theorem digD_dec (u : Nat) : Lib.decDigits u = digD u := by
  induction u using Nat.strongRecOn with
  | ind u ih =>
    by_cases h : u < 10
    · rw [Lib.decDigits_one h, digD_small h]
    · rw [Lib.decDigits, dif_neg h, digD_step (by omega), ih (u / 10) (by omega)]

theorem appendUint_in (u : Nat) (w : World) (hu : u < 18446744073709551616) (hT : Tab w) :
    Calls Tryd.prog 56 #[.slice none 0 0, .int .u64 u, .int .i64 10] w fun e w' => ∃ v', e = .returned v' ∧ Own 5 w' w.heap.size v' (digD u) ∧ Below w.heap.size w w' := by
  have hn : w.ownsRow w.heap.size 5 1 (.slice none 0 0) 0 [] := World.ownsRow_nil w _ _ _
  rw [← digD_dec]
  by_cases h : u < 100
  · refine (Any.internal_strconv_AppendUint_10_small lays288 w.heap.size 0 u h _ [] w hn (Nat.le_refl _) (by omega)).mono ?_
    rintro e w' ⟨v', rfl, ho, hb, _⟩
    refine ⟨v', rfl, ?_, hb⟩
    rw [Nat.zero_add, List.nil_append] at ho
    exact ho
  · refine (Any.internal_strconv_AppendUint_10_big lays288 w.heap.size 0 u (by omega) hu _ [] w hn (Nat.le_refl _) (by omega) hT).mono ?_
    rintro e w' ⟨v', rfl, ho, hb, _⟩
    refine ⟨v', rfl, ?_, hb⟩
    rw [Nat.zero_add, List.nil_append] at ho
    exact ho

theorem appendUint_any (u : Nat) (w : World) (hu : u < 18446744073709551616) (hT : Tab w) :
    Calls Tryd.prog 35 #[.slice none 0 0, .int .u64 u, .int .i64 10] w fun e w' => ∃ v', e = .returned v' ∧ Own 5 w' w.heap.size v' (digD u) ∧ Below w.heap.size w w' := by
  have h := Lib.hid (appendUint_in u w hu hT)
  clear hT hu
  go_enter Tryd.func35, Tryd.ntmps35
  go_wp2_with fail
  refine h.out.mono ?_
  rintro e w' ⟨v', rfl, ho, hb⟩
  go_wp2_with fail
  go_ret
  exact ⟨v', rfl, ho, hb⟩

end Go.Proofs.YtalcfglcbpkebaaDoor
