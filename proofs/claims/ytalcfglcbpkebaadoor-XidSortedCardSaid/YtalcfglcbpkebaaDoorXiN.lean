/-
  The law's head: the calls whose answers the document fixes.
  Conditions: the table of powers of ten reads as the library's own text lays it.
-/
import Derived.Test.YtalcfglcbpkebaaDoorXiT
import Derived.Test.YtalcfglcbpkebaaDoorXiE
namespace Go.Proofs.YtalcfglcbpkebaaDoor
open Go.RowKit
set_option linter.unusedVariables false
set_option linter.unusedSimpArgs false

set_option maxRecDepth 100000 in
theorem head_any (w : World) (hT : Tab w) : Calls Tryd.prog 16 #[] w fun e w' => e = .returned (.bool true) ∧ Below w.heap.size w w' := by
  have h1 := fun w hT => text_ok 7 { data := #[97, 98] } { data := #[] } w (by decide) (by decide) hT
  rw [show str8 (textX 7 { data := #[97, 98] } { data := #[] }) = { data := #[55, 46, 54, 49, 54, 50, 46] } by decide +kernel] at h1
  have h2 := fun w => parse_any { data := #[55, 46, 54, 49, 54, 50, 46] } w (by decide)
  rw [show parsedD (sb { data := #[55, 46, 54, 49, 54, 50, 46] }) = (7, [97, 98], []) by decide +kernel] at h2
  have h3 := fun w => parse_any { data := #[48, 55, 46, 54, 49, 46] } w (by decide)
  rw [show parsedD (sb { data := #[48, 55, 46, 54, 49, 46] }) = (0, [], []) by decide +kernel] at h3
  have H1 := Lib.hid h1
  have H2 := Lib.hid (show ∀ w, Calls Tryd.prog 23 #[.string { data := #[55, 46, 54, 49, 54, 50, 46] }] w fun e w' => e = .returned (.tuple #[.agg #[.int .u32 (7 : Nat), .string { data := #[97, 98] }, .string { data := #[] }], .int .i64 0]) ∧ Below w.heap.size w w' from h2)
  have H3 := Lib.hid (show ∀ w, Calls Tryd.prog 23 #[.string { data := #[48, 55, 46, 54, 49, 46] }] w fun e w' => e = .returned (.tuple #[.agg #[.int .u32 (0 : Nat), .string { data := #[] }, .string { data := #[] }], .int .i64 5]) ∧ Below w.heap.size w w' from h3)
  clear h1 h2 h3
  go_enter Tryd.func16, Tryd.ntmps16
  go_wp2_with fail
  refine (H1.out _ hT).mono ?_
  rintro e w1 ⟨rfl, hb1⟩
  go_wp2_with fail
  refine (H2.out _).mono ?_
  rintro e w2 ⟨rfl, hb2⟩
  go_wp2_with fail
  have hX2 : Boxed (w2.alloc (Obj.cells #[.int .u32 7, .string { data := #[97, 98] }, .string { data := #[] }] 24)) w2.heap.size 7 { data := #[97, 98] } { data := #[] } := Boxed.new w2
  have hb2' : Below w1.heap.size w1 (w2.alloc (Obj.cells #[.int .u32 7, .string { data := #[97, 98] }, .string { data := #[] }] 24)) := hb2.alloc hb2.size _
  have hbl2 := hb1.trans (hb2'.mono hb1.size)
  generalize w2.alloc (Obj.cells #[.int .u32 7, .string { data := #[97, 98] }, .string { data := #[] }] 24) = W2 at *
  refine (H3.out _).mono ?_
  rintro e w3 ⟨rfl, hb3⟩
  have hX3 := hX2.below hb3 hX2.lt
  have x0 := hX3.c0
  have x1 := hX3.c1
  have x2 := hX3.c2
  have hlt := hX3.lt
  have hbl3 := hbl2.trans (hb3.mono hbl2.size)
  go_wp2_with fail
  go_ret
  exact ⟨rfl, hbl3.alloc hbl3.size _⟩

end Go.Proofs.YtalcfglcbpkebaaDoor
