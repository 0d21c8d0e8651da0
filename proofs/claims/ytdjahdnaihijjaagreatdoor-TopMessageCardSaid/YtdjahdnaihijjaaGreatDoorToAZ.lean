/-
  The contract of the theorems' awake: a name's text and the check sum of nine digits come out as the document has them.
  Conditions: crc's table reads as the program lays it.
-/
import Derived.Lib.SlBytesConst
import Derived.Test.YtdjahdnaihijjaaGreatDoorRef04EZ
import Derived.Test.YtdjahdnaihijjaaGreatDoorCrcTZ
namespace Go.Proofs.YtdjahdnaihijjaaGreatDoor
open Go.RowKit
set_option linter.unusedVariables false
set_option linter.unusedSimpArgs false

theorem sum_nine : Crc.sum [49, 50, 51, 52, 53, 54, 55, 56, 57] = 3808858755 := by kernel_rfl
theorem text_seven : str8 (textX 7 ⟨#[97]⟩ ⟨#[]⟩) = ⟨#[55, 46, 54, 49, 46]⟩ := by
  rw [show textX 7 ⟨#[97]⟩ ⟨#[]⟩ = digD 7 ++ [46] ++ hexD (sb ⟨#[97]⟩) ++ [46] ++ hexD (sb ⟨#[]⟩) from rfl, digD_small (by omega)]
  rfl

set_option maxRecDepth 100000 in
set_option maxHeartbeats 4000000 in
theorem awake_any (w : World) (h : Crc.Tab w) : Calls Tryz.prog 5 #[] w fun e w' => e = .returned (.bool true) ∧ Below w.heap.size w w' := by
  have hx := fun w => text_ok 7 ⟨#[97]⟩ ⟨#[]⟩ w (by decide) (by omega)
  rw [text_seven] at hx
  have HX := Lib.hid hx
  clear hx
  unfold xidV at HX
  have kc := fun (x : World) (C : Array Value) (n c : Nat) => Lib.run_convert_bytes_const (P := Tryz.prog) x 47 5 C n c Tryz.underlying47 Tryz.underlying5
  go_enter Tryz.func5, Tryz.ntmps5
  go_wp2_with fail
  refine (HX.out _).mono ?_
  rintro e w1 ⟨rfl, hb1⟩
  have h1 := h.below hb1 h.1
  have hz1 := hb1.size
  go_wp2_with fail
  have s3 : Shows (w1.alloc (.cells #[.int .u8 49, .int .u8 50, .int .u8 51, .int .u8 52, .int .u8 53, .int .u8 54, .int .u8 55, .int .u8 56, .int .u8 57] 5 (9, 10))) w1.heap.size (.slice (some ⟨w1.heap.size, 0, none⟩) 9 9) [49, 50, 51, 52, 53, 54, 55, 56, 57] := Shows.lit' (w := w1) [49, 50, 51, 52, 53, 54, 55, 56, 57] (by simp [bs, u8c]) (by simp [maxLen])
  have hsum := Crc.sum_any (some ⟨w1.heap.size, 0, none⟩) 9 w1.heap.size [49, 50, 51, 52, 53, 54, 55, 56, 57] _ (h1.below ((Below.refl _ _).alloc (Nat.le_refl _) _) h1.1) s3 (by simp)
  rw [sum_nine] at hsum
  have hby : Below w.heap.size w (w1.alloc (.cells #[.int .u8 49, .int .u8 50, .int .u8 51, .int .u8 52, .int .u8 53, .int .u8 54, .int .u8 55, .int .u8 56, .int .u8 57] 5 (9, 10))) := hb1.alloc hb1.size _
  generalize w1.alloc _ = y at *
  refine hsum.mono ?_
  rintro e w3 ⟨rfl, rfl⟩
  go_wp2_with fail
  go_ret
  exact ⟨rfl, hby⟩

end Go.Proofs.YtdjahdnaihijjaaGreatDoor
