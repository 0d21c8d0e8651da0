/-
  What crc.Open and the document's Open hand out, in one form.
  Conditions: the table reads as the program lays it; at most 2^47 bytes.
-/
import Derived.Test.YtmpcddljgcckcaaDoorCrcD
namespace Go.Proofs.YtmpcddljgcckcaaDoor
namespace Crc
open Go.RowKit
set_option linter.unusedVariables false

instance (l : List UInt8) : Decidable (okSeal l) := by unfold okSeal; infer_instance
/-- What Open hands out. -/
def openD (l : List UInt8) : List UInt8 := if okSeal l then l.take (l.length - 4) else []
theorem openD_length (l : List UInt8) : (openD l).length ≤ l.length := by
  unfold openD
  split
  · simp
  · simp

theorem open_own (A : Option Addr) (c n d : Nat) (l : List UInt8) (w : World) (h : Tab w) (hl : Shows w d (.slice A n c) l) (hb : n ≤ 140737488355328) :
    Calls Tryd.prog 30 #[.slice A n c] w fun e w' => ∃ v, e = .returned (.tuple #[v, .bool (decide (okSeal l))]) ∧ Below w.heap.size w w' ∧ Own 5 w' w.heap.size v (openD l) := by
  refine (open_any A c n d l w h hl hb).mono ?_
  rintro e w' ⟨v, b, rfl, hbl, ⟨rfl, h1, h2⟩ | ⟨rfl, h1, rfl⟩⟩
  · exact ⟨v, by simp [h1], hbl, by rw [openD, if_pos h1]; exact h2⟩
  · exact ⟨.slice none 0 0, by simp [h1], hbl, by rw [openD, if_neg h1]; exact Own.nil_ _ _ _⟩
theorem qopen_own (A : Option Addr) (c n d : Nat) (l : List UInt8) (w : World) (hl : Shows w d (.slice A n c) l) (hb : n ≤ 140737488355328) :
    Calls Tryd.prog 33 #[.slice A n c] w fun e w' => ∃ v, e = .returned (.tuple #[v, .bool (decide (okSeal l))]) ∧ Below w.heap.size w w' ∧ Own 5 w' w.heap.size v (openD l) := by
  refine (qopen_any A c n d l w hl hb).mono ?_
  rintro e w' ⟨v, b, rfl, hbl, ⟨rfl, h1, h2⟩ | ⟨rfl, h1, rfl⟩⟩
  · exact ⟨v, by simp [h1], hbl, by rw [openD, if_pos h1]; exact h2⟩
  · exact ⟨.slice none 0 0, by simp [h1], hbl, by rw [openD, if_neg h1]; exact Own.nil_ _ _ _⟩

theorem sealD_okD (l : List UInt8) : decide (okSeal (sealD l)) = true := by simp [sealD_ok]
theorem openD_sealD (l : List UInt8) : openD (sealD l) = l := by
  rw [openD, if_pos (sealD_ok l), sealD_length, show l.length + 4 - 4 = l.length by omega, sealD, List.take_left]

end Crc
end Go.Proofs.YtmpcddljgcckcaaDoor
