/-
  The contracts of the reader's Text and of Open.
-/
import Derived.Test.YtmpcddljgcckcaaDoorOctD
namespace Go.Proofs.YtmpcddljgcckcaaDoor
open Go.RowKit
set_option linter.unusedVariables false
set_option linter.unusedSimpArgs false

theorem grown_trans' {a b c : World} {r : Option Nat} (h : a.grownBy b r) (k : b.grownBy c r) : a.grownBy c r :=
  ⟨k.os.trans h.os, k.tape.trans h.tape, k.output.trans h.output, Nat.le_trans h.size k.size, fun i hi hne => (k.block i (Nat.lt_of_lt_of_le hi h.size) hne).trans (h.block i hi hne)⟩

/-- What Text does behind the length. -/
def textT (most : Int) (p : Nat × Option (List UInt8)) : List UInt8 × Option (List UInt8) :=
  if most < 0 ∨ most < p.1 then ([], (takeS (-1) p.2).2) else takeS (p.1 : Nat) p.2
/-- What Text does. -/
def textS (q most : Int) (s : Option (List UInt8)) : List UInt8 × Option (List UInt8) := textT most (numS (if txt q = true then q else -1) s)

theorem takeS_lenS (n : Int) (s : Option (List UInt8)) : lenS (takeS n s).2 ≤ lenS s := by
  cases s with
  | none => simp [takeS]
  | some l => simp only [takeS]; split <;> simp [lenS]
theorem numS_lenS (q : Int) (s : Option (List UInt8)) : lenS (numS q s).2 ≤ lenS s := takeS_lenS _ _

set_option maxHeartbeats 400000 in
theorem open_any (v : Value) (l : List UInt8) (d : Nat) (w : World) (h : Shows w d v l) (hl : l.length ≤ 140737488355328) :
    Calls Tryd.prog 31 #[v] w fun e w' => ∃ g d', e = .returned (.pointer (some ⟨g, 0, none⟩)) ∧ RS w' g d' (some l) ∧ w.heap.size ≤ g ∧ (w.heap.size ≤ d' ∧ d' ≤ g) ∧ Below w.heap.size w w' := by
  go_enter Tryd.func31, Tryd.ntmps31
  go_wp2_with fail
  refine (joined_any v _ l [] d 0 _ h (Shows.nil_ _ _) (by simpa using hl)).mono ?_
  rintro e w1 ⟨v1, rfl, ho1, hb1⟩
  rw [List.append_nil] at ho1
  obtain ⟨g1, hge, hgl, hs1⟩ := ho1.shows' hb1.size
  have hs := hs1
  obtain ⟨A, c, rfl, _⟩ := hs1
  go_wp2_with fail
  go_ret
  exact ⟨w1.heap.size, g1, rfl, ⟨A, c, heap_alloc_new w1 _, hs.keep (by simp) (fun hp => Below.heap_alloc w1 _ _ (hs.lt hp))⟩, hb1.size, ⟨hge, hgl⟩, hb1.alloc hb1.size _⟩

end Go.Proofs.YtmpcddljgcckcaaDoor
