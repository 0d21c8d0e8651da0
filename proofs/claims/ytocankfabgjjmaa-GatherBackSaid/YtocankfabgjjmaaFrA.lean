/-
  Frames, and how they lie in memory; the contracts of frame.Check, flagsOf, header, Put, and of the document's own Check, bit, Put for frames.
  Conditions: none but sizes.
-/
import Derived.Test.YtocankfabgjjmaaP
import Derived.Test.YtocankfabgjjmaaGen
import Derived.Test.YtocankfabgjjmaaOctB
import Derived.Test.YtocankfabgjjmaaOctBig
import Derived.WalkKit
import Derived.Deep.RegionWith
namespace Go.Proofs.Ytocankfabgjjmaa
open Go.RowKit
set_option linter.unusedVariables false
set_option linter.unusedSimpArgs false

/-- A frame: First, Last, Begin, End, Type, Track, Channel, Payload. -/
structure Fr where
  a : Bool
  b : Bool
  c : Bool
  d : Bool
  t : Nat
  k : Nat
  ch : Nat
  p : ByteArray
deriving DecidableEq

def Fr.vs (f : Fr) : List Value := [.bool f.a, .bool f.b, .bool f.c, .bool f.d, .int .u8 f.t, .int .u8 f.k, .int .u16 f.ch, .string f.p]
/-- How a frame lies: eight cells. -/
def frC : Code Fr := { enc := Fr.vs, sz := 8, len := fun _ => rfl, one := fun x u hu => by simp [Fr.vs] at hu; rcases hu with rfl | rfl | rfl | rfl | rfl | rfl | rfl | rfl <;> rfl, pos := by omega }
/-- Its numbers are of their kinds, its payload is not greater than may come in. -/
def Fr.ok (f : Fr) : Prop := f.t < 256 ∧ f.k < 256 ∧ f.ch < 65536 ∧ f.p.size ≤ 140737488351232

/-- Eight cells in a block of the call's own. -/
def BoxF (w : World) (b : Nat) (f : Fr) : Prop := w.heap[b]? = some (.cells #[.bool f.a, .bool f.b, .bool f.c, .bool f.d, .int .u8 f.t, .int .u8 f.k, .int .u16 f.ch, .string f.p] 30 (0, 0))
section
variable {w w' : World} {b B : Nat} {f : Fr}
theorem BoxF.new (w : World) (f : Fr) : BoxF (w.alloc (Obj.cells #[.bool f.a, .bool f.b, .bool f.c, .bool f.d, .int .u8 f.t, .int .u8 f.k, .int .u16 f.ch, .string f.p] 30)) w.heap.size f := heap_alloc_new w _
theorem BoxF.lt (h : BoxF w b f) : b < w.heap.size := (Array.getElem?_eq_some_iff.1 h).1
theorem BoxF.kept (h : BoxF w b f) (hb : Below B w w') (hB : w.heap.size ≤ B) : BoxF w' b f := (hb.block b (Nat.lt_of_lt_of_le h.lt hB)).trans h
theorem BoxF.c0 (h : BoxF w b f) : w.cell? ⟨b, 0, none⟩ = some (.bool f.a) := by rw [cell_of_row w b _ _ 30 (0, 0) h]; rfl
theorem BoxF.c1 (h : BoxF w b f) : w.cell? ⟨b, 1, none⟩ = some (.bool f.b) := by rw [cell_of_row w b _ _ 30 (0, 0) h]; rfl
theorem BoxF.c2 (h : BoxF w b f) : w.cell? ⟨b, 2, none⟩ = some (.bool f.c) := by rw [cell_of_row w b _ _ 30 (0, 0) h]; rfl
theorem BoxF.c3 (h : BoxF w b f) : w.cell? ⟨b, 3, none⟩ = some (.bool f.d) := by rw [cell_of_row w b _ _ 30 (0, 0) h]; rfl
theorem BoxF.c4 (h : BoxF w b f) : w.cell? ⟨b, 4, none⟩ = some (.int .u8 f.t) := by rw [cell_of_row w b _ _ 30 (0, 0) h]; rfl
theorem BoxF.c5 (h : BoxF w b f) : w.cell? ⟨b, 5, none⟩ = some (.int .u8 f.k) := by rw [cell_of_row w b _ _ 30 (0, 0) h]; rfl
theorem BoxF.c6 (h : BoxF w b f) : w.cell? ⟨b, 6, none⟩ = some (.int .u16 f.ch) := by rw [cell_of_row w b _ _ 30 (0, 0) h]; rfl
theorem BoxF.c7 (h : BoxF w b f) : w.cell? ⟨b, 7, none⟩ = some (.string f.p) := by rw [cell_of_row w b _ _ 30 (0, 0) h]; rfl
end
theorem f_below_box (w : World) (o : Obj) : Below w.heap.size w (w.alloc o) := (Below.refl _ _).alloc (Nat.le_refl _) o

/-! ### Check -/
/-- What Check tells. -/
def checkF (f : Fr) : Nat := if 3 < f.t ∨ 15 < f.k ∨ 4084 < f.p.size then 60 else 0

set_option maxRecDepth 100000 in
set_option maxHeartbeats 1000000 in
theorem fcheck_any (f : Fr) (w : World) (hz : f.p.size ≤ 140737488351232) :
    Calls Try.prog 23 #[.agg f.vs.toArray] w fun e w' => e = .returned (.int .i64 (checkF f)) ∧ Below w.heap.size w w' := by
  obtain ⟨a, b, c, d, t, k, ch, p⟩ := f
  simp only [Fr.vs, checkF] at hz ⊢
  by_cases h1 : 3 < t
  · have i1 : (3 : Int) < (t : Int) := by omega
    rw [if_pos (.inl h1)]
    go_enter Try.func23, Try.ntmps23
    go_wp2_with fail
    go_ret
    exact ⟨rfl, f_below_box _ _⟩
  · have i1 : ¬ (3 : Int) < (t : Int) := by omega
    by_cases h2 : 15 < k
    · have i2 : (15 : Int) < (k : Int) := by omega
      rw [if_pos (.inr (.inl h2))]
      go_enter Try.func23, Try.ntmps23
      go_wp2_with fail
      go_ret
      exact ⟨rfl, f_below_box _ _⟩
    · have i2 : ¬ (15 : Int) < (k : Int) := by omega
      by_cases h3 : 4084 < p.size
      · have i3 : (4084 : Int) < (p.size : Int) := by omega
        rw [if_pos (.inr (.inr h3))]
        go_enter Try.func23, Try.ntmps23
        go_wp2_with fail
        go_ret
        exact ⟨rfl, f_below_box _ _⟩
      · have i3 : ¬ (4084 : Int) < (p.size : Int) := by omega
        rw [if_neg (by omega)]
        go_enter Try.func23, Try.ntmps23
        go_wp2_with fail
        go_ret
        exact ⟨rfl, f_below_box _ _⟩

set_option maxRecDepth 100000 in
set_option maxHeartbeats 1000000 in
theorem qfcheck_any (f : Fr) (w : World) (hz : f.p.size ≤ 140737488351232) :
    Calls Try.prog 18 #[.agg f.vs.toArray] w fun e w' => e = .returned (.int .i64 (checkF f)) ∧ Below w.heap.size w w' := by
  obtain ⟨a, b, c, d, t, k, ch, p⟩ := f
  simp only [Fr.vs, checkF] at hz ⊢
  by_cases h1 : 3 < t
  · have i1 : (3 : Int) < (t : Int) := by omega
    rw [if_pos (.inl h1)]
    go_enter Try.func18, Try.ntmps18
    go_wp2_with fail
    go_ret
    exact ⟨rfl, f_below_box _ _⟩
  · have i1 : ¬ (3 : Int) < (t : Int) := by omega
    by_cases h2 : 15 < k
    · have i2 : (15 : Int) < (k : Int) := by omega
      rw [if_pos (.inr (.inl h2))]
      go_enter Try.func18, Try.ntmps18
      go_wp2_with fail
      go_ret
      exact ⟨rfl, f_below_box _ _⟩
    · have i2 : ¬ (15 : Int) < (k : Int) := by omega
      by_cases h3 : 4084 < p.size
      · have i3 : (4084 : Int) < (p.size : Int) := by omega
        rw [if_pos (.inr (.inr h3))]
        go_enter Try.func18, Try.ntmps18
        go_wp2_with fail
        go_ret
        exact ⟨rfl, f_below_box _ _⟩
      · have i3 : ¬ (4084 : Int) < (p.size : Int) := by omega
        rw [if_neg (by omega)]
        go_enter Try.func18, Try.ntmps18
        go_wp2_with fail
        go_ret
        exact ⟨rfl, f_below_box _ _⟩

/-! ### the header -/
/-- The byte of flags. -/
def flagsD (f : Fr) : Nat := (if f.a = true then 8 else 0) + (if f.b = true then 4 else 0) + (if f.c = true then 2 else 0) + (if f.d = true then 1 else 0)
theorem flagsD_lt (f : Fr) : flagsD f < 16 := by
  unfold flagsD
  split <;> split <;> split <;> split <;> decide

/-- What stands ahead of the payload. -/
def f_headB (f : Fr) : List UInt8 := be 1 (flagsD f) ++ be 1 f.t ++ be 2 (12 + f.p.size) ++ be 1 0 ++ be 1 f.k ++ be 2 f.ch ++ be 4 0
theorem headB_length (f : Fr) : (f_headB f).length = 12 := by simp [f_headB, be_length]
/-- A frame's bytes. -/
def encF (f : Fr) : List UInt8 := f_headB f ++ sb f.p
theorem encF_length (f : Fr) : (encF f).length = 12 + f.p.size := by simp [encF, headB_length, sb_length]

theorem u8u64 (k : Nat) (hk : k < 256) : IntKind.u64.wrap (k : Int) = (k : Int) := by rw [IntKind.wrap_u64]; omega

end Go.Proofs.Ytocankfabgjjmaa
