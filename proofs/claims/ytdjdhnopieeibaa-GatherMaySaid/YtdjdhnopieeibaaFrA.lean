/-
  Frames, and how they lie in memory; the contracts of frame.Check, flagsOf, header, Put, and of the document's own Check, bit, Put for frames.
  Conditions: none but sizes.
-/
import Derived.Test.YtdjdhnopieeibaaP
import Derived.Test.YtdjdhnopieeibaaGen
import Derived.Test.YtdjdhnopieeibaaOctB
import Derived.Test.YtdjdhnopieeibaaOctBig
import Derived.WalkKit
import Derived.Deep.RegionWith
namespace Go.Proofs.Ytdjdhnopieeibaa
open Go.RowKit
set_option linter.unusedVariables false
set_option linter.unusedSimpArgs false

/-- A frame: First, Last, Begin, End, Type, Track, Channel, Payload. -/
structure Fr where
  a : Bool
  b : Bool
  c : Bool
  d : Bool
  t : Nat
  k : Nat
  ch : Nat
  p : ByteArray
deriving DecidableEq

def Fr.vs (f : Fr) : List Value := [.bool f.a, .bool f.b, .bool f.c, .bool f.d, .int .u8 f.t, .int .u8 f.k, .int .u16 f.ch, .string f.p]
/-- How a frame lies: eight cells. -/
def frC : Code Fr := { enc := Fr.vs, sz := 8, len := fun _ => rfl, one := fun x u hu => by simp [Fr.vs] at hu; rcases hu with rfl | rfl | rfl | rfl | rfl | rfl | rfl | rfl <;> rfl, pos := by omega }
/-- Its numbers are of their kinds, its payload is not greater than may come in. -/
def Fr.ok (f : Fr) : Prop := f.t < 256 ∧ f.k < 256 ∧ f.ch < 65536 ∧ f.p.size ≤ 140737488351232

/-- Eight cells in a block of the call's own. -/
def BoxF (w : World) (b : Nat) (f : Fr) : Prop := w.heap[b]? = some (.cells #[.bool f.a, .bool f.b, .bool f.c, .bool f.d, .int .u8 f.t, .int .u8 f.k, .int .u16 f.ch, .string f.p] 40 (0, 0))
section
variable {w w' : World} {b B : Nat} {f : Fr}
theorem BoxF.new (w : World) (f : Fr) : BoxF (w.alloc (Obj.cells #[.bool f.a, .bool f.b, .bool f.c, .bool f.d, .int .u8 f.t, .int .u8 f.k, .int .u16 f.ch, .string f.p] 40)) w.heap.size f := heap_alloc_new w _
theorem BoxF.lt (h : BoxF w b f) : b < w.heap.size := (Array.getElem?_eq_some_iff.1 h).1
theorem BoxF.kept (h : BoxF w b f) (hb : Below B w w') (hB : w.heap.size ≤ B) : BoxF w' b f := (hb.block b (Nat.lt_of_lt_of_le h.lt hB)).trans h
theorem BoxF.c0 (h : BoxF w b f) : w.cell? ⟨b, 0, none⟩ = some (.bool f.a) := by rw [cell_of_row w b _ _ 40 (0, 0) h]; rfl
theorem BoxF.c1 (h : BoxF w b f) : w.cell? ⟨b, 1, none⟩ = some (.bool f.b) := by rw [cell_of_row w b _ _ 40 (0, 0) h]; rfl
theorem BoxF.c2 (h : BoxF w b f) : w.cell? ⟨b, 2, none⟩ = some (.bool f.c) := by rw [cell_of_row w b _ _ 40 (0, 0) h]; rfl
theorem BoxF.c3 (h : BoxF w b f) : w.cell? ⟨b, 3, none⟩ = some (.bool f.d) := by rw [cell_of_row w b _ _ 40 (0, 0) h]; rfl
theorem BoxF.c4 (h : BoxF w b f) : w.cell? ⟨b, 4, none⟩ = some (.int .u8 f.t) := by rw [cell_of_row w b _ _ 40 (0, 0) h]; rfl
theorem BoxF.c5 (h : BoxF w b f) : w.cell? ⟨b, 5, none⟩ = some (.int .u8 f.k) := by rw [cell_of_row w b _ _ 40 (0, 0) h]; rfl
theorem BoxF.c6 (h : BoxF w b f) : w.cell? ⟨b, 6, none⟩ = some (.int .u16 f.ch) := by rw [cell_of_row w b _ _ 40 (0, 0) h]; rfl
theorem BoxF.c7 (h : BoxF w b f) : w.cell? ⟨b, 7, none⟩ = some (.string f.p) := by rw [cell_of_row w b _ _ 40 (0, 0) h]; rfl
end
theorem below_box (w : World) (o : Obj) : Below w.heap.size w (w.alloc o) := (Below.refl _ _).alloc (Nat.le_refl _) o

/-! ### Check -/
/-- What Check tells. -/
def checkF (f : Fr) : Nat := if 3 < f.t ∨ 15 < f.k ∨ 4084 < f.p.size then 60 else 0

set_option maxRecDepth 100000 in
set_option maxHeartbeats 1000000 in
theorem fcheck_any (f : Fr) (w : World) (hz : f.p.size ≤ 140737488351232) :
    Calls Try.prog 14 #[.agg f.vs.toArray] w fun e w' => e = .returned (.int .i64 (checkF f)) ∧ Below w.heap.size w w' := by
  obtain ⟨a, b, c, d, t, k, ch, p⟩ := f
  simp only [Fr.vs, checkF] at hz ⊢
  by_cases h1 : 3 < t
  · have i1 : (3 : Int) < (t : Int) := by omega
    rw [if_pos (.inl h1)]
    go_enter Try.func14, Try.ntmps14
    go_wp2_with fail
    go_ret
    exact ⟨rfl, below_box _ _⟩
  · have i1 : ¬ (3 : Int) < (t : Int) := by omega
    by_cases h2 : 15 < k
    · have i2 : (15 : Int) < (k : Int) := by omega
      rw [if_pos (.inr (.inl h2))]
      go_enter Try.func14, Try.ntmps14
      go_wp2_with fail
      go_ret
      exact ⟨rfl, below_box _ _⟩
    · have i2 : ¬ (15 : Int) < (k : Int) := by omega
      by_cases h3 : 4084 < p.size
      · have i3 : (4084 : Int) < (p.size : Int) := by omega
        rw [if_pos (.inr (.inr h3))]
        go_enter Try.func14, Try.ntmps14
        go_wp2_with fail
        go_ret
        exact ⟨rfl, below_box _ _⟩
      · have i3 : ¬ (4084 : Int) < (p.size : Int) := by omega
        rw [if_neg (by omega)]
        go_enter Try.func14, Try.ntmps14
        go_wp2_with fail
        go_ret
        exact ⟨rfl, below_box _ _⟩

set_option maxRecDepth 100000 in
set_option maxHeartbeats 1000000 in
theorem qfcheck_any (f : Fr) (w : World) (hz : f.p.size ≤ 140737488351232) :
    Calls Try.prog 54 #[.agg f.vs.toArray] w fun e w' => e = .returned (.int .i64 (checkF f)) ∧ Below w.heap.size w w' := by
  obtain ⟨a, b, c, d, t, k, ch, p⟩ := f
  simp only [Fr.vs, checkF] at hz ⊢
  by_cases h1 : 3 < t
  · have i1 : (3 : Int) < (t : Int) := by omega
    rw [if_pos (.inl h1)]
    go_enter Try.func54, Try.ntmps54
    go_wp2_with fail
    go_ret
    exact ⟨rfl, below_box _ _⟩
  · have i1 : ¬ (3 : Int) < (t : Int) := by omega
    by_cases h2 : 15 < k
    · have i2 : (15 : Int) < (k : Int) := by omega
      rw [if_pos (.inr (.inl h2))]
      go_enter Try.func54, Try.ntmps54
      go_wp2_with fail
      go_ret
      exact ⟨rfl, below_box _ _⟩
    · have i2 : ¬ (15 : Int) < (k : Int) := by omega
      by_cases h3 : 4084 < p.size
      · have i3 : (4084 : Int) < (p.size : Int) := by omega
        rw [if_pos (.inr (.inr h3))]
        go_enter Try.func54, Try.ntmps54
        go_wp2_with fail
        go_ret
        exact ⟨rfl, below_box _ _⟩
      · have i3 : ¬ (4084 : Int) < (p.size : Int) := by omega
        rw [if_neg (by omega)]
        go_enter Try.func54, Try.ntmps54
        go_wp2_with fail
        go_ret
        exact ⟨rfl, below_box _ _⟩

/-! ### the header -/
/-- The byte of flags. -/
def flagsD (f : Fr) : Nat := (if f.a = true then 8 else 0) + (if f.b = true then 4 else 0) + (if f.c = true then 2 else 0) + (if f.d = true then 1 else 0)
theorem flagsD_lt (f : Fr) : flagsD f < 16 := by
  unfold flagsD
  split <;> split <;> split <;> split <;> decide

set_option maxRecDepth 100000 in
set_option maxHeartbeats 2000000 in
theorem flags_any (f : Fr) (w : World) : Calls Try.prog 74 #[.agg f.vs.toArray] w fun e w' => e = .returned (.int .u8 (flagsD f)) ∧ Below w.heap.size w w' := by
  obtain ⟨a, b, c, d, t, k, ch, p⟩ := f
  simp only [Fr.vs, flagsD]
  cases a <;> cases b <;> cases c <;> cases d
  all_goals
    go_enter Try.func74, Try.ntmps74
    go_wp2_with fail
    go_ret
    exact ⟨rfl, below_box _ _⟩

/-- What stands ahead of the payload. -/
def headB (f : Fr) : List UInt8 := be 1 (flagsD f) ++ be 1 f.t ++ be 2 (12 + f.p.size) ++ be 1 0 ++ be 1 f.k ++ be 2 f.ch ++ be 4 0
theorem headB_length (f : Fr) : (headB f).length = 12 := by simp [headB, be_length]
/-- A frame's bytes. -/
def encF (f : Fr) : List UInt8 := headB f ++ sb f.p
theorem encF_length (f : Fr) : (encF f).length = 12 + f.p.size := by simp [encF, headB_length, sb_length]

theorem u8u64 (k : Nat) (hk : k < 256) : IntKind.u64.wrap (k : Int) = (k : Int) := by rw [IntKind.wrap_u64]; omega

set_option maxRecDepth 100000 in
set_option maxHeartbeats 4000000 in
theorem header_any (f : Fr) (w : World) (hf : f.ok) (hp : f.p.size ≤ 4084) :
    Calls Try.prog 42 #[.agg f.vs.toArray] w fun e w' => ∃ v, e = .returned v ∧ Own 5 w' w.heap.size v (headB f) ∧ Below w.heap.size w w' := by
  have HFL := Lib.hid (fun w => flags_any f w)
  have HX := Lib.hid (BoxF.new w f)
  have HHB : Hid (headB f = be 1 (flagsD f) ++ be 1 f.t ++ be 2 (12 + f.p.size) ++ be 1 0 ++ be 1 f.k ++ be 2 f.ch ++ be 4 0) := Lib.hid rfl
  have hb0 := below_box w (Obj.cells #[.bool f.a, .bool f.b, .bool f.c, .bool f.d, .int .u8 f.t, .int .u8 f.k, .int .u16 f.ch, .string f.p] 40)
  have hflt := flagsD_lt f
  obtain ⟨h1, h2, h3, h4⟩ := hf
  have u1 : IntKind.u64.wrap (flagsD f : Int) = (flagsD f : Int) := u8u64 _ (by omega)
  have u2 : IntKind.u64.wrap (f.t : Int) = (f.t : Int) := u8u64 _ h1
  have u3 : IntKind.u64.wrap (f.k : Int) = (f.k : Int) := u8u64 _ h2
  have u4 : IntKind.u64.wrap (f.ch : Int) = (f.ch : Int) := by rw [IntKind.wrap_u64]; omega
  have u5 : IntKind.u64.wrap (12 + (f.p.size : Int)) = ((12 + f.p.size : Nat) : Int) := by rw [IntKind.wrap_u64]; omega
  have HP := Lib.hid (fun v l d n q w h hl => put_any v l d n q w h hl)
  have x0 := HX.out.c0
  generalize flagsD f = fl at *
  obtain ⟨a, b, c, d, t, k, ch, p⟩ := f
  simp only [Fr.vs] at *
  obtain ⟨z, hz⟩ : ∃ z, z = 12 + p.size := ⟨_, rfl⟩
  rw [← hz] at u5 HHB
  have HZ := Lib.hid hz
  clear hz
  go_enter Try.func42, Try.ntmps42
  go_wp2_with fail
  refine (HFL.out _).mono ?_
  rintro e w1 ⟨rfl, hb1⟩
  have HX1 := Lib.hid (HX.out.kept hb1 (Nat.le_refl _))
  have hB1 := hb0.trans (hb1.mono hb0.size)
  go_wp2_with fail
  refine (HP.out (.slice none 0 0) [] 0 fl 1 _ (Shows.nil_ _ _) (by simp)).mono ?_
  rintro e w2 ⟨v2, rfl, ho2, hb2⟩
  have HX2 := Lib.hid (HX1.out.kept hb2 (Nat.le_refl _))
  have hB2 := hB1.trans (hb2.mono hB1.size)
  obtain ⟨g2, _, hs2⟩ := ho2.shows
  have y := HX2.out.c4
  clear ho2 hb1 hb2 hB1 HX1
  go_wp2_with fail
  refine (HP.out _ _ g2 t 1 _ hs2 (by simp [be_length]; have := wd_le 1; omega)).mono ?_
  rintro e w3 ⟨v3, rfl, ho3, hb3⟩
  have HX3 := Lib.hid (HX2.out.kept hb3 (Nat.le_refl _))
  have hB3 := hB2.trans (hb3.mono hB2.size)
  obtain ⟨g3, _, hs3⟩ := ho3.shows
  have y3 := HX3.out.c7
  clear ho3 hb3 hB2 HX2 hs2 y
  go_wp2_with fail
  refine (HP.out _ _ g3 z 2 _ hs3 (by simp [be_length]; have := wd_le 1; omega)).mono ?_
  rintro e w4 ⟨v4, rfl, ho4, hb4⟩
  have HX4 := Lib.hid (HX3.out.kept hb4 (Nat.le_refl _))
  have hB4 := hB3.trans (hb4.mono hB3.size)
  obtain ⟨g4, _, hs4⟩ := ho4.shows
  clear ho4 hb4 hB3 HX3 hs3 y3
  go_wp2_with fail
  refine (HP.out _ _ g4 0 1 _ hs4 (by simp [be_length]; have := wd_le 1; have := wd_le 2; omega)).mono ?_
  rintro e w5 ⟨v5, rfl, ho5, hb5⟩
  have HX5 := Lib.hid (HX4.out.kept hb5 (Nat.le_refl _))
  have hB5 := hB4.trans (hb5.mono hB4.size)
  obtain ⟨g5, _, hs5⟩ := ho5.shows
  have y5 := HX5.out.c5
  clear ho5 hb5 hB4 HX4 hs4
  go_wp2_with fail
  refine (HP.out _ _ g5 k 1 _ hs5 (by simp [be_length]; have := wd_le 1; have := wd_le 2; omega)).mono ?_
  rintro e w6 ⟨v6, rfl, ho6, hb6⟩
  have HX6 := Lib.hid (HX5.out.kept hb6 (Nat.le_refl _))
  have hB6 := hB5.trans (hb6.mono hB5.size)
  obtain ⟨g6, _, hs6⟩ := ho6.shows
  have y6 := HX6.out.c6
  clear ho6 hb6 hB5 HX5 hs5 y5
  go_wp2_with fail
  refine (HP.out _ _ g6 ch 2 _ hs6 (by simp [be_length]; have := wd_le 1; have := wd_le 2; omega)).mono ?_
  rintro e w7 ⟨v7, rfl, ho7, hb7⟩
  have hB7 := hB6.trans (hb7.mono hB6.size)
  obtain ⟨g7, _, hs7⟩ := ho7.shows
  clear ho7 hb7 hB6 HX6 hs6 y6
  go_wp2_with fail
  refine (HP.out _ _ g7 0 4 _ hs7 (by simp [be_length]; have := wd_le 1; have := wd_le 2; omega)).mono ?_
  rintro e w8 ⟨v8, rfl, ho8, hb8⟩
  have hB8 := hB7.trans (hb8.mono hB7.size)
  go_wp2_with fail
  go_ret
  refine ⟨_, rfl, ?_, hB8⟩
  rw [HHB.out]
  exact ho8.mono hB7.size

end Go.Proofs.Ytdjdhnopieeibaa
