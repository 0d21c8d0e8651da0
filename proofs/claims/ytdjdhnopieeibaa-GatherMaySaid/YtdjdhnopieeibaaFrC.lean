/-
  How bytes begin well; the contracts of frame.headerRules with its closures, isStart, and of the document's own Well.
  Conditions: none but sizes.
-/
import Derived.Test.YtdjdhnopieeibaaFrB
import Derived.Test.YtdjdhnopieeibaaOctD
import Derived.Deep.QuietTactic
import Derived.BigQuiet
namespace Go.Proofs.Ytdjdhnopieeibaa
open Go.RowKit
set_option linter.unusedVariables false
set_option linter.unusedSimpArgs false

/-! ### the bytes of a header -/
def byteAt (l : List UInt8) (i : Nat) : Nat := (l.getD i 0).toNat
theorem byteAt_lt (l : List UInt8) (i : Nat) : byteAt l i < 256 := (l.getD i 0).toNat_lt
theorem byteAt_get {l : List UInt8} {i : Nat} (h : i < l.length) : (l[i]).toNat = byteAt l i := by simp [byteAt, List.getD, h]
def sizeAt (l : List UInt8) : Nat := 256 * byteAt l 2 + byteAt l 3
/-- The greatest that each byte may be. -/
def mostAt : Nat → Nat
  | 0 => 15 | 1 => 3 | 2 => 16 | 3 => 255 | 4 => 0 | 5 => 15 | 6 => 255 | 7 => 255 | _ => 0
theorem mostAt_lt (i : Nat) : mostAt i < 256 := by
  unfold mostAt
  split <;> decide
def okAt (l : List UInt8) (i : Nat) : Bool := if i = 3 then decide (12 ≤ sizeAt l ∧ sizeAt l ≤ 4096) else decide (byteAt l i ≤ mostAt i)
/-- Do bytes begin well? -/
def wellD (l : List UInt8) : Bool := (List.range (min l.length 12)).all (okAt l)
theorem wellD_iff (l : List UInt8) : wellD l = true ↔ ∀ i, i < l.length → i < 12 → okAt l i = true := by
  unfold wellD
  rw [List.all_eq_true]
  constructor
  · intro h i h1 h2
    exact h i (List.mem_range.2 (by omega))
  · intro h i hi
    have := List.mem_range.1 hi
    exact h i (by omega) (by omega)
theorem wellD_no {l : List UInt8} {i : Nat} (h1 : i < l.length) (h2 : i < 12) (h : okAt l i = false) : wellD l = false := by
  cases hw : wellD l with
  | false => rfl
  | true => rw [(wellD_iff l).1 hw i h1 h2] at h; cases h

/-! ### the rules -/
theorem upTo_any (n : Nat) (w : World) : Calls Try.prog 75 #[.int .u8 n] w fun e w' => e = .returned (.func (.func 76) #[] #[.pointer (some ⟨w.heap.size, 0, none⟩)]) ∧ w' = w.alloc (Obj.cells #[.int .u8 n] 5) := by
  go_enter Try.func75, Try.ntmps75
  go_wp2_with fail
  go_ret
  exact ⟨rfl, rfl⟩

theorem rule_any (x c n p : Nat) (w : World) (hc : w.cell? ⟨p, 0, none⟩ = some (.int .u8 n)) : Calls Try.prog 76 #[.int .u8 x, .int .u8 c, .pointer (some ⟨p, 0, none⟩)] w fun e w' => e = .returned (.bool (decide (c ≤ n))) ∧ w = w' := by
  by_cases h : c ≤ n
  · have h1 : decide (c ≤ n) = true := by simpa using h
    rw [h1]
    go_enter Try.func76, Try.ntmps76
    go_wp2_with fail
    go_ret
    exact ⟨rfl, rfl⟩
  · have h1 : decide (c ≤ n) = false := by simpa using h
    rw [h1]
    go_enter Try.func76, Try.ntmps76
    go_wp2_with fail
    go_ret
    exact ⟨rfl, rfl⟩

theorem wraps_i64 (n : Int) (h₀ : 0 ≤ n) (h₁ : n < 2 ^ 62) : IntKind.i64.wrap n = n := by rw [IntKind.wrap_i64]; omega
theorem wraps_u16 (n : Int) (h₀ : 0 ≤ n) (h₁ : n < 2 ^ 16) : IntKind.u16.wrap n = n := by rw [IntKind.wrap_u16]; omega
theorem orJoin64 (x b : Nat) (hx : x < 256) (hb : b < 256) : bits .or .i64 ((x : Int) * 256) (b : Int) = ((256 * x + b : Nat) : Int) := by
  rw [bits_join .i64 62 (by decide) wraps_i64 8 ((x : Int) * 256) (b : Int) (by omega) (by omega) (by omega) (by omega) (by omega) (by omega)]
  omega
theorem orJoin16 (x b : Nat) (hx : x < 256) (hb : b < 256) : bits .or .u16 ((x : Int) * 256) (b : Int) = ((256 * x + b : Nat) : Int) := by
  rw [bits_join .u16 16 (by decide) wraps_u16 8 ((x : Int) * 256) (b : Int) (by omega) (by omega) (by omega) (by omega) (by omega) (by omega)]
  omega

theorem length_any (x c : Nat) (w : World) (hx : x < 256) (hc : c < 256) : Calls Try.prog 77 #[.int .u8 x, .int .u8 c] w fun e w' => e = .returned (.bool (decide (12 ≤ 256 * x + c ∧ 256 * x + c ≤ 4096))) ∧ w = w' := by
  have hj := orJoin64 x c hx hc
  obtain ⟨z, hz⟩ : ∃ z, z = 256 * x + c := ⟨_, rfl⟩
  have hzb : z < 65536 := by omega
  rw [← hz] at hj ⊢
  clear hz
  by_cases h1 : (12 : Int) ≤ (z : Int)
  · by_cases h2 : (z : Int) ≤ 4096
    · have h : decide (12 ≤ z ∧ z ≤ 4096) = true := by simp; omega
      rw [h]
      go_enter Try.func77, Try.ntmps77
      go_wp2_with fail
      go_ret
      exact ⟨rfl, rfl⟩
    · have h : decide (12 ≤ z ∧ z ≤ 4096) = false := by simp; omega
      rw [h]
      go_enter Try.func77, Try.ntmps77
      go_wp2_with fail
      go_ret
      exact ⟨rfl, rfl⟩
  · have h : decide (12 ≤ z ∧ z ≤ 4096) = false := by simp; omega
    rw [h]
    go_enter Try.func77, Try.ntmps77
    go_wp2_with fail
    go_ret
    exact ⟨rfl, rfl⟩

/-- A row of twelve rules. -/
def Rules (w : World) (v : Value) : Prop := ∃ (rb : Nat) (ps : Nat → Nat), v = .slice (some ⟨rb, 0, none⟩) 12 12 ∧ rb < w.heap.size ∧ (∀ i, ps i < w.heap.size) ∧
  ∀ i, i < 12 → w.cell? ⟨rb, i, none⟩ = some (if i = 3 then .func (.func 77) #[] #[] else .func (.func 76) #[] #[.pointer (some ⟨ps i, 0, none⟩)]) ∧ w.cell? ⟨ps i, 0, none⟩ = some (.int .u8 (mostAt i))
theorem Rules.kept {w w' : World} {B : Nat} {v : Value} (h : Rules w v) (hb : Below B w w') (hB : w.heap.size ≤ B) : Rules w' v := by
  obtain ⟨rb, ps, e, h1, h2, h3⟩ := h
  refine ⟨rb, ps, e, Nat.lt_of_lt_of_le h1 hb.size, fun i => Nat.lt_of_lt_of_le (h2 i) hb.size, fun i hi => ?_⟩
  obtain ⟨c1, c2⟩ := h3 i hi
  exact ⟨(World.cell?_of_block (w := w) (hb.block rb (Nat.lt_of_lt_of_le h1 hB))).trans c1, (World.cell?_of_block (w := w) (hb.block _ (Nat.lt_of_lt_of_le (h2 i) hB))).trans c2⟩

set_option maxRecDepth 100000 in
set_option maxHeartbeats 2000000 in
theorem rules_any (w : World) : Calls Try.prog 43 #[] w fun e w' => ∃ v, e = .returned v ∧ Rules w' v ∧ Below w.heap.size w w' := by
  have HU := Lib.hid (fun n w => upTo_any n w)
  go_enter Try.func43, Try.ntmps43
  go_wp2_with fail
  refine (HU.out 0 _).mono ?_
  rintro e w1 ⟨rfl, hw1⟩
  have k1 : w1.heap[w.heap.size]? = some (.cells #[.int .u8 (0 : Nat)] 5 (0, 0)) := by rw [hw1]; exact heap_alloc_new _ _
  have b1 : Below w.heap.size w w1 := by rw [hw1]; exact below_box _ _
  clear hw1
  go_wp2_with fail
  refine (HU.out 255 _).mono ?_
  rintro e w2 ⟨rfl, hw2⟩
  have k2 : w2.heap[w1.heap.size]? = some (.cells #[.int .u8 (255 : Nat)] 5 (0, 0)) := by rw [hw2]; exact heap_alloc_new _ _
  have b2 : Below w1.heap.size w1 w2 := by rw [hw2]; exact below_box _ _
  clear hw2
  go_wp2_with fail
  refine (HU.out 15 _).mono ?_
  rintro e w3 ⟨rfl, hw3⟩
  have k3 : w3.heap[w2.heap.size]? = some (.cells #[.int .u8 (15 : Nat)] 5 (0, 0)) := by rw [hw3]; exact heap_alloc_new _ _
  have b3 : Below w2.heap.size w2 w3 := by rw [hw3]; exact below_box _ _
  clear hw3
  go_wp2_with fail
  refine (HU.out 3 _).mono ?_
  rintro e w4 ⟨rfl, hw4⟩
  have k4 : w4.heap[w3.heap.size]? = some (.cells #[.int .u8 (3 : Nat)] 5 (0, 0)) := by rw [hw4]; exact heap_alloc_new _ _
  have b4 : Below w3.heap.size w3 w4 := by rw [hw4]; exact below_box _ _
  clear hw4
  go_wp2_with fail
  refine (HU.out 16 _).mono ?_
  rintro e w5 ⟨rfl, hw5⟩
  have k5 : w5.heap[w4.heap.size]? = some (.cells #[.int .u8 (16 : Nat)] 5 (0, 0)) := by rw [hw5]; exact heap_alloc_new _ _
  have b5 : Below w4.heap.size w4 w5 := by rw [hw5]; exact below_box _ _
  clear hw5
  go_wp2_with fail
  refine (HU.out 15 _).mono ?_
  rintro e w6 ⟨rfl, hw6⟩
  have k6 : w6.heap[w5.heap.size]? = some (.cells #[.int .u8 (15 : Nat)] 5 (0, 0)) := by rw [hw6]; exact heap_alloc_new _ _
  have b6 : Below w5.heap.size w5 w6 := by rw [hw6]; exact below_box _ _
  clear hw6
  have K1 := Lib.hid k1
  have K2 := Lib.hid k2
  have K3 := Lib.hid k3
  have K4 := Lib.hid k4
  have K5 := Lib.hid k5
  have K6 := Lib.hid k6
  clear k1 k2 k3 k4 k5 k6
  go_wp2_with fail
  go_ret
  obtain ⟨w7, hw7⟩ : ∃ w7, w7 = w6.alloc (Obj.cells #[.func (.func 76) #[] #[.pointer (some ⟨w2.heap.size, 0, none⟩)], .func (.func 76) #[] #[.pointer (some ⟨w3.heap.size, 0, none⟩)], .func (.func 76) #[] #[.pointer (some ⟨w4.heap.size, 0, none⟩)], .func (.func 77) #[] #[], .func (.func 76) #[] #[.pointer (some ⟨w.heap.size, 0, none⟩)],
    .func (.func 76) #[] #[.pointer (some ⟨w5.heap.size, 0, none⟩)], .func (.func 76) #[] #[.pointer (some ⟨w1.heap.size, 0, none⟩)], .func (.func 76) #[] #[.pointer (some ⟨w1.heap.size, 0, none⟩)], .func (.func 76) #[] #[.pointer (some ⟨w.heap.size, 0, none⟩)], .func (.func 76) #[] #[.pointer (some ⟨w.heap.size, 0, none⟩)], .func (.func 76) #[] #[.pointer (some ⟨w.heap.size, 0, none⟩)], .func (.func 76) #[] #[.pointer (some ⟨w.heap.size, 0, none⟩)]] 145) := ⟨_, rfl⟩
  have b7 : Below w6.heap.size w6 w7 := by rw [hw7]; exact below_box _ _
  have k7 := heap_alloc_new w6 (Obj.cells #[.func (.func 76) #[] #[.pointer (some ⟨w2.heap.size, 0, none⟩)], .func (.func 76) #[] #[.pointer (some ⟨w3.heap.size, 0, none⟩)], .func (.func 76) #[] #[.pointer (some ⟨w4.heap.size, 0, none⟩)], .func (.func 77) #[] #[], .func (.func 76) #[] #[.pointer (some ⟨w.heap.size, 0, none⟩)],
    .func (.func 76) #[] #[.pointer (some ⟨w5.heap.size, 0, none⟩)], .func (.func 76) #[] #[.pointer (some ⟨w1.heap.size, 0, none⟩)], .func (.func 76) #[] #[.pointer (some ⟨w1.heap.size, 0, none⟩)], .func (.func 76) #[] #[.pointer (some ⟨w.heap.size, 0, none⟩)], .func (.func 76) #[] #[.pointer (some ⟨w.heap.size, 0, none⟩)], .func (.func 76) #[] #[.pointer (some ⟨w.heap.size, 0, none⟩)], .func (.func 76) #[] #[.pointer (some ⟨w.heap.size, 0, none⟩)]] 145)
  rw [← hw7] at k7
  have b67 := b7
  have b57 := b6.trans (b67.mono b6.size)
  have b47 := b5.trans (b57.mono b5.size)
  have b37 := b4.trans (b47.mono b4.size)
  have b27 := b3.trans (b37.mono b3.size)
  have b17 := b2.trans (b27.mono b2.size)
  have b07 := b1.trans (b17.mono b1.size)
  have l1 := (Array.getElem?_eq_some_iff.1 K1.out).1
  have l2 := (Array.getElem?_eq_some_iff.1 K2.out).1
  have l3 := (Array.getElem?_eq_some_iff.1 K3.out).1
  have l4 := (Array.getElem?_eq_some_iff.1 K4.out).1
  have l5 := (Array.getElem?_eq_some_iff.1 K5.out).1
  have l6 := (Array.getElem?_eq_some_iff.1 K6.out).1
  have l7 := (Array.getElem?_eq_some_iff.1 k7).1
  have m1 := (b17.block _ l1).trans K1.out
  have m2 := (b27.block _ l2).trans K2.out
  have m3 := (b37.block _ l3).trans K3.out
  have m4 := (b47.block _ l4).trans K4.out
  have m5 := (b57.block _ l5).trans K5.out
  have m6 := (b67.block _ l6).trans K6.out
  refine ⟨_, rfl, ?_, ?_⟩
  · rw [← hw7]
    refine ⟨w6.heap.size, fun i => if i = 0 then w2.heap.size else if i = 1 then w3.heap.size else if i = 2 then w4.heap.size else if i = 5 then w5.heap.size else if i = 6 ∨ i = 7 then w1.heap.size else if i = 3 then w1.heap.size else w.heap.size, rfl, l7, fun i => ?_, fun i hi => ?_⟩
    · simp only []
      have s1 := b1.size
      have s2 := b2.size
      have s3 := b3.size
      have s4 := b4.size
      have s5 := b5.size
      have s6 := b6.size
      repeat' split
      all_goals omega
    · rw [cell_of_row w7 w6.heap.size i _ 145 (0, 0) k7]
      rcases (show i = 0 ∨ i = 1 ∨ i = 2 ∨ i = 3 ∨ i = 4 ∨ i = 5 ∨ i = 6 ∨ i = 7 ∨ i = 8 ∨ i = 9 ∨ i = 10 ∨ i = 11 by omega) with rfl | rfl | rfl | rfl | rfl | rfl | rfl | rfl | rfl | rfl | rfl | rfl
      · exact ⟨rfl, by show w7.cell? ⟨w2.heap.size, 0, none⟩ = _; rw [cell_of_row w7 _ 0 _ 5 (0, 0) m3]; rfl⟩
      · exact ⟨rfl, by show w7.cell? ⟨w3.heap.size, 0, none⟩ = _; rw [cell_of_row w7 _ 0 _ 5 (0, 0) m4]; rfl⟩
      · exact ⟨rfl, by show w7.cell? ⟨w4.heap.size, 0, none⟩ = _; rw [cell_of_row w7 _ 0 _ 5 (0, 0) m5]; rfl⟩
      · exact ⟨rfl, by show w7.cell? ⟨w1.heap.size, 0, none⟩ = _; rw [cell_of_row w7 _ 0 _ 5 (0, 0) m2]; rfl⟩
      · exact ⟨rfl, by show w7.cell? ⟨w.heap.size, 0, none⟩ = _; rw [cell_of_row w7 _ 0 _ 5 (0, 0) m1]; rfl⟩
      · exact ⟨rfl, by show w7.cell? ⟨w5.heap.size, 0, none⟩ = _; rw [cell_of_row w7 _ 0 _ 5 (0, 0) m6]; rfl⟩
      · exact ⟨rfl, by show w7.cell? ⟨w1.heap.size, 0, none⟩ = _; rw [cell_of_row w7 _ 0 _ 5 (0, 0) m2]; rfl⟩
      · exact ⟨rfl, by show w7.cell? ⟨w1.heap.size, 0, none⟩ = _; rw [cell_of_row w7 _ 0 _ 5 (0, 0) m2]; rfl⟩
      · exact ⟨rfl, by show w7.cell? ⟨w.heap.size, 0, none⟩ = _; rw [cell_of_row w7 _ 0 _ 5 (0, 0) m1]; rfl⟩
      · exact ⟨rfl, by show w7.cell? ⟨w.heap.size, 0, none⟩ = _; rw [cell_of_row w7 _ 0 _ 5 (0, 0) m1]; rfl⟩
      · exact ⟨rfl, by show w7.cell? ⟨w.heap.size, 0, none⟩ = _; rw [cell_of_row w7 _ 0 _ 5 (0, 0) m1]; rfl⟩
      · exact ⟨rfl, by show w7.cell? ⟨w.heap.size, 0, none⟩ = _; rw [cell_of_row w7 _ 0 _ 5 (0, 0) m1]; rfl⟩
  · rw [← hw7]; exact b07

end Go.Proofs.Ytdjdhnopieeibaa
