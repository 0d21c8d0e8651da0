/-
  The contract of the laws' head: the document's fixed answers come out.
  Conditions: the table reads as the program lays it.
-/
import Derived.Test.YtelmbboapbmggaaDoorE
import Derived.Lib.SlBytesConst
namespace Go.Proofs.YtelmbboapbmggaaDoor
open Go.RowKit
set_option linter.unusedVariables false
set_option linter.unusedSimpArgs false

theorem sum_nil : sum [] = 0 := by decide
theorem sum_nine : sum [49, 50, 51, 52, 53, 54, 55, 56, 57] = 3808858755 := by kernel_rfl

/-- A new block of literal bytes, marked as a constant's, is shown. -/
theorem Shows.lit' {w : World} {e : TypeId} {cs : Array Value} {fr : Nat × Nat} (l : List UInt8) (h : cs = (bs l).toArray) (hl : l.length ≤ maxLen) :
    Shows (w.alloc (.cells cs e fr)) w.heap.size (.slice (some ⟨w.heap.size, 0, none⟩) l.length l.length) l := by
  subst h
  refine ⟨_, _, rfl, Nat.le_refl _, hl, fun hp => ⟨0, rfl, by simp, fun j hj => ?_⟩⟩
  rw [cell_of_row _ _ (0 + j) _ e fr (heap_alloc_new w _)]
  simp [bs, hj]

set_option maxHeartbeats 400000 in
theorem head_any (w : World) (h : Tab w) : Calls Tryd.prog 14 #[] w fun e w' => e = .returned (.bool true) ∧ Below w.heap.size w w' := by
  have q1 : sealD [] = [0, 0, 0, 0] := by simp [sealD, sum_nil, le4]
  have Q1 := Lib.hid q1
  clear q1
  go_enter Tryd.func14, Tryd.ntmps14
  go_wp2_with fail
  refine (seal_any none 0 0 [] w h (Shows.nil_ _ _) (by simp) (by simp)).mono ?_
  rintro e w1 ⟨v1, rfl, ho1, hb1⟩
  rw [Q1.out] at ho1
  have h1 := h.below hb1 h.1
  have hz1 := hb1.size
  obtain ⟨A1, c1, rfl, _, _⟩ := ho1.form
  obtain ⟨b1, rfl, hbb, hbl, _, hcl⟩ := ho1.at_ (by simp)
  have hc1 : w1.cell? ⟨b1, 0, none⟩ = some (.int .u8 0) := hcl 0 (by simp)
  clear hcl
  go_wp2_with fail
  have s2 : Shows (w1.alloc (.cells #[.int .u8 0, .int .u8 0, .int .u8 0] 5)) w1.heap.size (.slice (some ⟨w1.heap.size, 0, none⟩) 3 3) [0, 0, 0] := Shows.lit (w := w1) [0, 0, 0] (by simp [bs, u8c]) (by simp [maxLen])
  refine (open_short _ 3 3 _ (by omega)).mono ?_
  rintro e w2 ⟨rfl, rfl⟩
  generalize hx : w1.alloc _ = x
  have hbx : Below w1.heap.size w1 x := by rw [← hx]; exact (Below.refl _ _).alloc (Nat.le_refl _) _
  clear s2 hx
  have hbw : Below w.heap.size w x := hb1.trans (hbx.mono hz1)
  have hcx : x.cell? ⟨b1, 0, none⟩ = some (.int .u8 0) := (World.cell?_of_block (w := w1) (hbx.block b1 hbl)).trans hc1
  have kc := fun (C : Array Value) (n c : Nat) => Lib.run_convert_bytes_const (P := Tryd.prog) x 23 5 C n c Tryd.underlying23 Tryd.underlying5
  go_wp2_with fail
  have s3 : Shows (x.alloc (.cells #[.int .u8 49, .int .u8 50, .int .u8 51, .int .u8 52, .int .u8 53, .int .u8 54, .int .u8 55, .int .u8 56, .int .u8 57] 5 (9, 10))) x.heap.size (.slice (some ⟨x.heap.size, 0, none⟩) 9 9) [49, 50, 51, 52, 53, 54, 55, 56, 57] := Shows.lit' (w := x) [49, 50, 51, 52, 53, 54, 55, 56, 57] (by simp [bs, u8c]) (by simp [maxLen])
  have hsum := sum_any (some ⟨x.heap.size, 0, none⟩) 9 x.heap.size [49, 50, 51, 52, 53, 54, 55, 56, 57] _ ((h1.below hbx (by have := h.1; omega)).below ((Below.refl _ _).alloc (Nat.le_refl _) _) (by have := h.1; have := hbx.size; omega)) s3 (by simp)
  rw [sum_nine] at hsum
  have hby : Below w.heap.size w (x.alloc (.cells #[.int .u8 49, .int .u8 50, .int .u8 51, .int .u8 52, .int .u8 53, .int .u8 54, .int .u8 55, .int .u8 56, .int .u8 57] 5 (9, 10))) := hbw.alloc hbw.size _
  have hcy : (x.alloc (.cells #[.int .u8 49, .int .u8 50, .int .u8 51, .int .u8 52, .int .u8 53, .int .u8 54, .int .u8 55, .int .u8 56, .int .u8 57] 5 (9, 10))).cell? ⟨b1, 0, none⟩ = some (.int .u8 0) := (World.cell?_of_block (w := x) (Below.heap_alloc x _ b1 (by have := hbx.size; omega))).trans hcx
  generalize x.alloc _ = y at *
  refine hsum.mono ?_
  rintro e w3 ⟨rfl, rfl⟩
  go_wp2_with fail
  go_ret
  exact ⟨rfl, hby⟩

end Go.Proofs.YtelmbboapbmggaaDoor
