/-
  The contract of the document's Copy of properties.
  Conditions: none but sizes.
-/
import Derived.Test.YtpmafabphlejeaaGreatPrIZ
import Derived.Test.YtpmafabphlejeaaGreatValXZ
namespace Go.Proofs.YtpmafabphlejeaaGreat
open Go.RowKit
set_option linter.unusedVariables false
set_option linter.unusedSimpArgs false

/-- What Copy tells. -/
def PCopySaid (p : PropP) (w : World) (e : Ending) (w' : World) : Prop :=
  ∃ (k n : Nat) (ss : ByteArray) (a3 : Option Addr) (n3 c3 : Nat) (a4 : Option Addr) (n4 c4 : Nat), e = .returned (propV p (.int .u8 k) (.int .u64 n) (.string ss) (.slice a3 n3 c3) (.slice a4 n4 c4)) ∧ ShowsT (lowm w.heap.size w') p.app [.int .u8 k, .int .u64 n, .string ss, .slice a3 n3 c3, .slice a4 n4 c4] ∧ Below w.heap.size w w'

set_option maxRecDepth 100000 in
set_option maxHeartbeats 8000000 in
theorem pcopy_any (p : PropP) (v0 v1 v2 v3 v4 : Value) (w : World) (h : ShowsP w p v0 v1 v2 v3 v4) (hc : cntT p.app ≤ 1000) :
    Calls Tryz.prog 60 #[propV p v0 v1 v2 v3 v4] w (PCopySaid p w) := by
  have HC := Lib.hid (fun w' (hw' : Below w.heap.size w w') => (show Calls Tryz.prog 84 #[.agg [v0, v1, v2, v3, v4].toArray] w' (CopySaid p.app w') from copy_any _ p.app [v0, v1, v2, v3, v4] w' rfl (h.app.kept hw' (Nat.le_refl _)) hc))
  unfold CopySaid at HC
  obtain ⟨key, dur, red, id, app⟩ := p
  obtain ⟨x0, x1, x2, x3, x4, x5, x6, x7, x8, hvs⟩ := h.app.cells5
  simp only [List.cons.injEq, and_true] at hvs
  obtain ⟨rfl, rfl, rfl, rfl, rfl⟩ := hvs
  unfold PCopySaid propV
  simp only [] at *
  have hB1 := below_boxV w (Obj.cells #[.string key, .bool dur, .bool red, .string id, .int .u8 x0, .int .u64 x1, .string x2, .slice x3 x4 x5, .slice x6 x7 x8] 33)
  have hX1 := BoxPr.new (p := ⟨key, dur, red, id, app⟩) (v0 := .int .u8 x0) (v1 := .int .u64 x1) (v2 := .string x2) (v3 := .slice x3 x4 x5) (v4 := .slice x6 x7 x8) w
  have hB2 := below_boxV (w.alloc (Obj.cells #[.string key, .bool dur, .bool red, .string id, .int .u8 x0, .int .u64 x1, .string x2, .slice x3 x4 x5, .slice x6 x7 x8] 33)) zbox
  have hR2 := heap_alloc_new (w.alloc (Obj.cells #[.string key, .bool dur, .bool red, .string id, .int .u8 x0, .int .u64 x1, .string x2, .slice x3 x4 x5, .slice x6 x7 x8] 33)) zbox
  rw [World.size_alloc] at hR2
  have hX2 := hX1.kept hB2 (Nat.le_refl _)
  have hB := hB1.trans (hB2.mono hB1.size)
  obtain ⟨⟨p0, p1, p2, p3⟩, p4, p5, p6, p7, p8⟩ := hX2.cells
  simp only [] at p0 p1 p2 p3
  have HB := Lib.hid hB
  have HX := Lib.hid hX2
  have HR := Lib.hid hR2
  have HCX := Lib.hid (HC.out _ hB)
  clear hB1 hX1 hB2 hR2 hX2 hB h HC
  go_enter Tryz.func60, Tryz.ntmps60
  go_wp2_with fail
  refine HCX.out.mono ?_
  rintro e w3 ⟨vs, rfl, hsh, hb3⟩
  obtain ⟨k, n, ss, a3, n3, c3, a4, n4, c4, rfl⟩ := hsh.cells5
  have hX3 := HX.out.kept hb3 (Nat.le_refl _)
  have hR3 := (hb3.block (w.heap.size + 1) (by simp)).trans HR.out
  have hbel3 := HB.out.trans (hb3.mono HB.out.size)
  have HSH := Lib.hid hsh
  have HX3 := Lib.hid hX3
  have HR3 := Lib.hid hR3
  have HB3 := Lib.hid hbel3
  clear p0 p1 p2 p3 p4 p5 p6 p7 p8 hsh hb3 hX3 hR3 hbel3
  obtain ⟨⟨p0, p1, p2, p3⟩, p4, p5, p6, p7, p8⟩ := HX3.out.cells
  simp only [] at p0 p1 p2 p3
  have fb := fun i => frozen_of_row w3 w.heap.size i _ 33 HX3.out
  have g4 := fb 4
  have g5 := fb 5
  have g6 := fb 6
  have g7 := fb 7
  have g8 := fb 8
  have hq : ∀ i, w3.cell? ⟨w.heap.size + 1, i, none⟩ = (#[Value.string ⟨#[]⟩, .bool false, .bool false, .string ⟨#[]⟩, .int .u8 0, .int .u64 0, .string ⟨#[]⟩, .slice none 0 0, .slice none 0 0] : Array Value)[i]? := fun i => cell_of_row w3 (w.heap.size + 1) i _ 33 (0, 0) HR3.out
  have q0 := hq 0
  have q1 := hq 1
  have q2 := hq 2
  have q3 := hq 3
  have q4 := hq 4
  have q5 := hq 5
  have q6 := hq 6
  have q7 := hq 7
  have q8 := hq 8
  have fq := fun i => frozen_of_row w3 (w.heap.size + 1) i _ 33 HR3.out
  have l0 := fq 0
  have l1 := fq 1
  have l2 := fq 2
  have l3 := fq 3
  have l4 := fq 4
  have l5 := fq 5
  have l6 := fq 6
  have l7 := fq 7
  have l8 := fq 8
  have hne : w.heap.size + 1 ≠ w.heap.size := by omega
  have s0 := (Below.heap_setCell w3 ⟨w.heap.size, 4, none⟩ (.int .u8 k) (w.heap.size + 1) (by show w.heap.size + 1 ≠ w.heap.size; omega)).trans HR3.out
  have s1 := (Below.heap_setCell _ ⟨w.heap.size, 5, none⟩ (.int .u64 n) (w.heap.size + 1) (by show w.heap.size + 1 ≠ w.heap.size; omega)).trans s0
  have s2 := (Below.heap_setCell _ ⟨w.heap.size, 6, none⟩ (.string ss) (w.heap.size + 1) (by show w.heap.size + 1 ≠ w.heap.size; omega)).trans s1
  have s3 := (Below.heap_setCell _ ⟨w.heap.size, 7, none⟩ (.slice a3 n3 c3) (w.heap.size + 1) (by show w.heap.size + 1 ≠ w.heap.size; omega)).trans s2
  have s4 := (Below.heap_setCell _ ⟨w.heap.size, 8, none⟩ (.slice a4 n4 c4) (w.heap.size + 1) (by show w.heap.size + 1 ≠ w.heap.size; omega)).trans s3
  have hs9 := set9_row (.string key) (.bool dur) (.bool red) (.string id) (.int .u8 k) (.int .u64 n) (.string ss) (.slice a3 n3 c3) (.slice a4 n4 c4) s4
  have h1 := Nat.le_refl w.heap.size
  have t0 := below_set HB3.out (j := 4) h1 (.int .u8 k)
  have t1 := below_set t0 (j := 5) h1 (.int .u64 n)
  have t2 := below_set t1 (j := 6) h1 (.string ss)
  have t3 := below_set t2 (j := 7) h1 (.slice a3 n3 c3)
  have t4 := below_set t3 (j := 8) h1 (.slice a4 n4 c4)
  have hb9 := set9_below t4 (Nat.le_succ w.heap.size) (.string key) (.bool dur) (.bool red) (.string id) (.int .u8 k) (.int .u64 n) (.string ss) (.slice a3 n3 c3) (.slice a4 n4 c4)
  have hlt : w.heap.size < w.heap.size + 2 := by omega
  have d0 := Aft.set (Aft.refl (w.heap.size + 2) w3) (p := w.heap.size) (.inl hlt) 4 (.int .u8 k)
  have d1 := Aft.set d0 (p := w.heap.size) (.inl hlt) 5 (.int .u64 n)
  have d2 := Aft.set d1 (p := w.heap.size) (.inl hlt) 6 (.string ss)
  have d3 := Aft.set d2 (p := w.heap.size) (.inl hlt) 7 (.slice a3 n3 c3)
  have d4 := Aft.set d3 (p := w.heap.size) (.inl hlt) 8 (.slice a4 n4 c4)
  have ha9 := set9_aft d4 (Nat.lt_succ_self (w.heap.size + 1)) (.string key) (.bool dur) (.bool red) (.string id) (.int .u8 k) (.int .u64 n) (.string ss) (.slice a3 n3 c3) (.slice a4 n4 c4)
  unfold set9 at hs9 hb9 ha9
  have HS9 := Lib.hid hs9
  have HB9 := Lib.hid hb9
  have HA9 := Lib.hid ha9
  clear fb hq fq s0 s1 s2 s3 s4 hs9 hb9 ha9 t0 t1 t2 t3 t4 d0 d1 d2 d3 d4
  go_wp2_with fail
  refine bodyPost_ret (results_cell_row rfl _ _ (w.heap.size + 1) 33 _ (0, 0) _ rfl HS9.out Tryz.underlying33 rfl (by kernel_rfl)) rfl ⟨k, n, ss, a3, n3, c3, a4, n4, c4, rfl, ?_, HB9.out⟩
  have hsh := HSH.out
  rw [World.size_alloc, World.size_alloc] at hsh
  exact HA9.out.shows hsh (by omega)

end Go.Proofs.YtpmafabphlejeaaGreat
