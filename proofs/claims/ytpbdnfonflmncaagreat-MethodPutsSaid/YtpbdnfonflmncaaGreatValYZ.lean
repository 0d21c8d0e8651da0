/-
  The contract of the document's own Put.
  Conditions: none but sizes.
-/
import Derived.Test.YtpbdnfonflmncaaGreatValTZ
namespace Go.Proofs.YtpbdnfonflmncaaGreat
open Go.RowKit
set_option linter.unusedVariables false
set_option linter.unusedSimpArgs false

set_option maxRecDepth 100000 in
set_option maxHeartbeats 4000000 in
theorem qput_ok (t : Tree) (vs : List Value) (w : World) (h : ShowsT w t vs) (hc : checkT t = 0) :
    Calls Tryz.prog 48 #[.agg vs.toArray] w fun e w' => ∃ v, e = .returned (.tuple #[v, .int .i64 0]) ∧ Own 5 w' w.heap.size v (bytesT t) ∧ Below w.heap.size w w' := by
  have hv : validT t = true ∧ cntT t ≤ 200 := by
    unfold checkT at hc
    repeat' split at hc
    all_goals first | (exact absurd hc (by decide)) | skip
    rename_i h1 h2 h3
    exact ⟨by simpa using h3, by omega⟩
  have HC := Lib.hid (fun w' (hw' : Below w.heap.size w w') => (show Calls Tryz.prog 73 #[.agg vs.toArray] w' fun e w'' => e = .returned (.int .i64 (0 : Nat)) ∧ Below w'.heap.size w' w'' from by
    have := qcheck_any t vs w' (h.kept hw' (Nat.le_refl _))
    rw [hc] at this
    exact this))
  have HE := Lib.hid (fun w' (hw' : Below w.heap.size w w') => (show Calls Tryz.prog 74 #[.agg vs.toArray] w' fun e w'' => ∃ v, e = .returned v ∧ Own 5 w'' w'.heap.size v (bytesT t) ∧ Below w'.heap.size w' w'' from qbytes_any _ t vs w' rfl (h.kept hw' (Nat.le_refl _)) hv.1 hv.2))
  obtain ⟨k0, n0, s0, a3, n3, c3, a4, n4, c4, rfl⟩ := h.cells5
  have hX := BoxV.new (v0 := .int .u8 k0) (v1 := .int .u64 n0) (v2 := .string s0) (v3 := .slice a3 n3 c3) (v4 := .slice a4 n4 c4) w
  have hBX := below_boxV w (Obj.cells #[.int .u8 k0, .int .u64 n0, .string s0, .slice a3 n3 c3, .slice a4 n4 c4] 50)
  have HX := Lib.hid hX
  have HBX := Lib.hid hBX
  generalize bytesT t = B at *
  clear h hX hBX hc hv
  go_enter Tryz.func48, Tryz.ntmps48
  go_wp2_with fail
  refine (HC.out _ HBX.out).mono ?_
  rintro e w1 ⟨rfl, hb1⟩
  have hX1 := HX.out.kept hb1 (Nat.le_refl _)
  have hB1 := HBX.out.trans (hb1.mono HBX.out.size)
  have x0 := hX1.c0
  have x1 := hX1.c1
  have x2 := hX1.c2
  have x3 := hX1.c3
  have x4 := hX1.c4
  go_wp2_with fail
  refine (HE.out _ hB1).mono ?_
  rintro e w2 ⟨v2, rfl, ho2, hb2⟩
  have HO := Lib.hid ho2
  clear ho2
  go_wp2_with fail
  go_ret2
  exact ⟨_, rfl, HO.out.mono hB1.size, hB1.trans (hb2.mono hB1.size)⟩

set_option maxRecDepth 100000 in
set_option maxHeartbeats 4000000 in
theorem v_qput_no (t : Tree) (vs : List Value) (w : World) (h : ShowsT w t vs) (hc : checkT t ≠ 0) :
    Calls Tryz.prog 48 #[.agg vs.toArray] w fun e w' => e = .returned (.tuple #[.slice none 0 0, .int .i64 (checkT t)]) ∧ Below w.heap.size w w' := by
  have HC := Lib.hid (fun w' (hw' : Below w.heap.size w w') => qcheck_any t vs w' (h.kept hw' (Nat.le_refl _)))
  obtain ⟨k0, n0, s0, a3, n3, c3, a4, n4, c4, rfl⟩ := h.cells5
  have hBX := below_boxV w (Obj.cells #[.int .u8 k0, .int .u64 n0, .string s0, .slice a3 n3 c3, .slice a4 n4 c4] 50)
  have HBX := Lib.hid hBX
  have hcI : ((checkT t : Int) != 0) = true := by simp; omega
  generalize checkT t = C at *
  clear h hBX hc
  go_enter Tryz.func48, Tryz.ntmps48
  go_wp2_with fail
  refine (HC.out _ HBX.out).mono ?_
  rintro e w1 ⟨rfl, hb1⟩
  go_wp2_with fail
  go_ret2
  exact ⟨rfl, HBX.out.trans (hb1.mono HBX.out.size)⟩
end Go.Proofs.YtpbdnfonflmncaaGreat
