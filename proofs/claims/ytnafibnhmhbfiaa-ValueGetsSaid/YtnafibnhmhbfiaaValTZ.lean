/-
  The contract of the document's own Check.
  Conditions: none but sizes.
-/
import Derived.Test.YtnafibnhmhbfiaaValSZ
import Derived.Test.YtnafibnhmhbfiaaV5AZ
import Derived.Test.YtnafibnhmhbfiaaValGZ
namespace Go.Proofs.Ytnafibnhmhbfiaa
open Go.RowKit
set_option linter.unusedVariables false
set_option linter.unusedSimpArgs false

set_option maxRecDepth 100000 in
set_option maxHeartbeats 4000000 in
theorem qcheck_any (t : Tree) (vs : List Value) (w : World) (h : ShowsT w t vs) :
    Calls Try.prog 53 #[.agg vs.toArray] w fun e w' => e = .returned (.int .i64 (checkT t)) ∧ Below w.heap.size w w' := by
  have HD := Lib.hid (fun w' (hw' : Below w.heap.size w w') => qdeep_any 6 t vs w' (h.kept hw' (Nat.le_refl _)) (by omega))
  have HL := Lib.hid (fun w' (hw' : Below w.heap.size w w') => qleft_any 200 t vs w' (h.kept hw' (Nat.le_refl _)) (by omega))
  have HM := Lib.hid (fun w' (hw' : Below w.heap.size w w') => may_any _ t vs w' rfl (h.kept hw' (Nat.le_refl _)))
  obtain ⟨k0, n0, s0, a3, n3, c3, a4, n4, c4, rfl⟩ := h.cells5
  have hX := BoxV.new (v0 := .int .u8 k0) (v1 := .int .u64 n0) (v2 := .string s0) (v3 := .slice a3 n3 c3) (v4 := .slice a4 n4 c4) w
  have hBX := below_boxV w (Obj.cells #[.int .u8 k0, .int .u64 n0, .string s0, .slice a3 n3 c3, .slice a4 n4 c4] 27)
  have HX := Lib.hid hX
  have HBX := Lib.hid hBX
  obtain ⟨R, hR⟩ : ∃ R, R = checkT t := ⟨_, rfl⟩
  rw [← hR]
  unfold checkT at hR
  have hc := remD_cases 200 (cntT t)
  clear h hX hBX
  generalize deepD 6 t = dp at *
  generalize validT t = vd at *
  generalize hrm : remD 200 (cntT t) = rm at *
  have HRM := Lib.hid hrm
  clear hrm
  generalize cntT t = cn at *
  cases dp with
  | true =>
    rw [if_pos rfl] at hR
    subst hR
    go_enter Try.func53, Try.ntmps53
    go_wp2_with fail
    refine (HD.out _ HBX.out).mono ?_
    rintro e w1 ⟨rfl, hb1⟩
    go_wp2_with fail
    go_ret
    exact ⟨rfl, HBX.out.trans (hb1.mono HBX.out.size)⟩
  | false =>
  rw [if_neg (by decide)] at hR
  by_cases hcn : 200 < cn
  · rw [if_pos hcn] at hR
    subst hR
    have hneg : rm < 0 := by omega
    have HC := Lib.hid hcn
    clear hc hcn
    go_enter Try.func53, Try.ntmps53
    go_wp2_with fail
    refine (HD.out _ HBX.out).mono ?_
    rintro e w1 ⟨rfl, hb1⟩
    have hB1 := HBX.out.trans (hb1.mono HBX.out.size)
    have hX1 := HX.out.kept hb1 (Nat.le_refl _)
    have x0 := hX1.c0
    have x1 := hX1.c1
    have x2 := hX1.c2
    have x3 := hX1.c3
    have x4 := hX1.c4
    go_wp2_with fail
    refine (HL.out _ hB1).mono ?_
    rintro e w2 ⟨rfl, hb2⟩
    go_wp2_with fail
    go_ret
    exact ⟨rfl, hB1.trans (hb2.mono hB1.size)⟩
  rw [if_neg hcn] at hR
  have hneg : ¬ rm < 0 := by omega
  have HC := Lib.hid hcn
  clear hc hcn
  cases vd with
  | false =>
    rw [if_pos rfl] at hR
    subst hR
    go_enter Try.func53, Try.ntmps53
    go_wp2_with fail
    refine (HD.out _ HBX.out).mono ?_
    rintro e w1 ⟨rfl, hb1⟩
    have hB1 := HBX.out.trans (hb1.mono HBX.out.size)
    have hX1 := HX.out.kept hb1 (Nat.le_refl _)
    have x0 := hX1.c0
    have x1 := hX1.c1
    have x2 := hX1.c2
    have x3 := hX1.c3
    have x4 := hX1.c4
    go_wp2_with fail
    refine (HL.out _ hB1).mono ?_
    rintro e w2 ⟨rfl, hb2⟩
    have hB2 := hB1.trans (hb2.mono hB1.size)
    have hX2 := hX1.kept hb2 (Nat.le_refl _)
    clear x0 x1 x2 x3 x4
    have x0 := hX2.c0
    have x1 := hX2.c1
    have x2 := hX2.c2
    have x3 := hX2.c3
    have x4 := hX2.c4
    go_wp2_with fail
    refine (HM.out _ hB2).mono ?_
    rintro e w3 ⟨rfl, hb3⟩
    go_wp2_with fail
    go_ret
    exact ⟨rfl, hB2.trans (hb3.mono hB2.size)⟩
  | true =>
    rw [if_neg (by decide)] at hR
    subst hR
    go_enter Try.func53, Try.ntmps53
    go_wp2_with fail
    refine (HD.out _ HBX.out).mono ?_
    rintro e w1 ⟨rfl, hb1⟩
    have hB1 := HBX.out.trans (hb1.mono HBX.out.size)
    have hX1 := HX.out.kept hb1 (Nat.le_refl _)
    have x0 := hX1.c0
    have x1 := hX1.c1
    have x2 := hX1.c2
    have x3 := hX1.c3
    have x4 := hX1.c4
    go_wp2_with fail
    refine (HL.out _ hB1).mono ?_
    rintro e w2 ⟨rfl, hb2⟩
    have hB2 := hB1.trans (hb2.mono hB1.size)
    have hX2 := hX1.kept hb2 (Nat.le_refl _)
    clear x0 x1 x2 x3 x4
    have x0 := hX2.c0
    have x1 := hX2.c1
    have x2 := hX2.c2
    have x3 := hX2.c3
    have x4 := hX2.c4
    go_wp2_with fail
    refine (HM.out _ hB2).mono ?_
    rintro e w3 ⟨rfl, hb3⟩
    go_wp2_with fail
    go_ret
    exact ⟨rfl, hB2.trans (hb3.mono hB2.size)⟩

end Go.Proofs.Ytnafibnhmhbfiaa
