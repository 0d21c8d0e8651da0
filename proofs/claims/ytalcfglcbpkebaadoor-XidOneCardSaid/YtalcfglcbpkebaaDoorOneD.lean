/-
  XidOne: where the two names differ in their Branch alone, the law returns true.
  Conditions: the table of powers of ten reads as the library lays it.
-/
import Derived.Test.YtalcfglcbpkebaaDoorOneA
namespace Go.Proofs.YtalcfglcbpkebaaDoor
open Go.ChangeShapes Go.WideShapes Go.ChangeAt Go.RowKit
set_option linter.unusedVariables false
set_option linter.unusedSimpArgs false

set_option maxRecDepth 100000 in
set_option maxHeartbeats 2000000 in
theorem one_ne3 (f1 : Nat) (g1 h1 : ByteArray) (h2 : ByteArray) (w : World) (hT : Tab w) (zf1 : f1 < 4294967296) (eh : h1 ≠ h2) (hm1 : mayX g1 h1) (hm2 : mayX g1 h2) (hne : ¬ (f1 = f1 ∧ g1 = g1 ∧ h1 = h2)) :
    Calls Tryd.prog 9 #[xidV f1 g1 h1, xidV f1 g1 h2] w fun e w' => e = .returned (.bool true) ∧ Below w.heap.size w w' := by
  have H0 := Lib.hid (Two.start (f1 := f1) (g1 := g1) (h1 := h1) (f2 := f1) (g2 := g1) (h2 := h2) hT)
  have P1 := Lib.hid (fun w => put_ok f1 g1 h1 w hm1 zf1)
  have P2 := Lib.hid (fun w => put_ok f1 g1 h2 w hm2 (by omega))
  have T1 := Lib.hid (fun w hT => text_ok f1 g1 h1 w hm1 zf1 hT)
  have T2 := Lib.hid (fun w hT => text_ok f1 g1 h2 w hm2 (by omega) hT)
  have c3 := fun w => compare_below f1 f1 g1 h1 g1 h2 w
  obtain ⟨u1, u2, u3⟩ := one_sums f1 g1 h1 f1 g1 h2 zf1 (by omega) hm1 hm2 hne
  have t1 := toList_ne eh
  have t2 : (h1.toList == h2.toList) = false := by simpa using t1
  unfold xidV at *
  generalize encX f1 g1 h1 = E1 at *
  generalize encX f1 g1 h2 = E2 at *
  generalize str8 (textX f1 g1 h1) = X1 at *
  generalize str8 (textX f1 g1 h2) = X2 at *
  generalize cmpX f1 f1 g1 h1 g1 h2 = r at *
  clear hm1 hm2 hT hne
  go_enter Tryd.func9, Tryd.ntmps9
  go_wp2_with fail
  have hG := H0.out
  generalize (w.alloc (Obj.cells #[.int .u32 f1, .string g1, .string h1] 24)).alloc (Obj.cells #[.int .u32 f1, .string g1, .string h2] 24) = W at *
  obtain ⟨k0, k1, k2, k3, k4, k5⟩ := hG.cells
  refine (P1.out _).mono ?_
  rintro e w1 ⟨v1, rfl, ho1, hb1⟩
  have hG := hG.step hb1
  clear k0 k1 k2 k3 k4 k5
  obtain ⟨k0, k1, k2, k3, k4, k5⟩ := hG.cells
  go_wp2_with fail
  refine (P2.out _).mono ?_
  rintro e w2 ⟨v2, rfl, ho2, hb2⟩
  have hG := hG.step hb2
  have hV := TwoV.mk hG ⟨_, ho1.belo_ hb2⟩ ⟨_, ho2⟩
  clear k0 k1 k2 k3 k4 k5 ho1 ho2 hG
  obtain ⟨k0, k1, k2, k3, k4, k5⟩ := hV.cells.1
  go_wp2_with fail
  refine (T1.out _ hV.t.tab).mono ?_
  rintro e w3 ⟨rfl, hb3⟩
  have hV := hV.step hb3
  clear k0 k1 k2 k3 k4 k5
  obtain ⟨k0, k1, k2, k3, k4, k5⟩ := hV.cells.1
  go_wp2_with fail
  refine (T2.out _ hV.t.tab).mono ?_
  rintro e w4 ⟨rfl, hb4⟩
  have hV := hV.step hb4
  clear k0 k1 k2 k3 k4 k5
  have C3 := Lib.hid (TwoV.calls (w0 := w) (f1 := f1) (g1 := g1) (h1 := h1) (f2 := f1) (g2 := g1) (h2 := h2) (v1 := v1) (v2 := v2) (E1 := E1) (E2 := E2) fun w _ => c3 w)
  have C6 := Lib.hid (TwoV.calls (w0 := w) (f1 := f1) (g1 := g1) (h1 := h1) (f2 := f1) (g2 := g1) (h2 := h2) (v1 := v1) (v2 := v2) (E1 := E1) (E2 := E2) head_any)
  clear c3 hb1 hb2 hb3 hb4 H0 P1 P2 T1 T2
  go_wp2_with fail
  have hVd := hV.drew
  go_region_held3 (fun w' => (w'.cell? ⟨w.heap.size, 0, none⟩ = some (.int .u32 f1) ∧ w'.cell? ⟨w.heap.size, 1, none⟩ = some (.string g1) ∧ w'.cell? ⟨w.heap.size, 2, none⟩ = some (.string h1) ∧
      w'.cell? ⟨w.heap.size + 1, 0, none⟩ = some (.int .u32 f1) ∧ w'.cell? ⟨w.heap.size + 1, 1, none⟩ = some (.string g1) ∧ w'.cell? ⟨w.heap.size + 1, 2, none⟩ = some (.string h2)) ∧
      (convert 31 9 v1).run Tryd.prog w' = .ok (.string (str8 E1)) w' ∧ (convert 31 9 v2).run Tryd.prog w' = .ok (.string (str8 E2)) w') (exact TwoV.cells (by assumption))
    (first
      | (go_at_call 13; refine (C3.out _ (by assumption)).mono ?_; rintro e wx ⟨rfl, hx⟩)
      | (go_at_call 16; refine (C6.out _ (by assumption)).mono ?_; rintro e wx ⟨rfl, hx⟩))
  all_goals
    go_wp2_with fail
    go_ret
    exact ⟨rfl, hx.t.bel⟩

end Go.Proofs.YtalcfglcbpkebaaDoor
