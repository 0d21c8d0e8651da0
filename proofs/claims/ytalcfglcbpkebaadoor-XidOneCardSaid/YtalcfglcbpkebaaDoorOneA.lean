/-
  XidOne, the first half: where a name is not valid, and where the two names are one, the law returns true.
  Conditions: the table of powers of ten reads as the library lays it.
-/
import Derived.Test.YtalcfglcbpkebaaDoorAsk
import Derived.Test.YtalcfglcbpkebaaDoorXiO
import Derived.Test.YtalcfglcbpkebaaDoorXiW
namespace Go.Proofs.YtalcfglcbpkebaaDoor
open Go.ChangeShapes Go.WideShapes Go.ChangeAt Go.RowKit
set_option linter.unusedVariables false
set_option linter.unusedSimpArgs false

theorem Own.belo_ {e : TypeId} {w w' : World} {base : Nat} {v : Value} {l : List UInt8} (h : Own e w base v l) (hb : Below w.heap.size w w') : Own e w' base v l := h.keep fun g hg => hb.block g (h.block g hg).2

theorem put_weak (f : Nat) (g h : ByteArray) (w : World) (hf : f < 4294967296) (hg : g.size ≤ 140737488355328) (hh : h.size ≤ 140737488355328) :
    Calls Tryd.prog 17 #[xidV f g h] w fun e w' => ∃ v x, e = .returned (.tuple #[v, .int .i64 x]) ∧ Below w.heap.size w w' := by
  by_cases hm : mayX g h
  · exact (put_ok f g h w hm hf).mono fun e w' ⟨v, he, _, hb⟩ => ⟨v, 0, he, hb⟩
  · exact (put_no f g h w hm hg hh).mono fun e w' ⟨he, hb⟩ => ⟨_, 40, he, hb⟩
theorem text_weak (f : Nat) (g h : ByteArray) (w : World) (hf : f < 4294967296) (hg : g.size ≤ 140737488355328) (hh : h.size ≤ 140737488355328) (hT : Tab w) :
    Calls Tryd.prog 19 #[xidV f g h] w fun e w' => ∃ v x, e = .returned (.tuple #[.string v, .int .i64 x]) ∧ Below w.heap.size w w' := by
  by_cases hm : mayX g h
  · exact (text_ok f g h w hm hf hT).mono fun e w' ⟨he, hb⟩ => ⟨_, 0, he, hb⟩
  · exact (text_no f g h w hm hg hh).mono fun e w' ⟨he, hb⟩ => ⟨_, 40, he, hb⟩

/-- Two names in blocks of the call's own, their bytes, and the table. -/
structure TwoV (w0 : World) (f1 : Nat) (g1 h1 : ByteArray) (f2 : Nat) (g2 h2 : ByteArray) (v1 v2 : Value) (E1 E2 : List UInt8) (w : World) : Prop where
  t : Two w0 f1 g1 h1 f2 g2 h2 w
  o1 : ∃ b, Own 5 w b v1 E1
  o2 : ∃ b, Own 5 w b v2 E2
section
variable {w0 w w' : World} {f1 f2 : Nat} {g1 h1 g2 h2 : ByteArray} {v1 v2 : Value} {E1 E2 : List UInt8}
theorem TwoV.step (h : TwoV w0 f1 g1 h1 f2 g2 h2 v1 v2 E1 E2 w) (hb : Below w.heap.size w w') : TwoV w0 f1 g1 h1 f2 g2 h2 v1 v2 E1 E2 w' := by
  obtain ⟨t, ⟨b1, o1⟩, b2, o2⟩ := h
  exact ⟨t.step hb, ⟨b1, o1.belo_ hb⟩, b2, o2.belo_ hb⟩
theorem TwoV.drew (h : TwoV w0 f1 g1 h1 f2 g2 h2 v1 v2 E1 E2 w) : TwoV w0 f1 g1 h1 f2 g2 h2 v1 v2 E1 E2 w.drew := h.step (below_drew1 (Below.refl _ _))
theorem TwoV.cells (h : TwoV w0 f1 g1 h1 f2 g2 h2 v1 v2 E1 E2 w) : (w.cell? ⟨w0.heap.size, 0, none⟩ = some (.int .u32 f1) ∧ w.cell? ⟨w0.heap.size, 1, none⟩ = some (.string g1) ∧ w.cell? ⟨w0.heap.size, 2, none⟩ = some (.string h1) ∧
    w.cell? ⟨w0.heap.size + 1, 0, none⟩ = some (.int .u32 f2) ∧ w.cell? ⟨w0.heap.size + 1, 1, none⟩ = some (.string g2) ∧ w.cell? ⟨w0.heap.size + 1, 2, none⟩ = some (.string h2)) ∧
    (convert 31 9 v1).run Tryd.prog w = .ok (.string (str8 E1)) w ∧ (convert 31 9 v2).run Tryd.prog w = .ok (.string (str8 E2)) w := by
  obtain ⟨t, ⟨b1, o1⟩, b2, o2⟩ := h
  obtain ⟨q1, _, s1⟩ := o1.shows
  obtain ⟨q2, _, s2⟩ := o2.shows
  exact ⟨t.cells, conv_at s1, conv_at s2⟩
theorem TwoV.calls {f : Nat} {args : Array Value} {v : Value} (hc : ∀ w, Tab w → Calls Tryd.prog f args w fun e w' => e = .returned v ∧ Below w.heap.size w w') :
    ∀ w, TwoV w0 f1 g1 h1 f2 g2 h2 v1 v2 E1 E2 w → Calls Tryd.prog f args w fun e w' => e = .returned v ∧ TwoV w0 f1 g1 h1 f2 g2 h2 v1 v2 E1 E2 w' := fun w h => (hc w h.t.tab).mono fun _ _ ⟨he, hb⟩ => ⟨he, h.step hb⟩
end

set_option maxRecDepth 100000 in
set_option maxHeartbeats 2000000 in
theorem one_no (f1 : Nat) (g1 h1 : ByteArray) (f2 : Nat) (g2 h2 : ByteArray) (w : World) (hT : Tab w) (zf1 : f1 < 4294967296) (zg1 : g1.size ≤ 140737488351232) (zh1 : h1.size ≤ 140737488351232) (zf2 : f2 < 4294967296) (zg2 : g2.size ≤ 140737488351232) (zh2 : h2.size ≤ 140737488351232)
    (hm : ¬ (mayX g1 h1 ∧ mayX g2 h2)) :
    Calls Tryd.prog 9 #[xidV f1 g1 h1, xidV f2 g2 h2] w fun e w' => e = .returned (.bool true) ∧ Below w.heap.size w w' := by
  have P2 := Lib.hid (fun w => put_weak f2 g2 h2 w zf2 (by omega) (by omega))
  have T1 := Lib.hid (fun w hT => text_weak f1 g1 h1 w zf1 (by omega) (by omega) hT)
  have T2 := Lib.hid (fun w hT => text_weak f2 g2 h2 w zf2 (by omega) (by omega) hT)
  have H0 := Lib.hid (Two.start (f1 := f1) (g1 := g1) (h1 := h1) (f2 := f2) (g2 := g2) (h2 := h2) hT)
  have C6 := Lib.hid head_any
  by_cases hm1 : mayX g1 h1
  · have hm2 : ¬ mayX g2 h2 := fun h => hm ⟨hm1, h⟩
    have P1 := Lib.hid (fun w => put_ok f1 g1 h1 w hm1 zf1)
    have P2 := Lib.hid (fun w => put_no f2 g2 h2 w hm2 (by omega) (by omega))
    unfold xidV at *
    clear hm hm1 hm2 zf1 zg1 zh1 zf2 zg2 zh2 hT
    go_enter Tryd.func9, Tryd.ntmps9
    go_wp2_with fail
    have hG := H0.out
    generalize (w.alloc (Obj.cells #[.int .u32 f1, .string g1, .string h1] 24)).alloc (Obj.cells #[.int .u32 f2, .string g2, .string h2] 24) = W at *
    obtain ⟨k0, k1, k2, k3, k4, k5⟩ := hG.cells
    refine (P1.out _).mono ?_
    rintro e w1 ⟨v1, rfl, ho1, hb1⟩
    have hG := hG.step hb1
    clear k0 k1 k2 k3 k4 k5 ho1
    obtain ⟨k0, k1, k2, k3, k4, k5⟩ := hG.cells
    go_wp2_with fail
    refine (P2.out _).mono ?_
    rintro e w2 ⟨rfl, hb2⟩
    have hG := hG.step hb2
    clear k0 k1 k2 k3 k4 k5
    obtain ⟨k0, k1, k2, k3, k4, k5⟩ := hG.cells
    go_wp2_with fail
    refine (T1.out _ hG.tab).mono ?_
    rintro e w3 ⟨s1, y1, rfl, hb3⟩
    have hG := hG.step hb3
    clear k0 k1 k2 k3 k4 k5
    obtain ⟨k0, k1, k2, k3, k4, k5⟩ := hG.cells
    go_wp2_with fail
    refine (T2.out _ hG.tab).mono ?_
    rintro e w4 ⟨s2, y2, rfl, hb4⟩
    have hG := hG.step hb4
    go_wp2_with fail
    refine (C6.out _ hG.tab).mono ?_
    rintro e w5 ⟨rfl, hb5⟩
    have hG := hG.step hb5
    go_wp2_with fail
    go_ret
    exact ⟨rfl, hG.bel⟩
  · have P1 := Lib.hid (fun w => put_no f1 g1 h1 w hm1 (by omega) (by omega))
    unfold xidV at *
    clear hm hm1 zf1 zg1 zh1 zf2 zg2 zh2 hT
    go_enter Tryd.func9, Tryd.ntmps9
    go_wp2_with fail
    have hG := H0.out
    generalize (w.alloc (Obj.cells #[.int .u32 f1, .string g1, .string h1] 24)).alloc (Obj.cells #[.int .u32 f2, .string g2, .string h2] 24) = W at *
    obtain ⟨k0, k1, k2, k3, k4, k5⟩ := hG.cells
    refine (P1.out _).mono ?_
    rintro e w1 ⟨rfl, hb1⟩
    have hG := hG.step hb1
    clear k0 k1 k2 k3 k4 k5
    obtain ⟨k0, k1, k2, k3, k4, k5⟩ := hG.cells
    go_wp2_with fail
    refine (P2.out _).mono ?_
    rintro e w2 ⟨v2, x2, rfl, hb2⟩
    have hG := hG.step hb2
    clear k0 k1 k2 k3 k4 k5
    obtain ⟨k0, k1, k2, k3, k4, k5⟩ := hG.cells
    go_wp2_with fail
    refine (T1.out _ hG.tab).mono ?_
    rintro e w3 ⟨s1, y1, rfl, hb3⟩
    have hG := hG.step hb3
    clear k0 k1 k2 k3 k4 k5
    obtain ⟨k0, k1, k2, k3, k4, k5⟩ := hG.cells
    go_wp2_with fail
    refine (T2.out _ hG.tab).mono ?_
    rintro e w4 ⟨s2, y2, rfl, hb4⟩
    have hG := hG.step hb4
    go_wp2_with fail
    refine (C6.out _ hG.tab).mono ?_
    rintro e w5 ⟨rfl, hb5⟩
    have hG := hG.step hb5
    go_wp2_with fail
    go_ret
    exact ⟨rfl, hG.bel⟩

theorem one_sums (f1 : Nat) (g1 h1 : ByteArray) (f2 : Nat) (g2 h2 : ByteArray) (zf1 : f1 < 4294967296) (zf2 : f2 < 4294967296) (hm1 : mayX g1 h1) (hm2 : mayX g2 h2) (hne : ¬ (f1 = f2 ∧ g1 = g2 ∧ h1 = h2)) :
    ((str8 (encX f1 g1 h1)).toList == (str8 (encX f2 g2 h2)).toList) = false ∧ ((str8 (textX f1 g1 h1)).toList == (str8 (textX f2 g2 h2)).toList) = false ∧ (cmpX f1 f2 g1 h1 g2 h2 == 0) = false := by
  rw [str8_toList, str8_toList, str8_toList, str8_toList]
  refine ⟨?_, ?_, ?_⟩
  · simp only [beq_eq_false_iff_ne]; exact fun e => hne (encX_inj hm1 hm2 zf1 zf2 e)
  · simp only [beq_eq_false_iff_ne]; exact fun e => hne (textX_inj hm1 hm2 zf1 zf2 e)
  · simp only [beq_eq_false_iff_ne]; exact fun e => hne (cmpX_eq0 e)

set_option maxRecDepth 100000 in
set_option maxHeartbeats 2000000 in
theorem one_same (f1 : Nat) (g1 h1 : ByteArray) (w : World) (hT : Tab w) (zf1 : f1 < 4294967296) (hm1 : mayX g1 h1) :
    Calls Tryd.prog 9 #[xidV f1 g1 h1, xidV f1 g1 h1] w fun e w' => e = .returned (.bool true) ∧ Below w.heap.size w w' := by
  have H0 := Lib.hid (Two.start (f1 := f1) (g1 := g1) (h1 := h1) (f2 := f1) (g2 := g1) (h2 := h1) hT)
  have P1 := Lib.hid (fun w => put_ok f1 g1 h1 w hm1 zf1)
  have T1 := Lib.hid (fun w hT => text_ok f1 g1 h1 w hm1 zf1 hT)
  have c3 := fun w => compare_below f1 f1 g1 h1 g1 h1 w
  rw [cmpX_self] at c3
  unfold xidV at *
  generalize encX f1 g1 h1 = E1 at *
  generalize str8 (textX f1 g1 h1) = X1 at *
  clear hm1 zf1 hT
  go_enter Tryd.func9, Tryd.ntmps9
  go_wp2_with fail
  have hG := H0.out
  generalize (w.alloc (Obj.cells #[.int .u32 f1, .string g1, .string h1] 24)).alloc (Obj.cells #[.int .u32 f1, .string g1, .string h1] 24) = W at *
  obtain ⟨k0, k1, k2, k3, k4, k5⟩ := hG.cells
  refine (P1.out _).mono ?_
  rintro e w1 ⟨v1, rfl, ho1, hb1⟩
  have hG := hG.step hb1
  clear k0 k1 k2 k3 k4 k5
  obtain ⟨k0, k1, k2, k3, k4, k5⟩ := hG.cells
  go_wp2_with fail
  refine (P1.out _).mono ?_
  rintro e w2 ⟨v2, rfl, ho2, hb2⟩
  have hG := hG.step hb2
  have hV := TwoV.mk hG ⟨_, ho1.belo_ hb2⟩ ⟨_, ho2⟩
  clear k0 k1 k2 k3 k4 k5 ho1 ho2 hG
  obtain ⟨k0, k1, k2, k3, k4, k5⟩ := hV.cells.1
  go_wp2_with fail
  refine (T1.out _ hV.t.tab).mono ?_
  rintro e w3 ⟨rfl, hb3⟩
  have hV := hV.step hb3
  clear k0 k1 k2 k3 k4 k5
  obtain ⟨k0, k1, k2, k3, k4, k5⟩ := hV.cells.1
  go_wp2_with fail
  refine (T1.out _ hV.t.tab).mono ?_
  rintro e w4 ⟨rfl, hb4⟩
  have hV := hV.step hb4
  clear k0 k1 k2 k3 k4 k5
  have C3 := Lib.hid (TwoV.calls (w0 := w) (f1 := f1) (g1 := g1) (h1 := h1) (f2 := f1) (g2 := g1) (h2 := h1) (v1 := v1) (v2 := v2) (E1 := E1) (E2 := E1) fun w _ => c3 w)
  have C6 := Lib.hid (TwoV.calls (w0 := w) (f1 := f1) (g1 := g1) (h1 := h1) (f2 := f1) (g2 := g1) (h2 := h1) (v1 := v1) (v2 := v2) (E1 := E1) (E2 := E1) head_any)
  clear c3 hb1 hb2 hb3 hb4 H0 P1 T1
  go_wp2_with fail
  have hVd := hV.drew
  go_region_held3 (fun w' => (w'.cell? ⟨w.heap.size, 0, none⟩ = some (.int .u32 f1) ∧ w'.cell? ⟨w.heap.size, 1, none⟩ = some (.string g1) ∧ w'.cell? ⟨w.heap.size, 2, none⟩ = some (.string h1) ∧
      w'.cell? ⟨w.heap.size + 1, 0, none⟩ = some (.int .u32 f1) ∧ w'.cell? ⟨w.heap.size + 1, 1, none⟩ = some (.string g1) ∧ w'.cell? ⟨w.heap.size + 1, 2, none⟩ = some (.string h1)) ∧
      (convert 31 9 v1).run Tryd.prog w' = .ok (.string (str8 E1)) w' ∧ (convert 31 9 v2).run Tryd.prog w' = .ok (.string (str8 E1)) w') (exact TwoV.cells (by assumption))
    (first
      | (go_at_call 13; refine (C3.out _ (by assumption)).mono ?_; rintro e wx ⟨rfl, hx⟩)
      | (go_at_call 16; refine (C6.out _ (by assumption)).mono ?_; rintro e wx ⟨rfl, hx⟩))
  all_goals
    go_wp2_with fail
    go_ret
    exact ⟨rfl, hx.t.bel⟩

end Go.Proofs.YtalcfglcbpkebaaDoor
