/-
  XidOrder: for every input the law returns true, and its arguments read as before; the table of powers of ten is tied to the library's text.
  Conditions: the listed package-level tables read as the library's own text lays them (the card ties them).
-/
import Derived.Test.YtalcfglcbpkebaaDoorR
import Derived.Test.YtalcfglcbpkebaaDoorXiV
import Derived.Test.YtalcfglcbpkebaaDoorCards
import Derived.Test.YtalcfglcbpkebaaDoorTie
import Derived.Deep.RegionHeld3
namespace Go.Proofs.YtalcfglcbpkebaaDoor
open Go.ChangeShapes Go.WideShapes Go.ChangeAt Go.RowKit
set_option linter.unusedVariables false
set_option linter.unusedSimpArgs false

/-- Three names in blocks of the call's own, and the table. -/
structure Three (w0 : World) (f1 : Nat) (g1 h1 : ByteArray) (f2 : Nat) (g2 h2 : ByteArray) (f3 : Nat) (g3 h3 : ByteArray) (w : World) : Prop where
  tab : Tab w
  a : Boxed w w0.heap.size f1 g1 h1
  b : Boxed w (w0.heap.size + 1) f2 g2 h2
  c : Boxed w (w0.heap.size + 2) f3 g3 h3
  bel : Below w0.heap.size w0 w
section
variable {w0 w w' : World} {f1 f2 f3 : Nat} {g1 h1 g2 h2 g3 h3 : ByteArray}
theorem Three.step (h : Three w0 f1 g1 h1 f2 g2 h2 f3 g3 h3 w) (hb : Below w.heap.size w w') : Three w0 f1 g1 h1 f2 g2 h2 f3 g3 h3 w' :=
  ⟨h.tab.below hb, h.a.below hb h.a.lt, h.b.below hb h.b.lt, h.c.below hb h.c.lt, h.bel.trans (hb.mono h.bel.size)⟩
theorem Three.start (hT : Tab w0) : Three w0 f1 g1 h1 f2 g2 h2 f3 g3 h3 (((w0.alloc (Obj.cells #[.int .u32 f1, .string g1, .string h1] 24)).alloc (Obj.cells #[.int .u32 f2, .string g2, .string h2] 24)).alloc (Obj.cells #[.int .u32 f3, .string g3, .string h3] 24)) := by
  have hb : Below w0.heap.size w0 ((w0.alloc (Obj.cells #[.int .u32 f1, .string g1, .string h1] 24)).alloc (Obj.cells #[.int .u32 f2, .string g2, .string h2] 24)) := below_box2 _ _ _
  have ha : Boxed ((w0.alloc (Obj.cells #[.int .u32 f1, .string g1, .string h1] 24)).alloc (Obj.cells #[.int .u32 f2, .string g2, .string h2] 24)) w0.heap.size f1 g1 h1 := (Boxed.new w0).keep (Below.heap_alloc _ _ _ (by simp))
  have hbx : Boxed ((w0.alloc (Obj.cells #[.int .u32 f1, .string g1, .string h1] 24)).alloc (Obj.cells #[.int .u32 f2, .string g2, .string h2] 24)) (w0.heap.size + 1) f2 g2 h2 := by
    have := Boxed.new (f := f2) (g := g2) (h := h2) (w0.alloc (Obj.cells #[.int .u32 f1, .string g1, .string h1] 24))
    simpa using this
  have hT2 := hT.below hb
  have hz : ((w0.alloc (Obj.cells #[.int .u32 f1, .string g1, .string h1] 24)).alloc (Obj.cells #[.int .u32 f2, .string g2, .string h2] 24)).heap.size = w0.heap.size + 2 := by simp
  generalize (w0.alloc (Obj.cells #[.int .u32 f1, .string g1, .string h1] 24)).alloc (Obj.cells #[.int .u32 f2, .string g2, .string h2] 24) = W at *
  refine ⟨hT2.below (below_box _ _), ha.keep (Below.heap_alloc _ _ _ ha.lt), hbx.keep (Below.heap_alloc _ _ _ hbx.lt), ?_, hb.alloc hb.size _⟩
  have := Boxed.new (f := f3) (g := g3) (h := h3) W
  rw [hz] at this
  exact this
theorem Three.cells (h : Three w0 f1 g1 h1 f2 g2 h2 f3 g3 h3 w) : (w.cell? ⟨w0.heap.size, 0, none⟩ = some (.int .u32 f1) ∧ w.cell? ⟨w0.heap.size, 1, none⟩ = some (.string g1) ∧ w.cell? ⟨w0.heap.size, 2, none⟩ = some (.string h1)) ∧
    (w.cell? ⟨w0.heap.size + 1, 0, none⟩ = some (.int .u32 f2) ∧ w.cell? ⟨w0.heap.size + 1, 1, none⟩ = some (.string g2) ∧ w.cell? ⟨w0.heap.size + 1, 2, none⟩ = some (.string h2)) ∧
    w.cell? ⟨w0.heap.size + 2, 0, none⟩ = some (.int .u32 f3) ∧ w.cell? ⟨w0.heap.size + 2, 1, none⟩ = some (.string g3) ∧ w.cell? ⟨w0.heap.size + 2, 2, none⟩ = some (.string h3) := ⟨⟨h.a.c0, h.a.c1, h.a.c2⟩, ⟨h.b.c0, h.b.c1, h.b.c2⟩, h.c.c0, h.c.c1, h.c.c2⟩
theorem Three.drew (h : Three w0 f1 g1 h1 f2 g2 h2 f3 g3 h3 w) : Three w0 f1 g1 h1 f2 g2 h2 f3 g3 h3 w.drew := ⟨h.tab, h.a, h.b, h.c, below_drew1 h.bel⟩
theorem Three.calls {f : Nat} {args : Array Value} {v : Value} (hc : ∀ w, Tab w → Calls Tryd.prog f args w fun e w' => e = .returned v ∧ Below w.heap.size w w') :
    ∀ w, Three w0 f1 g1 h1 f2 g2 h2 f3 g3 h3 w → Calls Tryd.prog f args w fun e w' => e = .returned v ∧ Three w0 f1 g1 h1 f2 g2 h2 f3 g3 h3 w' := fun w h => (hc w h.tab).mono fun _ _ ⟨he, hb⟩ => ⟨he, h.step hb⟩
end

/-- What three comparisons say of each other. -/
theorem three_facts (f1 : Nat) (g1 h1 : ByteArray) (f2 : Nat) (g2 h2 : ByteArray) (f3 : Nat) (g3 h3 : ByteArray) :
    cmpX f2 f1 g2 h2 g1 h1 = - cmpX f1 f2 g1 h1 g2 h2 ∧ cmpX f1 f1 g1 h1 g1 h1 = 0 ∧ (cmpX f1 f2 g1 h1 g2 h2 = -1 ∨ cmpX f1 f2 g1 h1 g2 h2 = 0 ∨ cmpX f1 f2 g1 h1 g2 h2 = 1) ∧
    (cmpX f2 f3 g2 h2 g3 h3 = -1 ∨ cmpX f2 f3 g2 h2 g3 h3 = 0 ∨ cmpX f2 f3 g2 h2 g3 h3 = 1) ∧ (cmpX f1 f3 g1 h1 g3 h3 = -1 ∨ cmpX f1 f3 g1 h1 g3 h3 = 0 ∨ cmpX f1 f3 g1 h1 g3 h3 = 1) ∧
    (cmpX f1 f2 g1 h1 g2 h2 ≤ 0 → cmpX f2 f3 g2 h2 g3 h3 ≤ 0 → cmpX f1 f3 g1 h1 g3 h3 ≤ 0) ∧ (cmpX f1 f2 g1 h1 g2 h2 < 0 → cmpX f2 f3 g2 h2 g3 h3 ≤ 0 → cmpX f1 f3 g1 h1 g3 h3 < 0) := by
  simp only [cmpX_key]
  exact ⟨cmpK_is.anti _ _, cmpK_is.refl _, cmpK_is.rng _ _, cmpK_is.rng _ _, cmpK_is.rng _ _, cmpK_is.tr _ _ _, cmpK_is.strict _ _ _⟩

set_option maxRecDepth 100000 in
set_option maxHeartbeats 2000000 in
theorem order_walk (f1 : Nat) (g1 h1 : ByteArray) (f2 : Nat) (g2 h2 : ByteArray) (f3 : Nat) (g3 h3 : ByteArray) (w : World) (hT : Tab w) (zf1 : f1 < 4294967296) (zg1 : g1.size ≤ 140737488351232) (zh1 : h1.size ≤ 140737488351232) (zf2 : f2 < 4294967296) (zg2 : g2.size ≤ 140737488351232) (zh2 : h2.size ≤ 140737488351232) (zf3 : f3 < 4294967296) (zg3 : g3.size ≤ 140737488351232) (zh3 : h3.size ≤ 140737488351232) :
    Calls Tryd.prog 10 #[xidV f1 g1 h1, xidV f2 g2 h2, xidV f3 g3 h3] w fun e w' => e = .returned (.bool true) ∧ Below w.heap.size w w' := by
  clear zf1 zg1 zh1 zf2 zg2 zh2 zf3 zg3 zh3
  have KK := Lib.hid (three_facts f1 g1 h1 f2 g2 h2 f3 g3 h3)
  have C13 := Lib.hid (fun f4 f5 g4 h4 g5 h5 => Three.calls (w0 := w) (f1 := f1) (g1 := g1) (h1 := h1) (f2 := f2) (g2 := g2) (h2 := h2) (f3 := f3) (g3 := g3) (h3 := h3) fun w _ => compare_below f4 f5 g4 h4 g5 h5 w)
  have C6 := Lib.hid (Three.calls (w0 := w) (f1 := f1) (g1 := g1) (h1 := h1) (f2 := f2) (g2 := g2) (h2 := h2) (f3 := f3) (g3 := g3) (h3 := h3) head_any)
  have H0 := Lib.hid (Three.start (f1 := f1) (g1 := g1) (h1 := h1) (f2 := f2) (g2 := g2) (h2 := h2) (f3 := f3) (g3 := g3) (h3 := h3) hT)
  unfold xidV at *
  clear hT
  go_enter Tryd.func10, Tryd.ntmps10
  go_wp2_with fail
  have hG := H0.out
  generalize ((w.alloc (Obj.cells #[.int .u32 f1, .string g1, .string h1] 24)).alloc (Obj.cells #[.int .u32 f2, .string g2, .string h2] 24)).alloc (Obj.cells #[.int .u32 f3, .string g3, .string h3] 24) = W at *
  have hGd := hG.drew
  go_region_held3 (fun w' => (w'.cell? ⟨w.heap.size, 0, none⟩ = some (.int .u32 f1) ∧ w'.cell? ⟨w.heap.size, 1, none⟩ = some (.string g1) ∧ w'.cell? ⟨w.heap.size, 2, none⟩ = some (.string h1)) ∧
    (w'.cell? ⟨w.heap.size + 1, 0, none⟩ = some (.int .u32 f2) ∧ w'.cell? ⟨w.heap.size + 1, 1, none⟩ = some (.string g2) ∧ w'.cell? ⟨w.heap.size + 1, 2, none⟩ = some (.string h2)) ∧
    w'.cell? ⟨w.heap.size + 2, 0, none⟩ = some (.int .u32 f3) ∧ w'.cell? ⟨w.heap.size + 2, 1, none⟩ = some (.string g3) ∧ w'.cell? ⟨w.heap.size + 2, 2, none⟩ = some (.string h3)) (exact Three.cells (by assumption))
    (first
      | (go_at_call 13; refine (C13.out _ _ _ _ _ _ _ (by assumption)).mono ?_; rintro e wx ⟨rfl, hx⟩))
  rename_i Q K hK wa ha wb hb hh
  have C21 := C13.out f2 f1 g2 h2 g1 h1
  have C11 := C13.out f1 f1 g1 h1 g1 h1
  obtain ⟨k1, k2, k3, k4, k5, k6, k7⟩ := KK.out
  rw [k1] at C21
  rw [k2] at C11
  clear C13 KK k1 k2 ha hb hh hG hGd H0
  generalize cmpX f1 f2 g1 h1 g2 h2 = r12 at *
  generalize cmpX f2 f3 g2 h2 g3 h3 = r23 at *
  generalize cmpX f1 f3 g1 h1 g3 h3 = r13 at *
  refine hK _ _ ?_
  clear hK
  rcases k3 with rfl | rfl | rfl <;> rcases k4 with rfl | rfl | rfl <;> rcases k5 with rfl | rfl | rfl <;> first | (exfalso; omega) | skip
  all_goals
    clear k6 k7
    have D21 := Lib.hid C21
    have D11 := Lib.hid C11
    clear C21 C11
    obtain ⟨⟨a0, a1, a2⟩, ⟨b0, b1, b2⟩, d0, d1, d2⟩ := hx.cells
    go_wp2_with fail
    refine (D21.out _ hx).mono ?_
    rintro e w1 ⟨rfl, hx1⟩
    clear a0 a1 a2 b0 b1 b2 d0 d1 d2
    obtain ⟨⟨a0, a1, a2⟩, ⟨b0, b1, b2⟩, d0, d1, d2⟩ := hx1.cells
    go_wp2_with fail
    refine (D11.out _ hx1).mono ?_
    rintro e w2 ⟨rfl, hx2⟩
    go_wp2_with fail
    refine (C6.out _ hx2).mono ?_
    rintro e w3 ⟨rfl, hx3⟩
    go_wp2_with fail
    go_ret
    exact ⟨rfl, hx3.bel⟩

set_option maxRecDepth 100000 in
theorem order_walk_lifted (os : Os) (started : os.Started) (H : Type) (enc : TypeId × Value → H) :
    ReturnsInHanded {} Tryd.checked os 10 .any (fun w args => (Rows.xidOrderSpec.pre enc Tryd.prog Tryd.f10 [] false w args ∧ laidMetH Tryd.prog laid1 w) ∧ sizedMet enc Tryd.prog Tryd.f10 (OpenSpec.ofChange Rows.xidOrderSpec) false w args)
      (Rows.xidOrderSpec.post enc Tryd.prog Tryd.f10 false true false false) := by
  refine returnsInHanded_of_change_and (C := Tryd.checked) (X := fun w _ => laidMetH Tryd.prog laid1 w) (fun _ _ _ hh h => h.of_heap hh) own started (by kernel_rfl) Tryd.func10
    (ChangeSpec.witness_shaped (enc := enc) (C := Tryd.checked) (os := os) (X := fun w _ => laidMetH Tryd.prog laid1 w) false (World.doorLaid Tryd.prog 24 os) #[.agg #[.int .u32 0, .string ⟨#[]⟩, .string ⟨#[]⟩], .agg #[.int .u32 0, .string ⟨#[]⟩, .string ⟨#[]⟩], .agg #[.int .u32 0, .string ⟨#[]⟩, .string ⟨#[]⟩]] 8 rfl (World.shaped_of_RefB (by kernel_rfl) (by kernel_rfl)) (by kernel_rfl) (by kernel_rfl) (by kernel_rfl) (door_met os _)) ?_
  intro W base args ds gs before hval0 hW _ hsz0 hL _
  have hval : ∀ (j : Nat) t v, Tryd.f10.params[j]? = some t → args[j]? = some v → Value.okWide Tryd.prog W .any base t v := hval0
  have hsz : (DataW.weightsEach Tryd.prog (Tryd.f10.params.toList ++ Rows.xidOrderSpec.plain.varTypes Tryd.prog) (ds ++ gs)).all (· ≤ reachBytes) = true := hsz0
  have hW' := hW
  obtain ⟨p, q, hA0, hV, rfl, hfz, hnd⟩ := hW
  have hA : DataW.TrodAll enc Tryd.prog W 0 (fun _ => true) true Tryd.f10.params.toList args.toList ds p := hA0
  rw [Tryd.params10] at hA hval hsz
  obtain ⟨v0, vs0, d0, ds0, p0, q0, hargs, rfl, rfl, h0, r0⟩ := trodAll_cons hA
  obtain ⟨v1, vs1, d1, ds1, p1, q1, rfl, rfl, rfl, h1, r1⟩ := trodAll_cons r0
  obtain ⟨v2, vs2, d2, ds2, p2, q2, rfl, rfl, rfl, h2, r2⟩ := trodAll_cons r1
  obtain ⟨rfl, rfl, rfl⟩ := trodAll_nil r2
  obtain rfl : args = #[v0, v1, v2] := by cases args; simp_all
  obtain ⟨rfl, rfl⟩ := trodVars_none hV
  have k0 := h0
  have lt0 : ∀ x ∈ p0, x.block < W.heap.size := by obtain ⟨m, hm⟩ := k0; exact DataW.trod_lt m _ _ _ hm
  have k1 := h1
  have lt1 : ∀ x ∈ p1, x.block < W.heap.size := by obtain ⟨m, hm⟩ := k1; exact DataW.trod_lt m _ _ _ hm
  have k2 := h2
  have lt2 : ∀ x ∈ p2, x.block < W.heap.size := by obtain ⟨m, hm⟩ := k2; exact DataW.trod_lt m _ _ _ hm
  obtain ⟨f0, g0, e0, rfl, z0, zg0, ze0⟩ := open_xid (hval 0 24 v0 rfl rfl) h0 hsz 0 rfl rfl
  obtain ⟨f1, g1, e1, rfl, z1, zg1, ze1⟩ := open_xid (hval 1 24 v1 rfl rfl) h1 hsz 1 rfl rfl
  obtain ⟨f2, g2, e2, rfl, z2, zg2, ze2⟩ := open_xid (hval 2 24 v2 rfl rfl) h2 hsz 2 rfl rfl
  clear hA0 hval0
  refine (order_walk f0 g0 e0 f1 g1 e1 f2 g2 e2 W (tab_of_laid hL) z0 zg0 ze0 z1 zg1 ze1 z2 zg2 ze2).mono fun e W' ⟨he, bel⟩ => ?_
  subst he
  exact ⟨_, rfl, _, _, _, [], _, [], hW', trodAll_mk1 (shut_bool Tryd.underlying4 _), (trodAll_cons_mk (Below.trod laidOut (by kernel_rfl) (of_decide_eq_true (by kernel_rfl)) k0 bel lt0) (trodAll_cons_mk (Below.trod laidOut (by kernel_rfl) (of_decide_eq_true (by kernel_rfl)) k1 bel lt1) (trodAll_cons_mk (Below.trod laidOut (by kernel_rfl) (of_decide_eq_true (by kernel_rfl)) k2 bel lt2) trodAll_mk0))), rfl, bel.frame _, fun h => by cases h⟩

theorem order_walk_over : Rows.XidOrderSaid :=
  OpenClaim.holds_of_wide 10 Tryd.f10 rfl rfl rfl rfl rfl rfl rfl ⟨rfl, rfl, rfl, rfl, rfl⟩ rfl rfl rfl rfl rfl (by kernel_rfl) Tryd.func10 (by kernel_rfl)
    (of_decide_eq_true (by kernel_rfl)) (by unfold Func.isWrapper; first | (rw [if_pos (by decide +kernel)]; kernel_rfl) | (rw [if_neg (by decide +kernel)]; exact ⟨rfl, rfl⟩))
    (fun os started H enc _ => order_walk_lifted os started H enc)

theorem xidOrder_holds : Rows.XidOrderCardSaid :=
  Claim7.holds_tied_plain_at .later [] [.data, .data, .data] true (true, "3c76a0715c3448ae86bd8466d891c7650f6444d46089a6511ef71281182a261d") false
    order_walk_over (fun _ h => by cases h) (by kernel_rfl) (fun _ h => by cases h) xidOrder_row_tie rfl ⟨rfl, rfl⟩ (by kernel_rfl) rfl
    (fun f fn hf hfn => by
      obtain rfl : f = 10 := Option.some.inj ((show Tryd.prog.funcNamed "posthouse/posthouselaw04.XidOrder" = some 10 by kernel_rfl).symm.trans hf) |>.symm
      obtain rfl : fn = Tryd.f10 := (Option.some.inj (Tryd.func10.symm.trans hfn)).symm
      exact ⟨by kernel_rfl, fun j t ht => by
        rw [Tryd.params10] at ht
        have hm : t ∈ [24, 24, 24] := by simpa using Array.mem_of_getElem? ht
        have hall : ([24, 24, 24].all fun u => !Tryd.prog.wantsStandIn u) = true := by kernel_rfl
        exact (show Tryd.prog.wantsStandIn t = false by simpa using List.all_eq_true.1 hall t hm)⟩)
    (by kernel_rfl)
#print axioms xidOrder_holds
end Go.Proofs.YtalcfglcbpkebaaDoor
