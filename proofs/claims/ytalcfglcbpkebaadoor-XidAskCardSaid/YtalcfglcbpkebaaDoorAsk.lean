/-
  XidAsk: for every input the law returns true, and its arguments read as before; the table of powers of ten is tied to the library's text.
  Conditions: the listed package-level tables read as the library's own text lays them (the card ties them).
-/
import Derived.Test.YtalcfglcbpkebaaDoorR
import Derived.Test.YtalcfglcbpkebaaDoorCards
import Derived.Test.YtalcfglcbpkebaaDoorTie
import Derived.Deep.RegionHeld3
namespace Go.Proofs.YtalcfglcbpkebaaDoor
open Go.ChangeShapes Go.WideShapes Go.ChangeAt Go.RowKit
set_option linter.unusedVariables false
set_option linter.unusedSimpArgs false

/-- Two names in blocks of the call's own, and the table. -/
structure Two (w0 : World) (f1 : Nat) (g1 h1 : ByteArray) (f2 : Nat) (g2 h2 : ByteArray) (w : World) : Prop where
  tab : Tab w
  a : Boxed w w0.heap.size f1 g1 h1
  b : Boxed w (w0.heap.size + 1) f2 g2 h2
  bel : Below w0.heap.size w0 w
section
variable {w0 w w' : World} {f1 f2 : Nat} {g1 h1 g2 h2 : ByteArray}
theorem Two.step (h : Two w0 f1 g1 h1 f2 g2 h2 w) (hb : Below w.heap.size w w') : Two w0 f1 g1 h1 f2 g2 h2 w' :=
  ⟨h.tab.below hb, h.a.below hb h.a.lt, h.b.below hb h.b.lt, h.bel.trans (hb.mono h.bel.size)⟩
theorem Two.start (hT : Tab w0) : Two w0 f1 g1 h1 f2 g2 h2 ((w0.alloc (Obj.cells #[.int .u32 f1, .string g1, .string h1] 24)).alloc (Obj.cells #[.int .u32 f2, .string g2, .string h2] 24)) :=
  ⟨(hT.below (below_box _ _)).below (below_box _ _), (Boxed.new w0).keep (Below.heap_alloc _ _ _ (by simp)), by
    have := Boxed.new (f := f2) (g := g2) (h := h2) (w0.alloc (Obj.cells #[.int .u32 f1, .string g1, .string h1] 24))
    simpa using this, below_box2 _ _ _⟩
theorem Two.drew (h : Two w0 f1 g1 h1 f2 g2 h2 w) : Two w0 f1 g1 h1 f2 g2 h2 w.drew := ⟨h.tab, h.a, h.b, below_drew1 h.bel⟩
theorem Two.cells (h : Two w0 f1 g1 h1 f2 g2 h2 w) : w.cell? ⟨w0.heap.size, 0, none⟩ = some (.int .u32 f1) ∧ w.cell? ⟨w0.heap.size, 1, none⟩ = some (.string g1) ∧ w.cell? ⟨w0.heap.size, 2, none⟩ = some (.string h1) ∧
    w.cell? ⟨w0.heap.size + 1, 0, none⟩ = some (.int .u32 f2) ∧ w.cell? ⟨w0.heap.size + 1, 1, none⟩ = some (.string g2) ∧ w.cell? ⟨w0.heap.size + 1, 2, none⟩ = some (.string h2) := ⟨h.a.c0, h.a.c1, h.a.c2, h.b.c0, h.b.c1, h.b.c2⟩
theorem Two.calls {f : Nat} {args : Array Value} {v : Value} (hc : ∀ w, Tab w → Calls Tryd.prog f args w fun e w' => e = .returned v ∧ Below w.heap.size w w') :
    ∀ w, Two w0 f1 g1 h1 f2 g2 h2 w → Calls Tryd.prog f args w fun e w' => e = .returned v ∧ Two w0 f1 g1 h1 f2 g2 h2 w' := fun w h => (hc w h.tab).mono fun _ _ ⟨he, hb⟩ => ⟨he, h.step hb⟩
end

theorem check_both (f : Nat) (g h : ByteArray) (zg : g.size ≤ 140737488351232) (zh : h.size ≤ 140737488351232) : ∃ a : Int, (∀ w, Calls Tryd.prog 11 #[xidV f g h] w fun e w' => e = .returned (.int .i64 a) ∧ Below w.heap.size w w') ∧ (∀ w, Calls Tryd.prog 12 #[xidV f g h] w fun e w' => e = .returned (.int .i64 a) ∧ Below w.heap.size w w') := by
  by_cases hm : mayX g h
  · exact ⟨0, fun w => check_ok f g h w hm, fun w => qcheck_ok f g h w hm⟩
  · exact ⟨40, fun w => check_no f g h w hm (by omega) (by omega), fun w => qcheck_no f g h w hm (by omega) (by omega)⟩

set_option maxRecDepth 100000 in
set_option maxHeartbeats 2000000 in
theorem ask_walk (f1 : Nat) (g1 h1 : ByteArray) (f2 : Nat) (g2 h2 : ByteArray) (w : World) (hT : Tab w) (zf1 : f1 < 4294967296) (zg1 : g1.size ≤ 140737488351232) (zh1 : h1.size ≤ 140737488351232) (zf2 : f2 < 4294967296) (zg2 : g2.size ≤ 140737488351232) (zh2 : h2.size ≤ 140737488351232) :
    Calls Tryd.prog 3 #[xidV f1 g1 h1, xidV f2 g2 h2] w fun e w' => e = .returned (.bool true) ∧ Below w.heap.size w w' := by
  obtain ⟨a, hc1, hc2⟩ := check_both f1 g1 h1 zg1 zh1
  have C1 := Lib.hid (Two.calls (w0 := w) (f1 := f1) (g1 := g1) (h1 := h1) (f2 := f2) (g2 := g2) (h2 := h2) fun w _ => hc1 w)
  have C2 := Lib.hid (Two.calls (w0 := w) (f1 := f1) (g1 := g1) (h1 := h1) (f2 := f2) (g2 := g2) (h2 := h2) fun w _ => hc2 w)
  have c3 := Two.calls (w0 := w) (f1 := f1) (g1 := g1) (h1 := h1) (f2 := f2) (g2 := g2) (h2 := h2) fun w _ => compare_below f1 f2 g1 h1 g2 h2 w
  rw [cmpX_eq] at c3
  have c4 := Two.calls (w0 := w) (f1 := f1) (g1 := g1) (h1 := h1) (f2 := f2) (g2 := g2) (h2 := h2) fun w _ => qcompare_any f1 f2 g1 h1 g2 h2 w (by omega) (by omega) (by omega) (by omega)
  generalize compareD f1 f2 g1 h1 g2 h2 = r at *
  have C3 := Lib.hid c3
  have C4 := Lib.hid c4
  have c5 := Two.calls (w0 := w) (f1 := f1) (g1 := g1) (h1 := h1) (f2 := f2) (g2 := g2) (h2 := h2) fun w _ => oneGlobal_any f1 f2 g1 h1 g2 h2 w
  have C6 := Lib.hid (Two.calls (w0 := w) (f1 := f1) (g1 := g1) (h1 := h1) (f2 := f2) (g2 := g2) (h2 := h2) head_any)
  have H0 := Lib.hid (Two.start (f1 := f1) (g1 := g1) (h1 := h1) (f2 := f2) (g2 := g2) (h2 := h2) hT)
  unfold xidV at *
  clear c3 c4 hc1 hc2 zf1 zg1 zh1 zf2 zg2 zh2 hT
  by_cases ef : f1 = f2
  · subst ef
    by_cases eg : g1 = g2
    · subst eg
      rw [show decide (f1 = f1 ∧ g1 = g1) = true by simp] at c5
      have C5 := Lib.hid c5
      clear c5
      go_enter Tryd.func3, Tryd.ntmps3
      go_wp2_with fail
      have hG := H0.out
      generalize (w.alloc (Obj.cells #[.int .u32 f1, .string g1, .string h1] 24)).alloc (Obj.cells #[.int .u32 f1, .string g1, .string h2] 24) = W at *
      have hGd := hG.drew
      go_region_held3 (fun w' => w'.cell? ⟨w.heap.size, 0, none⟩ = some (.int .u32 f1) ∧ w'.cell? ⟨w.heap.size, 1, none⟩ = some (.string g1) ∧ w'.cell? ⟨w.heap.size, 2, none⟩ = some (.string h1) ∧ w'.cell? ⟨w.heap.size + 1, 0, none⟩ = some (.int .u32 f1) ∧ w'.cell? ⟨w.heap.size + 1, 1, none⟩ = some (.string g1) ∧ w'.cell? ⟨w.heap.size + 1, 2, none⟩ = some (.string h2)) (exact Two.cells (by assumption))
        (first
          | (go_at_call 11; refine (C1.out _ (by assumption)).mono ?_; rintro e wx ⟨rfl, hx⟩)
          | (go_at_call 12; refine (C2.out _ (by assumption)).mono ?_; rintro e wx ⟨rfl, hx⟩)
          | (go_at_call 13; refine (C3.out _ (by assumption)).mono ?_; rintro e wx ⟨rfl, hx⟩)
          | (go_at_call 14; refine (C4.out _ (by assumption)).mono ?_; rintro e wx ⟨rfl, hx⟩)
          | (go_at_call 15; refine (C5.out _ (by assumption)).mono ?_; rintro e wx ⟨rfl, hx⟩)
          | (go_at_call 16; refine (C6.out _ (by assumption)).mono ?_; rintro e wx ⟨rfl, hx⟩))
      all_goals
        go_wp2_with fail
        go_ret
        exact ⟨rfl, hx.bel⟩
    · rw [show decide (f1 = f1 ∧ g1 = g2) = false by simp [eg]] at c5
      have t1 := toList_ne eg
      have t2 : (g1.toList == g2.toList) = false := by simpa using t1
      clear eg
      have C5 := Lib.hid c5
      clear c5
      go_enter Tryd.func3, Tryd.ntmps3
      go_wp2_with fail
      have hG := H0.out
      generalize (w.alloc (Obj.cells #[.int .u32 f1, .string g1, .string h1] 24)).alloc (Obj.cells #[.int .u32 f1, .string g2, .string h2] 24) = W at *
      have hGd := hG.drew
      go_region_held3 (fun w' => w'.cell? ⟨w.heap.size, 0, none⟩ = some (.int .u32 f1) ∧ w'.cell? ⟨w.heap.size, 1, none⟩ = some (.string g1) ∧ w'.cell? ⟨w.heap.size, 2, none⟩ = some (.string h1) ∧ w'.cell? ⟨w.heap.size + 1, 0, none⟩ = some (.int .u32 f1) ∧ w'.cell? ⟨w.heap.size + 1, 1, none⟩ = some (.string g2) ∧ w'.cell? ⟨w.heap.size + 1, 2, none⟩ = some (.string h2)) (exact Two.cells (by assumption))
        (first
          | (go_at_call 11; refine (C1.out _ (by assumption)).mono ?_; rintro e wx ⟨rfl, hx⟩)
          | (go_at_call 12; refine (C2.out _ (by assumption)).mono ?_; rintro e wx ⟨rfl, hx⟩)
          | (go_at_call 13; refine (C3.out _ (by assumption)).mono ?_; rintro e wx ⟨rfl, hx⟩)
          | (go_at_call 14; refine (C4.out _ (by assumption)).mono ?_; rintro e wx ⟨rfl, hx⟩)
          | (go_at_call 15; refine (C5.out _ (by assumption)).mono ?_; rintro e wx ⟨rfl, hx⟩)
          | (go_at_call 16; refine (C6.out _ (by assumption)).mono ?_; rintro e wx ⟨rfl, hx⟩))
      all_goals
        go_wp2_with fail
        go_ret
        exact ⟨rfl, hx.bel⟩
  · rw [show decide (f1 = f2 ∧ g1 = g2) = false by simp [ef]] at c5
    have t1 : ((f1 : Int) == (f2 : Int)) = false := by simp; omega
    clear ef
    have C5 := Lib.hid c5
    clear c5
    go_enter Tryd.func3, Tryd.ntmps3
    go_wp2_with fail
    have hG := H0.out
    generalize (w.alloc (Obj.cells #[.int .u32 f1, .string g1, .string h1] 24)).alloc (Obj.cells #[.int .u32 f2, .string g2, .string h2] 24) = W at *
    have hGd := hG.drew
    go_region_held3 (fun w' => w'.cell? ⟨w.heap.size, 0, none⟩ = some (.int .u32 f1) ∧ w'.cell? ⟨w.heap.size, 1, none⟩ = some (.string g1) ∧ w'.cell? ⟨w.heap.size, 2, none⟩ = some (.string h1) ∧ w'.cell? ⟨w.heap.size + 1, 0, none⟩ = some (.int .u32 f2) ∧ w'.cell? ⟨w.heap.size + 1, 1, none⟩ = some (.string g2) ∧ w'.cell? ⟨w.heap.size + 1, 2, none⟩ = some (.string h2)) (exact Two.cells (by assumption))
      (first
        | (go_at_call 11; refine (C1.out _ (by assumption)).mono ?_; rintro e wx ⟨rfl, hx⟩)
        | (go_at_call 12; refine (C2.out _ (by assumption)).mono ?_; rintro e wx ⟨rfl, hx⟩)
        | (go_at_call 13; refine (C3.out _ (by assumption)).mono ?_; rintro e wx ⟨rfl, hx⟩)
        | (go_at_call 14; refine (C4.out _ (by assumption)).mono ?_; rintro e wx ⟨rfl, hx⟩)
        | (go_at_call 15; refine (C5.out _ (by assumption)).mono ?_; rintro e wx ⟨rfl, hx⟩)
        | (go_at_call 16; refine (C6.out _ (by assumption)).mono ?_; rintro e wx ⟨rfl, hx⟩))
    all_goals
      go_wp2_with fail
      go_ret
      exact ⟨rfl, hx.bel⟩

set_option maxRecDepth 100000 in
theorem ask_walk_lifted (os : Os) (started : os.Started) (H : Type) (enc : TypeId × Value → H) :
    ReturnsInHanded {} Tryd.checked os 3 .any (fun w args => (Rows.xidAskSpec.pre enc Tryd.prog Tryd.f3 [] false w args ∧ laidMetH Tryd.prog laid1 w) ∧ sizedMet enc Tryd.prog Tryd.f3 (OpenSpec.ofChange Rows.xidAskSpec) false w args)
      (Rows.xidAskSpec.post enc Tryd.prog Tryd.f3 false true false false) := by
  refine returnsInHanded_of_change_and (C := Tryd.checked) (X := fun w _ => laidMetH Tryd.prog laid1 w) (fun _ _ _ hh h => h.of_heap hh) own started (by kernel_rfl) Tryd.func3
    (ChangeSpec.witness_shaped (enc := enc) (C := Tryd.checked) (os := os) (X := fun w _ => laidMetH Tryd.prog laid1 w) false (World.doorLaid Tryd.prog 24 os) #[.agg #[.int .u32 0, .string ⟨#[]⟩, .string ⟨#[]⟩], .agg #[.int .u32 0, .string ⟨#[]⟩, .string ⟨#[]⟩]] 8 rfl (World.shaped_of_RefB (by kernel_rfl) (by kernel_rfl)) (by kernel_rfl) (by kernel_rfl) (by kernel_rfl) (door_met os _)) ?_
  intro W base args ds gs before hval0 hW _ hsz0 hL _
  have hval : ∀ (j : Nat) t v, Tryd.f3.params[j]? = some t → args[j]? = some v → Value.okWide Tryd.prog W .any base t v := hval0
  have hsz : (DataW.weightsEach Tryd.prog (Tryd.f3.params.toList ++ Rows.xidAskSpec.plain.varTypes Tryd.prog) (ds ++ gs)).all (· ≤ reachBytes) = true := hsz0
  have hW' := hW
  obtain ⟨p, q, hA0, hV, rfl, hfz, hnd⟩ := hW
  have hA : DataW.TrodAll enc Tryd.prog W 0 (fun _ => true) true Tryd.f3.params.toList args.toList ds p := hA0
  rw [Tryd.params3] at hA hval hsz
  obtain ⟨v0, vs0, d0, ds0, p0, q0, hargs, rfl, rfl, h0, r0⟩ := trodAll_cons hA
  obtain ⟨v1, vs1, d1, ds1, p1, q1, rfl, rfl, rfl, h1, r1⟩ := trodAll_cons r0
  obtain ⟨rfl, rfl, rfl⟩ := trodAll_nil r1
  obtain rfl : args = #[v0, v1] := by cases args; simp_all
  obtain ⟨rfl, rfl⟩ := trodVars_none hV
  have k0 := h0
  have lt0 : ∀ x ∈ p0, x.block < W.heap.size := by obtain ⟨m, hm⟩ := k0; exact DataW.trod_lt m _ _ _ hm
  have k1 := h1
  have lt1 : ∀ x ∈ p1, x.block < W.heap.size := by obtain ⟨m, hm⟩ := k1; exact DataW.trod_lt m _ _ _ hm
  obtain ⟨f0, g0, e0, rfl, z0, zg0, ze0⟩ := open_xid (hval 0 24 v0 rfl rfl) h0 hsz 0 rfl rfl
  obtain ⟨f1, g1, e1, rfl, z1, zg1, ze1⟩ := open_xid (hval 1 24 v1 rfl rfl) h1 hsz 1 rfl rfl
  clear hA0 hval0
  refine (ask_walk f0 g0 e0 f1 g1 e1 W (tab_of_laid hL) z0 zg0 ze0 z1 zg1 ze1).mono fun e W' ⟨he, bel⟩ => ?_
  subst he
  exact ⟨_, rfl, _, _, _, [], _, [], hW', trodAll_mk1 (shut_bool Tryd.underlying4 _), (trodAll_cons_mk (Below.trod laidOut (by kernel_rfl) (of_decide_eq_true (by kernel_rfl)) k0 bel lt0) (trodAll_cons_mk (Below.trod laidOut (by kernel_rfl) (of_decide_eq_true (by kernel_rfl)) k1 bel lt1) trodAll_mk0)), rfl, bel.frame _, fun h => by cases h⟩

theorem ask_walk_over : Rows.XidAskSaid :=
  OpenClaim.holds_of_wide 3 Tryd.f3 rfl rfl rfl rfl rfl rfl rfl ⟨rfl, rfl, rfl, rfl, rfl⟩ rfl rfl rfl rfl rfl (by kernel_rfl) Tryd.func3 (by kernel_rfl)
    (of_decide_eq_true (by kernel_rfl)) (by unfold Func.isWrapper; first | (rw [if_pos (by decide +kernel)]; kernel_rfl) | (rw [if_neg (by decide +kernel)]; exact ⟨rfl, rfl⟩))
    (fun os started H enc _ => ask_walk_lifted os started H enc)

theorem xidAsk_holds : Rows.XidAskCardSaid :=
  Claim7.holds_tied_plain_at .later [] [.data, .data, .data] true (true, "3c76a0715c3448ae86bd8466d891c7650f6444d46089a6511ef71281182a261d") false
    ask_walk_over (fun _ h => by cases h) (by kernel_rfl) (fun _ h => by cases h) xidAsk_row_tie rfl ⟨rfl, rfl⟩ (by kernel_rfl) rfl
    (fun f fn hf hfn => by
      obtain rfl : f = 3 := Option.some.inj ((show Tryd.prog.funcNamed "posthouse/posthouselaw04.XidAsk" = some 3 by kernel_rfl).symm.trans hf) |>.symm
      obtain rfl : fn = Tryd.f3 := (Option.some.inj (Tryd.func3.symm.trans hfn)).symm
      exact ⟨by kernel_rfl, fun j t ht => by
        rw [Tryd.params3] at ht
        have hm : t ∈ [24, 24] := by simpa using Array.mem_of_getElem? ht
        have hall : ([24, 24].all fun u => !Tryd.prog.wantsStandIn u) = true := by kernel_rfl
        exact (show Tryd.prog.wantsStandIn t = false by simpa using List.all_eq_true.1 hall t hm)⟩)
    (by kernel_rfl)
#print axioms xidAsk_holds
end Go.Proofs.YtalcfglcbpkebaaDoor
