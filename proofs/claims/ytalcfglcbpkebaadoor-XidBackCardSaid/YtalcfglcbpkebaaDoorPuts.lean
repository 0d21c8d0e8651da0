/-
  XidPuts: for every input the law returns true, and its argument reads as before; the table of powers of ten is tied to the library's text.
  Conditions: the listed package-level tables read as the library's own text lays them (the card ties them).
-/
import Derived.Test.YtalcfglcbpkebaaDoorR
import Derived.Test.YtalcfglcbpkebaaDoorXiO
import Derived.Test.YtalcfglcbpkebaaDoorCards
import Derived.Test.YtalcfglcbpkebaaDoorTie
namespace Go.Proofs.YtalcfglcbpkebaaDoor
open Go.ChangeShapes Go.WideShapes Go.ChangeAt Go.RowKit
set_option linter.unusedVariables false
set_option linter.unusedSimpArgs false

theorem Own.below_ {e : TypeId} {w w' : World} {base : Nat} {v : Value} {l : List UInt8} (h : Own e w base v l) (hb : Below w.heap.size w w') : Own e w' base v l := h.keep fun g hg => hb.block g (h.block g hg).2

/-- A name in a block of the call's own, and the table. -/
structure One (w0 : World) (f1 : Nat) (g1 h1 : ByteArray) (w : World) : Prop where
  tab : Tab w
  a : Boxed w w0.heap.size f1 g1 h1
  bel : Below w0.heap.size w0 w
section
variable {w0 w w' : World} {f1 : Nat} {g1 h1 : ByteArray}
theorem One.step (h : One w0 f1 g1 h1 w) (hb : Below w.heap.size w w') : One w0 f1 g1 h1 w' :=
  ⟨h.tab.below hb, h.a.below hb h.a.lt, h.bel.trans (hb.mono h.bel.size)⟩
theorem One.start (hT : Tab w0) : One w0 f1 g1 h1 (w0.alloc (Obj.cells #[.int .u32 f1, .string g1, .string h1] 24)) :=
  ⟨hT.below (below_box _ _), Boxed.new w0, below_box _ _⟩
end

set_option maxRecDepth 100000 in
set_option maxHeartbeats 2000000 in
theorem puts_walk (f : Nat) (g h : ByteArray) (w : World) (hT : Tab w) (zf : f < 4294967296) (zg : g.size ≤ 140737488351232) (zh : h.size ≤ 140737488351232) :
    Calls Tryd.prog 4 #[xidV f g h] w fun e w' => e = .returned (.bool true) ∧ Below w.heap.size w w' := by
  have H0 := Lib.hid (One.start (f1 := f) (g1 := g) (h1 := h) hT)
  have C6 := Lib.hid head_any
  by_cases hm : mayX g h
  · have C1 := Lib.hid (fun w => put_ok f g h w hm zf)
    have C2 := Lib.hid (fun w => qputX_ok f g h w hm zf)
    have C3 := Lib.hid (fun w hT => text_ok f g h w hm zf hT)
    have C4 := Lib.hid (fun w => qtextX_ok f g h w hm zf)
    unfold xidV at *
    clear hm hT zf zg zh
    generalize encX f g h = E at *
    generalize str8 (textX f g h) = X at *
    go_enter Tryd.func4, Tryd.ntmps4
    go_wp2_with fail
    have hG := H0.out
    have HZ := Lib.hid (show (w.alloc (Obj.cells #[.int .u32 f, .string g, .string h] 24)).heap.size = w.heap.size + 1 by simp)
    generalize w.alloc (Obj.cells #[.int .u32 f, .string g, .string h] 24) = W at *
    refine (C1.out _).mono ?_
    rintro e w1 ⟨v1, rfl, ho1, hb1⟩
    have hG := hG.step hb1
    have k0 := hG.a.c0
    have k1 := hG.a.c1
    have k2 := hG.a.c2
    go_wp2_with fail
    refine (C2.out _).mono ?_
    rintro e w2 ⟨v2, rfl, ho2, hb2⟩
    have hG := hG.step hb2
    have ho1 := ho1.below_ hb2
    have k0 := hG.a.c0
    have k1 := hG.a.c1
    have k2 := hG.a.c2
    go_wp2_with fail
    refine (C3.out _ hG.tab).mono ?_
    rintro e w3 ⟨rfl, hb3⟩
    have hG := hG.step hb3
    have ho1 := ho1.below_ hb3
    have ho2 := ho2.below_ hb3
    have k0 := hG.a.c0
    have k1 := hG.a.c1
    have k2 := hG.a.c2
    go_wp2_with fail
    refine (C4.out _).mono ?_
    rintro e w4 ⟨rfl, hb4⟩
    have hG := hG.step hb4
    have ho1 := ho1.below_ hb4
    have ho2 := ho2.below_ hb4
    obtain ⟨q1, _, s1⟩ := ho1.shows
    obtain ⟨q2, _, s2⟩ := ho2.shows
    have cv1 := conv_at s1
    have cv2 := conv_at s2
    generalize str8 E = S at *
    clear ho1 ho2 s1 s2
    go_wp2_with fail
    refine (C6.out _ hG.tab).mono ?_
    rintro e w5 ⟨rfl, hb5⟩
    have hG := hG.step hb5
    go_wp2_with fail
    go_ret
    exact ⟨rfl, hG.bel⟩
  · have C1 := Lib.hid (fun w => put_no f g h w hm (by omega) (by omega))
    have C2 := Lib.hid (fun w => qputX_no f g h w hm (by omega) (by omega))
    have C3 := Lib.hid (fun w => text_no f g h w hm (by omega) (by omega))
    have C4 := Lib.hid (fun w => qtextX_no f g h w hm (by omega) (by omega))
    unfold xidV at *
    clear hm hT zf zg zh
    go_enter Tryd.func4, Tryd.ntmps4
    go_wp2_with fail
    have hG := H0.out
    generalize w.alloc (Obj.cells #[.int .u32 f, .string g, .string h] 24) = W at *
    refine (C1.out _).mono ?_
    rintro e w1 ⟨rfl, hb1⟩
    have hG := hG.step hb1
    have k0 := hG.a.c0
    have k1 := hG.a.c1
    have k2 := hG.a.c2
    go_wp2_with fail
    refine (C2.out _).mono ?_
    rintro e w2 ⟨rfl, hb2⟩
    have hG := hG.step hb2
    have k0 := hG.a.c0
    have k1 := hG.a.c1
    have k2 := hG.a.c2
    go_wp2_with fail
    refine (C3.out _).mono ?_
    rintro e w3 ⟨rfl, hb3⟩
    have hG := hG.step hb3
    have k0 := hG.a.c0
    have k1 := hG.a.c1
    have k2 := hG.a.c2
    go_wp2_with fail
    refine (C4.out _).mono ?_
    rintro e w4 ⟨rfl, hb4⟩
    have hG := hG.step hb4
    have cv1 : (convert 31 9 (.slice none 0 0)).run Tryd.prog w4 = .ok (.string (str8 [])) w4 := conv_at (Shows.nil_ w4 0)
    generalize str8 [] = S at *
    go_wp2_with fail
    refine (C6.out _ hG.tab).mono ?_
    rintro e w5 ⟨rfl, hb5⟩
    have hG := hG.step hb5
    go_wp2_with fail
    go_ret
    exact ⟨rfl, hG.bel⟩

set_option maxRecDepth 100000 in
theorem puts_walk_lifted (os : Os) (started : os.Started) (H : Type) (enc : TypeId × Value → H) :
    ReturnsInHanded {} Tryd.checked os 4 .any (fun w args => (Rows.xidPutsSpec.pre enc Tryd.prog Tryd.f4 [] false w args ∧ laidMetH Tryd.prog laid1 w) ∧ sizedMet enc Tryd.prog Tryd.f4 (OpenSpec.ofChange Rows.xidPutsSpec) false w args)
      (Rows.xidPutsSpec.post enc Tryd.prog Tryd.f4 false true false false) := by
  refine returnsInHanded_of_change_and (C := Tryd.checked) (X := fun w _ => laidMetH Tryd.prog laid1 w) (fun _ _ _ hh h => h.of_heap hh) own started (by kernel_rfl) Tryd.func4
    (ChangeSpec.witness_shaped (enc := enc) (C := Tryd.checked) (os := os) (X := fun w _ => laidMetH Tryd.prog laid1 w) false (World.doorLaid Tryd.prog 24 os) #[.agg #[.int .u32 0, .string ⟨#[]⟩, .string ⟨#[]⟩]] 8 rfl (World.shaped_of_RefB (by kernel_rfl) (by kernel_rfl)) (by kernel_rfl) (by kernel_rfl) (by kernel_rfl) (door_met os _)) ?_
  intro W base args ds gs before hval0 hW _ hsz0 hL _
  have hval : ∀ (j : Nat) t v, Tryd.f4.params[j]? = some t → args[j]? = some v → Value.okWide Tryd.prog W .any base t v := hval0
  have hsz : (DataW.weightsEach Tryd.prog (Tryd.f4.params.toList ++ Rows.xidPutsSpec.plain.varTypes Tryd.prog) (ds ++ gs)).all (· ≤ reachBytes) = true := hsz0
  have hW' := hW
  obtain ⟨p, q, hA0, hV, rfl, hfz, hnd⟩ := hW
  have hA : DataW.TrodAll enc Tryd.prog W 0 (fun _ => true) true Tryd.f4.params.toList args.toList ds p := hA0
  rw [Tryd.params4] at hA hval hsz
  obtain ⟨v0, vs0, d0, ds0, p0, q0, hargs, rfl, rfl, h0, r0⟩ := trodAll_cons hA
  obtain ⟨rfl, rfl, rfl⟩ := trodAll_nil r0
  obtain rfl : args = #[v0] := by cases args; simp_all
  obtain ⟨rfl, rfl⟩ := trodVars_none hV
  have k0 := h0
  have lt0 : ∀ x ∈ p0, x.block < W.heap.size := by obtain ⟨m, hm⟩ := k0; exact DataW.trod_lt m _ _ _ hm
  obtain ⟨f0, g0, e0, rfl, z0, zg0, ze0⟩ := open_xid (hval 0 24 v0 rfl rfl) h0 hsz 0 rfl rfl
  clear hA0 hval0
  refine (puts_walk f0 g0 e0 W (tab_of_laid hL) z0 zg0 ze0).mono fun e W' ⟨he, bel⟩ => ?_
  subst he
  exact ⟨_, rfl, _, _, _, [], _, [], hW', trodAll_mk1 (shut_bool Tryd.underlying4 _), (trodAll_cons_mk (Below.trod laidOut (by kernel_rfl) (of_decide_eq_true (by kernel_rfl)) k0 bel lt0) trodAll_mk0), rfl, bel.frame _, fun h => by cases h⟩

theorem puts_walk_over : Rows.XidPutsSaid :=
  OpenClaim.holds_of_wide 4 Tryd.f4 rfl rfl rfl rfl rfl rfl rfl ⟨rfl, rfl, rfl, rfl, rfl⟩ rfl rfl rfl rfl rfl (by kernel_rfl) Tryd.func4 (by kernel_rfl)
    (of_decide_eq_true (by kernel_rfl)) (by unfold Func.isWrapper; first | (rw [if_pos (by decide +kernel)]; kernel_rfl) | (rw [if_neg (by decide +kernel)]; exact ⟨rfl, rfl⟩))
    (fun os started H enc _ => puts_walk_lifted os started H enc)

theorem xidPuts_holds : Rows.XidPutsCardSaid :=
  Claim7.holds_tied_plain_at .later [] [.data, .data, .data] true (true, "3c76a0715c3448ae86bd8466d891c7650f6444d46089a6511ef71281182a261d") false
    puts_walk_over (fun _ h => by cases h) (by kernel_rfl) (fun _ h => by cases h) xidPuts_row_tie rfl ⟨rfl, rfl⟩ (by kernel_rfl) rfl
    (fun f fn hf hfn => by
      obtain rfl : f = 4 := Option.some.inj ((show Tryd.prog.funcNamed "posthouse/posthouselaw04.XidPuts" = some 4 by kernel_rfl).symm.trans hf) |>.symm
      obtain rfl : fn = Tryd.f4 := (Option.some.inj (Tryd.func4.symm.trans hfn)).symm
      exact ⟨by kernel_rfl, fun j t ht => by
        rw [Tryd.params4] at ht
        have hm : t ∈ [24] := by simpa using Array.mem_of_getElem? ht
        have hall : ([24].all fun u => !Tryd.prog.wantsStandIn u) = true := by kernel_rfl
        exact (show Tryd.prog.wantsStandIn t = false by simpa using List.all_eq_true.1 hall t hm)⟩)
    (by kernel_rfl)
#print axioms xidPuts_holds
end Go.Proofs.YtalcfglcbpkebaaDoor
