/-
  XidOne: for every input the law returns true, and its arguments read as before; the table of powers of ten is tied to the library's text.
  Conditions: the listed package-level tables read as the library's own text lays them (the card ties them).
-/
import Derived.Test.YtalcfglcbpkebaaDoorOneB
import Derived.Test.YtalcfglcbpkebaaDoorOneC
import Derived.Test.YtalcfglcbpkebaaDoorOneD
import Derived.Test.YtalcfglcbpkebaaDoorCards
import Derived.Test.YtalcfglcbpkebaaDoorTie
namespace Go.Proofs.YtalcfglcbpkebaaDoor
open Go.ChangeShapes Go.WideShapes Go.ChangeAt Go.RowKit
set_option linter.unusedVariables false
set_option linter.unusedSimpArgs false

theorem one_walk (f1 : Nat) (g1 h1 : ByteArray) (f2 : Nat) (g2 h2 : ByteArray) (w : World) (hT : Tab w) (zf1 : f1 < 4294967296) (zg1 : g1.size ≤ 140737488351232) (zh1 : h1.size ≤ 140737488351232) (zf2 : f2 < 4294967296) (zg2 : g2.size ≤ 140737488351232) (zh2 : h2.size ≤ 140737488351232) :
    Calls Tryd.prog 9 #[xidV f1 g1 h1, xidV f2 g2 h2] w fun e w' => e = .returned (.bool true) ∧ Below w.heap.size w w' := by
  by_cases hm : mayX g1 h1 ∧ mayX g2 h2
  · obtain ⟨hm1, hm2⟩ := hm
    by_cases ef : f1 = f2
    · subst ef
      by_cases eg : g1 = g2
      · subst eg
        by_cases eh : h1 = h2
        · subst eh
          exact one_same f1 g1 h1 w hT zf1 hm1
        · exact one_ne3 f1 g1 h1 h2 w hT zf1 eh hm1 hm2 (fun e => eh e.2.2)
      · exact one_ne2 f1 g1 h1 g2 h2 w hT zf1 eg hm1 hm2 (fun e => eg e.2.1)
    · exact one_ne1 f1 g1 h1 f2 g2 h2 w hT zf1 zf2 ef hm1 hm2 (fun e => ef e.1)
  · exact one_no f1 g1 h1 f2 g2 h2 w hT zf1 zg1 zh1 zf2 zg2 zh2 hm

set_option maxRecDepth 100000 in
theorem one_walk_lifted (os : Os) (started : os.Started) (H : Type) (enc : TypeId × Value → H) :
    ReturnsInHanded {} Tryd.checked os 9 .any (fun w args => (Rows.xidOneSpec.pre enc Tryd.prog Tryd.f9 [] false w args ∧ laidMetH Tryd.prog laid1 w) ∧ sizedMet enc Tryd.prog Tryd.f9 (OpenSpec.ofChange Rows.xidOneSpec) false w args)
      (Rows.xidOneSpec.post enc Tryd.prog Tryd.f9 false true false false) := by
  refine returnsInHanded_of_change_and (C := Tryd.checked) (X := fun w _ => laidMetH Tryd.prog laid1 w) (fun _ _ _ hh h => h.of_heap hh) own started (by kernel_rfl) Tryd.func9
    (ChangeSpec.witness_shaped (enc := enc) (C := Tryd.checked) (os := os) (X := fun w _ => laidMetH Tryd.prog laid1 w) false (World.doorLaid Tryd.prog 24 os) #[.agg #[.int .u32 0, .string ⟨#[]⟩, .string ⟨#[]⟩], .agg #[.int .u32 0, .string ⟨#[]⟩, .string ⟨#[]⟩]] 8 rfl (World.shaped_of_RefB (by kernel_rfl) (by kernel_rfl)) (by kernel_rfl) (by kernel_rfl) (by kernel_rfl) (door_met os _)) ?_
  intro W base args ds gs before hval0 hW _ hsz0 hL _
  have hval : ∀ (j : Nat) t v, Tryd.f9.params[j]? = some t → args[j]? = some v → Value.okWide Tryd.prog W .any base t v := hval0
  have hsz : (DataW.weightsEach Tryd.prog (Tryd.f9.params.toList ++ Rows.xidOneSpec.plain.varTypes Tryd.prog) (ds ++ gs)).all (· ≤ reachBytes) = true := hsz0
  have hW' := hW
  obtain ⟨p, q, hA0, hV, rfl, hfz, hnd⟩ := hW
  have hA : DataW.TrodAll enc Tryd.prog W 0 (fun _ => true) true Tryd.f9.params.toList args.toList ds p := hA0
  rw [Tryd.params9] at hA hval hsz
  obtain ⟨v0, vs0, d0, ds0, p0, q0, hargs, rfl, rfl, h0, r0⟩ := trodAll_cons hA
  obtain ⟨v1, vs1, d1, ds1, p1, q1, rfl, rfl, rfl, h1, r1⟩ := trodAll_cons r0
  obtain ⟨rfl, rfl, rfl⟩ := trodAll_nil r1
  obtain rfl : args = #[v0, v1] := by cases args; simp_all
  obtain ⟨rfl, rfl⟩ := trodVars_none hV
  have k0 := h0
  have lt0 : ∀ x ∈ p0, x.block < W.heap.size := by obtain ⟨m, hm⟩ := k0; exact DataW.trod_lt m _ _ _ hm
  have k1 := h1
  have lt1 : ∀ x ∈ p1, x.block < W.heap.size := by obtain ⟨m, hm⟩ := k1; exact DataW.trod_lt m _ _ _ hm
  obtain ⟨f0, g0, e0, rfl, z0, zg0, ze0⟩ := open_xid (hval 0 24 v0 rfl rfl) h0 hsz 0 rfl rfl
  obtain ⟨f1, g1, e1, rfl, z1, zg1, ze1⟩ := open_xid (hval 1 24 v1 rfl rfl) h1 hsz 1 rfl rfl
  clear hA0 hval0
  refine (one_walk f0 g0 e0 f1 g1 e1 W (tab_of_laid hL) z0 zg0 ze0 z1 zg1 ze1).mono fun e W' ⟨he, bel⟩ => ?_
  subst he
  exact ⟨_, rfl, _, _, _, [], _, [], hW', trodAll_mk1 (shut_bool Tryd.underlying4 _), (trodAll_cons_mk (Below.trod laidOut (by kernel_rfl) (of_decide_eq_true (by kernel_rfl)) k0 bel lt0) (trodAll_cons_mk (Below.trod laidOut (by kernel_rfl) (of_decide_eq_true (by kernel_rfl)) k1 bel lt1) trodAll_mk0)), rfl, bel.frame _, fun h => by cases h⟩

theorem one_walk_over : Rows.XidOneSaid :=
  OpenClaim.holds_of_wide 9 Tryd.f9 rfl rfl rfl rfl rfl rfl rfl ⟨rfl, rfl, rfl, rfl, rfl⟩ rfl rfl rfl rfl rfl (by kernel_rfl) Tryd.func9 (by kernel_rfl)
    (of_decide_eq_true (by kernel_rfl)) (by unfold Func.isWrapper; first | (rw [if_pos (by decide +kernel)]; kernel_rfl) | (rw [if_neg (by decide +kernel)]; exact ⟨rfl, rfl⟩))
    (fun os started H enc _ => one_walk_lifted os started H enc)

theorem xidOne_holds : Rows.XidOneCardSaid :=
  Claim7.holds_tied_plain_at .later [] [.data, .data, .data] true (true, "3c76a0715c3448ae86bd8466d891c7650f6444d46089a6511ef71281182a261d") false
    one_walk_over (fun _ h => by cases h) (by kernel_rfl) (fun _ h => by cases h) xidOne_row_tie rfl ⟨rfl, rfl⟩ (by kernel_rfl) rfl
    (fun f fn hf hfn => by
      obtain rfl : f = 9 := Option.some.inj ((show Tryd.prog.funcNamed "posthouse/posthouselaw04.XidOne" = some 9 by kernel_rfl).symm.trans hf) |>.symm
      obtain rfl : fn = Tryd.f9 := (Option.some.inj (Tryd.func9.symm.trans hfn)).symm
      exact ⟨by kernel_rfl, fun j t ht => by
        rw [Tryd.params9] at ht
        have hm : t ∈ [24, 24] := by simpa using Array.mem_of_getElem? ht
        have hall : ([24, 24].all fun u => !Tryd.prog.wantsStandIn u) = true := by kernel_rfl
        exact (show Tryd.prog.wantsStandIn t = false by simpa using List.all_eq_true.1 hall t hm)⟩)
    (by kernel_rfl)
#print axioms xidOne_holds
end Go.Proofs.YtalcfglcbpkebaaDoor
