/-
  XidParses: for every input the law returns true, and its argument reads as before; the table of powers of ten is tied to the library's text.
  Conditions: the listed package-level tables read as the library's own text lays them (the card ties them).
-/
import Derived.Test.YtalcfglcbpkebaaDoorR
import Derived.Test.YtalcfglcbpkebaaDoorXiU
import Derived.Test.YtalcfglcbpkebaaDoorCards
import Derived.Test.YtalcfglcbpkebaaDoorTie
namespace Go.Proofs.YtalcfglcbpkebaaDoor
open Go.ChangeShapes Go.WideShapes Go.ChangeAt Go.RowKit
open Go.ChangeMaps (open_string shut_string)
set_option linter.unusedVariables false
set_option linter.unusedSimpArgs false

set_option maxRecDepth 100000 in
set_option maxHeartbeats 2000000 in
theorem parses_walk (s : ByteArray) (w : World) (hT : Tab w) (hs : s.size ≤ 140737488351232) :
    Calls Tryd.prog 6 #[.string s] w fun e w' => e = .returned (.bool true) ∧ Below w.heap.size w w' := by
  have hc1 := fun w => parse_any s w hs
  have hc2 := fun w => qparse_any s w hs
  rw [qparse_eq] at hc2
  generalize (if parsedD (sb s) = (0, [], []) then (5 : Int) else 0) = ans at *
  generalize (parsedD (sb s)).1 = f at *
  generalize str8 (parsedD (sb s)).2.1 = g at *
  generalize str8 (parsedD (sb s)).2.2 = h at *
  have C1 := Lib.hid hc1
  have C2 := Lib.hid hc2
  have C6 := Lib.hid head_any
  have HT := Lib.hid hT
  unfold xidV at *
  clear hc1 hc2 hs hT
  go_enter Tryd.func6, Tryd.ntmps6
  go_wp2_with fail
  refine (C1.out _).mono ?_
  rintro e w1 ⟨rfl, hb1⟩
  go_wp2_with fail
  have hX2 : Boxed (w1.alloc (Obj.cells #[.int .u32 f, .string g, .string h] 24)) w1.heap.size f g h := Boxed.new w1
  have hb2 := hb1.alloc hb1.size (Obj.cells #[.int .u32 f, .string g, .string h] 24)
  generalize w1.alloc (Obj.cells #[.int .u32 f, .string g, .string h] 24) = w2 at *
  refine (C2.out _).mono ?_
  rintro e w3 ⟨rfl, hb3⟩
  have hX3 := hX2.below hb3 hX2.lt
  have hb4 := hb2.trans (hb3.mono hb2.size)
  have hl := hX3.lt
  have x0 := hX3.c0
  have x1 := hX3.c1
  have x2 := hX3.c2
  go_wp2_with fail
  have hb5 := hb4.alloc hb4.size (Obj.cells #[.int .u32 f, .string g, .string h] 24)
  have hT5 := HT.out.below hb5
  generalize w3.alloc (Obj.cells #[.int .u32 f, .string g, .string h] 24) = w5 at *
  refine (C6.out _ hT5).mono ?_
  rintro e w6 ⟨rfl, hb6⟩
  go_wp2_with fail
  go_ret
  exact ⟨rfl, hb5.trans (hb6.mono hb5.size)⟩

set_option maxRecDepth 100000 in
theorem parses_walk_lifted (os : Os) (started : os.Started) (H : Type) (enc : TypeId × Value → H) :
    ReturnsInHanded {} Tryd.checked os 6 .any (fun w args => (Rows.xidParsesSpec.pre enc Tryd.prog Tryd.f6 [] false w args ∧ laidMetH Tryd.prog laid1 w) ∧ sizedMet enc Tryd.prog Tryd.f6 (OpenSpec.ofChange Rows.xidParsesSpec) false w args)
      (Rows.xidParsesSpec.post enc Tryd.prog Tryd.f6 false true false false) := by
  refine returnsInHanded_of_change_and (C := Tryd.checked) (X := fun w _ => laidMetH Tryd.prog laid1 w) (fun _ _ _ hh h => h.of_heap hh) own started (by kernel_rfl) Tryd.func6
    (ChangeSpec.witness_shaped (enc := enc) (C := Tryd.checked) (os := os) (X := fun w _ => laidMetH Tryd.prog laid1 w) false (World.doorLaid Tryd.prog 24 os) #[.string ⟨#[]⟩] 8 rfl (World.shaped_of_RefB (by kernel_rfl) (by kernel_rfl)) (by kernel_rfl) (by kernel_rfl) (by kernel_rfl) (door_met os _)) ?_
  intro W base args ds gs before hval0 hW _ hsz0 hL _
  have hval : ∀ (j : Nat) t v, Tryd.f6.params[j]? = some t → args[j]? = some v → Value.okWide Tryd.prog W .any base t v := hval0
  have hsz : (DataW.weightsEach Tryd.prog (Tryd.f6.params.toList ++ Rows.xidParsesSpec.plain.varTypes Tryd.prog) (ds ++ gs)).all (· ≤ reachBytes) = true := hsz0
  have hW' := hW
  obtain ⟨p, q, hA0, hV, rfl, hfz, hnd⟩ := hW
  have hA : DataW.TrodAll enc Tryd.prog W 0 (fun _ => true) true Tryd.f6.params.toList args.toList ds p := hA0
  rw [Tryd.params6] at hA hval hsz
  obtain ⟨v0, vs0, d0, ds0, p0, q0, hargs, rfl, rfl, h0, r0⟩ := trodAll_cons hA
  obtain ⟨rfl, rfl, rfl⟩ := trodAll_nil r0
  obtain rfl : args = #[v0] := by cases args; simp_all
  obtain ⟨rfl, rfl⟩ := trodVars_none hV
  have k0 := h0
  have lt0 : ∀ x ∈ p0, x.block < W.heap.size := by obtain ⟨m, hm⟩ := k0; exact DataW.trod_lt m _ _ _ hm
  obtain ⟨s0, rfl, rfl, rfl, _⟩ := open_string Tryd.underlying9 (hval 0 9 v0 rfl rfl) h0
  have zs0 := sized_string hsz (j := 0) (t := 9) rfl rfl
  have zz0 : s0.size ≤ 140737488351232 := by rw [← sb_length]; exact zs0
  clear hA0 hval0
  refine (parses_walk s0 W (tab_of_laid hL) zz0).mono fun e W' ⟨he, bel⟩ => ?_
  subst he
  exact ⟨_, rfl, _, _, _, [], _, [], hW', trodAll_mk1 (shut_bool Tryd.underlying4 _), (trodAll_cons_mk (Below.trod laidOut (by kernel_rfl) (of_decide_eq_true (by kernel_rfl)) k0 bel lt0) trodAll_mk0), rfl, bel.frame _, fun h => by cases h⟩

theorem parses_walk_over : Rows.XidParsesSaid :=
  OpenClaim.holds_of_wide 6 Tryd.f6 rfl rfl rfl rfl rfl rfl rfl ⟨rfl, rfl, rfl, rfl, rfl⟩ rfl rfl rfl rfl rfl (by kernel_rfl) Tryd.func6 (by kernel_rfl)
    (of_decide_eq_true (by kernel_rfl)) (by unfold Func.isWrapper; first | (rw [if_pos (by decide +kernel)]; kernel_rfl) | (rw [if_neg (by decide +kernel)]; exact ⟨rfl, rfl⟩))
    (fun os started H enc _ => parses_walk_lifted os started H enc)

theorem xidParses_holds : Rows.XidParsesCardSaid :=
  Claim7.holds_tied_plain_at .later [] [.data, .data, .data] true (true, "3c76a0715c3448ae86bd8466d891c7650f6444d46089a6511ef71281182a261d") false
    parses_walk_over (fun _ h => by cases h) (by kernel_rfl) (fun _ h => by cases h) xidParses_row_tie rfl ⟨rfl, rfl⟩ (by kernel_rfl) rfl
    (fun f fn hf hfn => by
      obtain rfl : f = 6 := Option.some.inj ((show Tryd.prog.funcNamed "posthouse/posthouselaw04.XidParses" = some 6 by kernel_rfl).symm.trans hf) |>.symm
      obtain rfl : fn = Tryd.f6 := (Option.some.inj (Tryd.func6.symm.trans hfn)).symm
      exact ⟨by kernel_rfl, fun j t ht => by
        rw [Tryd.params6] at ht
        have hm : t ∈ [9] := by simpa using Array.mem_of_getElem? ht
        have hall : ([9].all fun u => !Tryd.prog.wantsStandIn u) = true := by kernel_rfl
        exact (show Tryd.prog.wantsStandIn t = false by simpa using List.all_eq_true.1 hall t hm)⟩)
    (by kernel_rfl)
#print axioms xidParses_holds
end Go.Proofs.YtalcfglcbpkebaaDoor
