/-
  XidGets: for every input the law returns true, and its argument reads as before; the table of powers of ten is tied to the library's text.
  Conditions: the listed package-level tables read as the library's own text lays them (the card ties them).
-/
import Derived.Test.YtalcfglcbpkebaaDoorR
import Derived.Test.YtalcfglcbpkebaaDoorXiQ
import Derived.Test.YtalcfglcbpkebaaDoorCards
import Derived.Test.YtalcfglcbpkebaaDoorTie
namespace Go.Proofs.YtalcfglcbpkebaaDoor
open Go.ChangeShapes Go.WideShapes Go.ChangeAt Go.RowKit
set_option linter.unusedVariables false
set_option linter.unusedSimpArgs false

theorem get_of (A : Option Addr) (c d : Nat) (b : List UInt8) (hb : b.length ≤ 140737488355328) (f : Nat) (g h : List UInt8) (n : Nat) (hg : getD b = some (f, g, h, n)) (hm : mayX (str8 g) (str8 h)) (w : World) (hv : Shows w d (.slice A b.length c) b) :
    Calls Tryd.prog 21 #[.slice A b.length c] w fun e w' => e = .returned (.tuple #[xidV f (str8 g) (str8 h), .int .i64 n, .int .i64 0]) ∧ Below w.heap.size w w' := by
  have h1 := hg
  rw [← getD_take] at h1
  obtain ⟨e1, e2, e3, e4, e5⟩ := gx_some _ _ _ _ _ h1
  have := get_ok A c d b w hv hb _ n e4 (by rw [List.length_drop]; omega) (by rw [e2, e3]; exact hm)
  rw [e1, e2, e3] at this
  exact this
theorem qget_of (A : Option Addr) (c d : Nat) (b : List UInt8) (hb : b.length ≤ 140737488355328) (f : Nat) (g h : List UInt8) (n : Nat) (hg : getD b = some (f, g, h, n)) (hm : mayX (str8 g) (str8 h)) (w : World) (hv : Shows w d (.slice A b.length c) b) :
    Calls Tryd.prog 22 #[.slice A b.length c] w fun e w' => e = .returned (.tuple #[xidV f (str8 g) (str8 h), .int .i64 n, .int .i64 0]) ∧ Below w.heap.size w w' := by
  obtain ⟨e1, e2, e3, e4, e5⟩ := gx_some _ _ _ _ _ hg
  have := qgetX_ok _ d b _ w hv hb e4 (by rw [e2, e3]; exact hm)
  rw [e1, e2, e3, List.length_drop, show (b.length : Int) - ((b.length - n : Nat) : Int) = (n : Int) by omega] at this
  exact this

theorem get_both (A : Option Addr) (c d : Nat) (b : List UInt8) (hb : b.length ≤ 140737488355328) : ∃ (f : Nat) (g h : ByteArray) (n e : Int),
    (∀ w, Shows w d (.slice A b.length c) b → Calls Tryd.prog 21 #[.slice A b.length c] w fun x w' => x = .returned (.tuple #[xidV f g h, .int .i64 n, .int .i64 e]) ∧ Below w.heap.size w w') ∧
    (∀ w, Shows w d (.slice A b.length c) b → Calls Tryd.prog 22 #[.slice A b.length c] w fun x w' => x = .returned (.tuple #[xidV f g h, .int .i64 n, .int .i64 e]) ∧ Below w.heap.size w w') := by
  cases hg : getD b with
  | none =>
    exact ⟨0, ByteArray.empty, ByteArray.empty, 0, 4, fun w hv => get_short A c d b w hv hb (gx_short _ (by rw [getD_take]; exact hg)), fun w hv => qgetX_short _ d b w hv hb (gx_short _ hg)⟩
  | some x =>
    obtain ⟨f, g, h, n⟩ := x
    by_cases hm : mayX (str8 g) (str8 h)
    · exact ⟨f, str8 g, str8 h, n, 0, get_of A c d b hb f g h n hg hm, qget_of A c d b hb f g h n hg hm⟩
    · have h1 := hg
      rw [← getD_take] at h1
      obtain ⟨_, e2, e3, e4, _⟩ := gx_some _ _ _ _ _ h1
      obtain ⟨_, q2, q3, q4, _⟩ := gx_some _ _ _ _ _ hg
      exact ⟨0, ByteArray.empty, ByteArray.empty, 0, 40, fun w hv => get_bad A c d b w hv hb _ e4 (by rw [e2, e3]; exact hm), fun w hv => qgetX_bad _ d b _ w hv hb q4 (by rw [q2, q3]; exact hm)⟩

set_option maxRecDepth 100000 in
set_option maxHeartbeats 2000000 in
theorem gets_walk (A : Option Addr) (c d : Nat) (b : List UInt8) (w : World) (hT : Tab w) (hv : Shows w d (.slice A b.length c) b) (hb : b.length ≤ 140737488355328) :
    Calls Tryd.prog 5 #[.slice A b.length c] w fun e w' => e = .returned (.bool true) ∧ Below w.heap.size w w' := by
  obtain ⟨f, g, h, n, e0, hc1, hc2⟩ := get_both A c d b hb
  have C1 := Lib.hid hc1
  have C2 := Lib.hid hc2
  have C6 := Lib.hid head_any
  have HT := Lib.hid hT
  unfold xidV at *
  clear hc1 hc2 hb hT
  go_enter Tryd.func5, Tryd.ntmps5
  go_wp2_with fail
  refine (C1.out _ hv).mono ?_
  rintro e w1 ⟨rfl, hb1⟩
  have hv1 := hv.keep hb1.size fun hp => hb1.block _ (hv.lt hp)
  go_wp2_with fail
  have hX2 : Boxed (w1.alloc (Obj.cells #[.int .u32 f, .string g, .string h] 24)) w1.heap.size f g h := Boxed.new w1
  have hv2 := hv1.keep (w' := w1.alloc (Obj.cells #[.int .u32 f, .string g, .string h] 24)) (by simp) fun hp => Below.heap_alloc _ _ _ (hv1.lt hp)
  have hb2 := hb1.alloc hb1.size (Obj.cells #[.int .u32 f, .string g, .string h] 24)
  generalize w1.alloc (Obj.cells #[.int .u32 f, .string g, .string h] 24) = w2 at *
  refine (C2.out _ hv2).mono ?_
  rintro e w3 ⟨rfl, hb3⟩
  have hX3 := hX2.below hb3 hX2.lt
  have hb4 := hb2.trans (hb3.mono hb2.size)
  have hl := hX3.lt
  have x0 := hX3.c0
  have x1 := hX3.c1
  have x2 := hX3.c2
  go_wp2_with fail
  have hb5 := hb4.alloc hb4.size (Obj.cells #[.int .u32 f, .string g, .string h] 24)
  have hT5 := HT.out.below hb5
  generalize w3.alloc (Obj.cells #[.int .u32 f, .string g, .string h] 24) = w5 at *
  refine (C6.out _ hT5).mono ?_
  rintro e w6 ⟨rfl, hb6⟩
  go_wp2_with fail
  go_ret
  exact ⟨rfl, hb5.trans (hb6.mono hb5.size)⟩

set_option maxRecDepth 100000 in
theorem gets_walk_lifted (os : Os) (started : os.Started) (H : Type) (enc : TypeId × Value → H) :
    ReturnsInHanded {} Tryd.checked os 5 .any (fun w args => (Rows.xidGetsSpec.pre enc Tryd.prog Tryd.f5 [] false w args ∧ laidMetH Tryd.prog laid1 w) ∧ sizedMet enc Tryd.prog Tryd.f5 (OpenSpec.ofChange Rows.xidGetsSpec) false w args)
      (Rows.xidGetsSpec.post enc Tryd.prog Tryd.f5 false true false false) := by
  refine returnsInHanded_of_change_and (C := Tryd.checked) (X := fun w _ => laidMetH Tryd.prog laid1 w) (fun _ _ _ hh h => h.of_heap hh) own started (by kernel_rfl) Tryd.func5
    (ChangeSpec.witness_shaped (enc := enc) (C := Tryd.checked) (os := os) (X := fun w _ => laidMetH Tryd.prog laid1 w) false (World.doorLaid Tryd.prog 24 os) #[.slice none 0 0] 8 rfl (World.shaped_of_RefB (by kernel_rfl) (by kernel_rfl)) (by kernel_rfl) (by kernel_rfl) (by kernel_rfl) (door_met os _)) ?_
  intro W base args ds gs before hval0 hW _ hsz0 hL _
  have hval : ∀ (j : Nat) t v, Tryd.f5.params[j]? = some t → args[j]? = some v → Value.okWide Tryd.prog W .any base t v := hval0
  have hsz : (DataW.weightsEach Tryd.prog (Tryd.f5.params.toList ++ Rows.xidGetsSpec.plain.varTypes Tryd.prog) (ds ++ gs)).all (· ≤ reachBytes) = true := hsz0
  have hW' := hW
  obtain ⟨p, q, hA0, hV, rfl, hfz, hnd⟩ := hW
  have hA : DataW.TrodAll enc Tryd.prog W 0 (fun _ => true) true Tryd.f5.params.toList args.toList ds p := hA0
  rw [Tryd.params5] at hA hval hsz
  obtain ⟨v0, vs0, d0, ds0, p0, q0, hargs, rfl, rfl, h0, r0⟩ := trodAll_cons hA
  obtain ⟨rfl, rfl, rfl⟩ := trodAll_nil r0
  obtain rfl : args = #[v0] := by cases args; simp_all
  obtain ⟨rfl, rfl⟩ := trodVars_none hV
  have k0 := h0
  have lt0 : ∀ x ∈ p0, x.block < W.heap.size := by obtain ⟨m, hm⟩ := k0; exact DataW.trod_lt m _ _ _ hm
  obtain ⟨A0, c0, b0, L0, rfl, sh0, l0⟩ := open_bytes Tryd.underlying31 Tryd.underlying5 (by kernel_rfl) bytes5 (hval 0 31 v0 rfl rfl) h0 hsz 0 rfl rfl
  clear hA0 hval0
  refine (gets_walk A0 c0 b0 L0 W (tab_of_laid hL) sh0 (by omega)).mono fun e W' ⟨he, bel⟩ => ?_
  subst he
  exact ⟨_, rfl, _, _, _, [], _, [], hW', trodAll_mk1 (shut_bool Tryd.underlying4 _), (trodAll_cons_mk (Below.trod laidOut (by kernel_rfl) (of_decide_eq_true (by kernel_rfl)) k0 bel lt0) trodAll_mk0), rfl, bel.frame _, fun h => by cases h⟩

theorem gets_walk_over : Rows.XidGetsSaid :=
  OpenClaim.holds_of_wide 5 Tryd.f5 rfl rfl rfl rfl rfl rfl rfl ⟨rfl, rfl, rfl, rfl, rfl⟩ rfl rfl rfl rfl rfl (by kernel_rfl) Tryd.func5 (by kernel_rfl)
    (of_decide_eq_true (by kernel_rfl)) (by unfold Func.isWrapper; first | (rw [if_pos (by decide +kernel)]; kernel_rfl) | (rw [if_neg (by decide +kernel)]; exact ⟨rfl, rfl⟩))
    (fun os started H enc _ => gets_walk_lifted os started H enc)

theorem xidGets_holds : Rows.XidGetsCardSaid :=
  Claim7.holds_tied_plain_at .later [] [.data, .data, .data] true (true, "3c76a0715c3448ae86bd8466d891c7650f6444d46089a6511ef71281182a261d") false
    gets_walk_over (fun _ h => by cases h) (by kernel_rfl) (fun _ h => by cases h) xidGets_row_tie rfl ⟨rfl, rfl⟩ (by kernel_rfl) rfl
    (fun f fn hf hfn => by
      obtain rfl : f = 5 := Option.some.inj ((show Tryd.prog.funcNamed "posthouse/posthouselaw04.XidGets" = some 5 by kernel_rfl).symm.trans hf) |>.symm
      obtain rfl : fn = Tryd.f5 := (Option.some.inj (Tryd.func5.symm.trans hfn)).symm
      exact ⟨by kernel_rfl, fun j t ht => by
        rw [Tryd.params5] at ht
        have hm : t ∈ [31] := by simpa using Array.mem_of_getElem? ht
        have hall : ([31].all fun u => !Tryd.prog.wantsStandIn u) = true := by kernel_rfl
        exact (show Tryd.prog.wantsStandIn t = false by simpa using List.all_eq_true.1 hall t hm)⟩)
    (by kernel_rfl)
#print axioms xidGets_holds
end Go.Proofs.YtalcfglcbpkebaaDoor
