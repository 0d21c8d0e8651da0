/-
  For every frame: a gatherer that is none, or that New did not tell, answers ErrNil, and has nothing open.
  Conditions: none.
-/
import Derived.Test.YtdjdhnopieeibaaGaL
import Derived.Test.YtdjdhnopieeibaaFrO
namespace Go.Proofs.Ytdjdhnopieeibaa
open Go.ChangeShapes Go.WideShapes Go.ChangeAt Go.RowKit
open Go.ChangeMaps (open_string shut_string)
set_option linter.unusedVariables false
set_option linter.unusedSimpArgs false

set_option maxRecDepth 100000 in
set_option maxHeartbeats 8000000 in
theorem gnone_walk (f : Fr) (w : World) (hf : f.ok) : Calls Try.prog 9 #[.agg f.vs.toArray] w fun e w' => e = .returned (.bool true) ∧ Below w.heap.size w w' := by
  have HN : ∀ w', Calls Try.prog 26 #[.pointer none, .agg f.vs.toArray] w' fun e w'' => e = .returned (.tuple #[.agg #[.int .u16 0, .int .u8 0, .slice none 0 0], .bool false, .int .i64 1]) ∧ Below w'.heap.size w' w'' := fun w' => feed_nil f w'
  have HU : ∀ gb w', w'.heap[gb]? = some (.cells #[.int .u8 0, .map none] 80 (0, 0)) → Calls Try.prog 26 #[.pointer (some ⟨gb, 0, none⟩), .agg f.vs.toArray] w' fun e w'' => e = .returned (.tuple #[.agg #[.int .u16 0, .int .u8 0, .slice none 0 0], .bool false, .int .i64 1]) ∧ Below w'.heap.size w' w'' := fun gb w' h => feed_unmade f gb w' h
  have HN := Lib.hid HN
  have HU := Lib.hid HU
  have HO := Lib.hid gopen_nil
  have HH := Lib.hid ghead_any
  have HX := Lib.hid (And.intro (BoxF.new w f) (below_box w (Obj.cells #[.bool f.a, .bool f.b, .bool f.c, .bool f.d, .int .u8 f.t, .int .u8 f.k, .int .u16 f.ch, .string f.p] 40)))
  obtain ⟨fa, fb, fc, fd, ft, fk, fch, fp⟩ := f
  simp only [Fr.vs] at *
  go_enter Try.func9, Try.ntmps9
  go_wp2_with fail
  refine (HN.out _).mono ?_
  rintro e w1 ⟨rfl, hb1⟩
  have hX1 := HX.out.1.kept hb1 (Nat.le_refl _)
  have HB1 := Lib.hid (HX.out.2.trans (hb1.mono HX.out.2.size))
  have hb2 : Below w1.heap.size w1 ((w1.alloc (Obj.cells #[.int .u16 0, .int .u8 0, .slice none 0 0] 52)).alloc (Obj.cells #[.int .u8 0, .map none] 80)) := (below_box w1 _).alloc (by simp) _
  have hX2 := hX1.kept hb2 (Nat.le_refl _)
  have hG2 := heap_alloc_new (w1.alloc (Obj.cells #[.int .u16 0, .int .u8 0, .slice none 0 0] 52)) (Obj.cells #[.int .u8 0, .map none] 80)
  rw [World.size_alloc] at hG2
  have HG2 := Lib.hid hG2
  have hA2 : BoxA ((w1.alloc (Obj.cells #[.int .u16 0, .int .u8 0, .slice none 0 0] 52)).alloc (Obj.cells #[.int .u8 0, .map none] 80)) w1.heap.size 0 0 (.slice none 0 0) := (BoxA.new w1 0 0 (.slice none 0 0)).kept (below_box _ _) (Nat.le_refl _)
  have HA2 := Lib.hid (And.intro hA2 hb2)
  have x0 := hX2.c0
  have x1 := hX2.c1
  have x2 := hX2.c2
  have x3 := hX2.c3
  have x4 := hX2.c4
  have x5 := hX2.c5
  have x6 := hX2.c6
  have x7 := hX2.c7
  clear hb1 hX1 hX2 hG2 hA2 hb2
  go_wp2_with fail
  refine (HU.out _ _ HG2.out).mono ?_
  rintro e w3 ⟨rfl, hb3⟩
  have hs3 := hb3.size
  have hA3 := (HA2.out.1.kept hb3 (Nat.le_refl _)).kept (below_box w3 (Obj.cells #[.int .u16 0, .int .u8 0, .slice none 0 0] 52)) (Nat.le_refl _)
  have hb13 := HA2.out.2.trans (hb3.mono HA2.out.2.size)
  have HB3 := Lib.hid ((HB1.out.trans (hb13.mono HB1.out.size)).alloc (by have := HB1.out.size; have := hb13.size; omega) (Obj.cells #[.int .u16 0, .int .u8 0, .slice none 0 0] 52))
  have a2 := hA3.c2
  clear hb3 hA3 hb13 x0 x1 x2 x3 x4 x5 x6 x7
  go_wp2_with (first
    | (go_at_call 29; refine (HO.out _).mono ?_; rintro e w4 ⟨rfl, rfl⟩)
    | (go_at_call 20; refine (HH.out _).mono ?_; rintro e w5 ⟨rfl, hb5⟩))
  go_ret
  exact ⟨rfl, HB3.out.trans (hb5.mono HB3.out.size)⟩

set_option maxRecDepth 100000 in
set_option maxHeartbeats 1000000 in
theorem gnone_walk_lifted (os : Os) (started : os.Started) (H : Type) (enc : TypeId × Value → H) :
    ReturnsInHanded {} Try.checked os 9 .any (Rows.gatherNoneSpec.pre6 enc Try.prog Try.f9 Rows.gatherNoneRow.domain false) (Rows.gatherNoneSpec.post enc Try.prog Try.f9 false true false false) := by
  refine returnsInHanded_of_change_sized (C := Try.checked) own started (by kernel_rfl) Try.func9
    (ChangeSpec.witness6 (enc := enc) (C := Try.checked) false ⟨#[], #[.agg #[.bool false, .bool false, .bool false, .bool false, .int .u8 0, .int .u8 0, .int .u16 0, .string ⟨#[]⟩]], []⟩ 8 (by kernel_rfl) (by kernel_rfl) (by kernel_rfl) (by kernel_rfl)) ?_
  intro W base args ds gs before hval0 hW hcnd hsz0 _
  have hval : ∀ (j : Nat) t v, Try.f9.params[j]? = some t → args[j]? = some v → Value.okWide Try.prog W .any base t v := hval0
  have hsz : (DataW.weightsEach Try.prog (Try.f9.params.toList ++ Rows.gatherNoneSpec.plain.varTypes Try.prog) (ds ++ gs)).all (· ≤ reachBytes) = true := hsz0
  have hW' := hW
  obtain ⟨p, q, hA0, hV, rfl, hfz, hnd⟩ := hW
  have hA : DataW.TrodAll enc Try.prog W 0 (fun _ => true) true Try.f9.params.toList args.toList ds p := hA0
  rw [Try.params9] at hA hval hsz
  obtain ⟨v0, vs0, d0, ds0, p0, q0, hargs, rfl, rfl, h0, r0⟩ := trodAll_cons hA
  obtain ⟨rfl, rfl, rfl⟩ := trodAll_nil r0
  obtain rfl : args = #[v0] := by cases args; simp_all
  obtain ⟨rfl, rfl⟩ := trodVars_none hV
  have k0 := h0
  have lt0 : ∀ x ∈ p0, x.block < W.heap.size := by obtain ⟨m, hm⟩ := k0; exact DataW.trod_lt m _ _ _ hm
  obtain ⟨F0, rfl, ok0⟩ := open_frame (hval 0 40 v0 rfl rfl) h0 hsz 0 rfl rfl
  clear hA0 hval0
  refine (gnone_walk F0 W ok0).mono fun e W' ⟨he, bel⟩ => ?_
  subst he
  exact ⟨_, rfl, _, _, _, [], _, [], hW', trodAll_mk1 (shut_bool Try.underlying4 _), (trodAll_cons_mk (Below.trod laidOut (by kernel_rfl) (of_decide_eq_true (by kernel_rfl)) k0 bel lt0) trodAll_mk0), rfl, bel.frame _, fun h => by cases h⟩

theorem gatherNone_holds : Rows.GatherNoneSaid :=
  OpenClaim.holds_of_wide 9 Try.f9 rfl rfl rfl rfl rfl rfl rfl ⟨rfl, rfl, rfl, rfl, rfl⟩ rfl rfl rfl rfl rfl (by kernel_rfl) Try.func9 (by kernel_rfl)
    (of_decide_eq_true (by kernel_rfl)) (by unfold Func.isWrapper; first | (rw [if_pos (by decide +kernel)]; kernel_rfl) | (rw [if_neg (by decide +kernel)]; exact ⟨rfl, rfl⟩))
    (fun os started H enc _ => gnone_walk_lifted os started H enc)
#print axioms gatherNone_holds
end Go.Proofs.Ytdjdhnopieeibaa
