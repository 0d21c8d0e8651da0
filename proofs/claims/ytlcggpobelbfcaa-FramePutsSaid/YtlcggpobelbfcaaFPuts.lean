/-
  For every frame: Check and Put of package frame tell what the document's own Check and Put tell.
  Conditions: none.
-/
import Derived.Test.YtlcggpobelbfcaaFrR
import Derived.Test.YtlcggpobelbfcaaFrO
namespace Go.Proofs.Ytlcggpobelbfcaa
open Go.ChangeShapes Go.WideShapes Go.ChangeAt Go.RowKit
open Go.ChangeMaps (open_string shut_string)
set_option linter.unusedVariables false
set_option linter.unusedSimpArgs false

set_option maxRecDepth 100000 in
set_option maxHeartbeats 4000000 in
theorem fputs_walk (f : Fr) (w : World) (hf : f.ok) :
    Calls Try.prog 5 #[.agg f.vs.toArray] w fun e w' => e = .returned (.bool true) ∧ Below w.heap.size w w' := by
  have HX := Lib.hid (BoxF.new w f)
  have HB0 := Lib.hid (below_box w (Obj.cells #[.bool f.a, .bool f.b, .bool f.c, .bool f.d, .int .u8 f.t, .int .u8 f.k, .int .u16 f.ch, .string f.p] 44))
  have HH := Lib.hid fhead_any
  have HC := Lib.hid (fun w => fcheck_any f w hf.2.2.2)
  by_cases hc : checkF f = 0
  · have HP := Lib.hid (fun w => fput_ok f w hf hc)
    have HQ := Lib.hid (fun w => qfput_ok f w hf hc)
    rw [hc] at HC
    clear hc hf
    generalize encF f = E at *
    obtain ⟨a, b, c, d, t, k, ch, p⟩ := f
    simp only [Fr.vs] at *
    go_enter Try.func5, Try.ntmps5
    go_wp2_with fail
    refine (HP.out _).mono ?_
    rintro e w1 ⟨v1, rfl, ho1, hb1⟩
    have hX1 := HX.out.kept hb1 (Nat.le_refl _)
    have HB1 := Lib.hid (HB0.out.trans (hb1.mono HB0.out.size))
    have x0 := hX1.c0
    have x1 := hX1.c1
    have x2 := hX1.c2
    have x3 := hX1.c3
    have x4 := hX1.c4
    have x5 := hX1.c5
    have x6 := hX1.c6
    have x7 := hX1.c7
    obtain ⟨g1, _, hs1⟩ := ho1.shows
    have HX1 := Lib.hid hX1
    have HS1 := Lib.hid hs1
    clear hX1 hb1 ho1 hs1
    go_wp2_with fail
    refine (HQ.out _).mono ?_
    rintro e w2 ⟨v2, rfl, ho2, hb2⟩
    have hX2 := HX1.out.kept hb2 (Nat.le_refl _)
    have HB2 := Lib.hid (HB1.out.trans (hb2.mono HB1.out.size))
    have cv1 := conv_at (HS1.out.keep hb2.size (fun hp => hb2.block g1 (HS1.out.lt hp)))
    obtain ⟨g2, _, hs2⟩ := ho2.shows
    have cv2 := conv_at hs2
    clear x0 x1 x2 x3 x4 x5 x6 x7
    have x0 := hX2.c0
    have x1 := hX2.c1
    have x2 := hX2.c2
    have x3 := hX2.c3
    have x4 := hX2.c4
    have x5 := hX2.c5
    have x6 := hX2.c6
    have x7 := hX2.c7
    clear hX2 hb2 ho2 hs2
    go_wp2_with fail
    refine (HC.out _).mono ?_
    rintro e w3 ⟨rfl, hb3⟩
    have HB3 := Lib.hid (HB2.out.trans (hb3.mono HB2.out.size))
    clear x0 x1 x2 x3 x4 x5 x6 x7 hb3
    go_wp2_with fail
    refine (HH.out _).mono ?_
    rintro e w4 ⟨rfl, hb4⟩
    go_wp2_with fail
    go_ret
    exact ⟨rfl, HB3.out.trans (hb4.mono HB3.out.size)⟩
  · have HP := Lib.hid (fun w => fput_no f w hf hc)
    have HQ := Lib.hid (fun w => qfput_no f w hf hc)
    rw [checkF_no hc] at HC
    clear hc hf
    obtain ⟨a, b, c, d, t, k, ch, p⟩ := f
    simp only [Fr.vs] at *
    go_enter Try.func5, Try.ntmps5
    go_wp2_with fail
    refine (HP.out _).mono ?_
    rintro e w1 ⟨rfl, hb1⟩
    have hX1 := HX.out.kept hb1 (Nat.le_refl _)
    have HB1 := Lib.hid (HB0.out.trans (hb1.mono HB0.out.size))
    have x0 := hX1.c0
    have x1 := hX1.c1
    have x2 := hX1.c2
    have x3 := hX1.c3
    have x4 := hX1.c4
    have x5 := hX1.c5
    have x6 := hX1.c6
    have x7 := hX1.c7
    have HX1 := Lib.hid hX1
    clear hX1 hb1
    go_wp2_with fail
    refine (HQ.out _).mono ?_
    rintro e w2 ⟨rfl, hb2⟩
    have hX2 := HX1.out.kept hb2 (Nat.le_refl _)
    have HB2 := Lib.hid (HB1.out.trans (hb2.mono HB1.out.size))
    have cv1 := conv_at (Shows.nil_ w2 0)
    clear x0 x1 x2 x3 x4 x5 x6 x7
    have x0 := hX2.c0
    have x1 := hX2.c1
    have x2 := hX2.c2
    have x3 := hX2.c3
    have x4 := hX2.c4
    have x5 := hX2.c5
    have x6 := hX2.c6
    have x7 := hX2.c7
    clear hX2 hb2
    go_wp2_with fail
    refine (HC.out _).mono ?_
    rintro e w3 ⟨rfl, hb3⟩
    have HB3 := Lib.hid (HB2.out.trans (hb3.mono HB2.out.size))
    clear x0 x1 x2 x3 x4 x5 x6 x7 hb3
    go_wp2_with fail
    refine (HH.out _).mono ?_
    rintro e w4 ⟨rfl, hb4⟩
    go_wp2_with fail
    go_ret
    exact ⟨rfl, HB3.out.trans (hb4.mono HB3.out.size)⟩

set_option maxRecDepth 100000 in
set_option maxHeartbeats 1000000 in
theorem fputs_walk_lifted (os : Os) (started : os.Started) (H : Type) (enc : TypeId × Value → H) :
    ReturnsInHanded {} Try.checked os 5 .any (Rows.framePutsSpec.pre6 enc Try.prog Try.f5 Rows.framePutsRow.domain false) (Rows.framePutsSpec.post enc Try.prog Try.f5 false true false false) := by
  refine returnsInHanded_of_change_sized (C := Try.checked) own started (by kernel_rfl) Try.func5
    (ChangeSpec.witness6 (enc := enc) (C := Try.checked) false ⟨#[], #[.agg #[.bool false, .bool false, .bool false, .bool false, .int .u8 0, .int .u8 0, .int .u16 0, .string ⟨#[]⟩]], []⟩ 8 (by kernel_rfl) (by kernel_rfl) (by kernel_rfl) (by kernel_rfl)) ?_
  intro W base args ds gs before hval0 hW hcnd hsz0 _
  have hval : ∀ (j : Nat) t v, Try.f5.params[j]? = some t → args[j]? = some v → Value.okWide Try.prog W .any base t v := hval0
  have hsz : (DataW.weightsEach Try.prog (Try.f5.params.toList ++ Rows.framePutsSpec.plain.varTypes Try.prog) (ds ++ gs)).all (· ≤ reachBytes) = true := hsz0
  have hW' := hW
  obtain ⟨p, q, hA0, hV, rfl, hfz, hnd⟩ := hW
  have hA : DataW.TrodAll enc Try.prog W 0 (fun _ => true) true Try.f5.params.toList args.toList ds p := hA0
  rw [Try.params5] at hA hval hsz
  obtain ⟨v0, vs0, d0, ds0, p0, q0, hargs, rfl, rfl, h0, r0⟩ := trodAll_cons hA
  obtain ⟨rfl, rfl, rfl⟩ := trodAll_nil r0
  obtain rfl : args = #[v0] := by cases args; simp_all
  obtain ⟨rfl, rfl⟩ := trodVars_none hV
  have k0 := h0
  have lt0 : ∀ x ∈ p0, x.block < W.heap.size := by obtain ⟨m, hm⟩ := k0; exact DataW.trod_lt m _ _ _ hm
  obtain ⟨F0, rfl, ok0⟩ := open_frame (hval 0 44 v0 rfl rfl) h0 hsz 0 rfl rfl
  clear hA0 hval0
  refine (fputs_walk F0 W ok0).mono fun e W' ⟨he, bel⟩ => ?_
  subst he
  exact ⟨_, rfl, _, _, _, [], _, [], hW', trodAll_mk1 (shut_bool Try.underlying4 _), (trodAll_cons_mk (Below.trod laidOut (by kernel_rfl) (of_decide_eq_true (by kernel_rfl)) k0 bel lt0) trodAll_mk0), rfl, bel.frame _, fun h => by cases h⟩

theorem framePuts_holds : Rows.FramePutsSaid :=
  OpenClaim.holds_of_wide 5 Try.f5 rfl rfl rfl rfl rfl rfl rfl ⟨rfl, rfl, rfl, rfl, rfl⟩ rfl rfl rfl rfl rfl (by kernel_rfl) Try.func5 (by kernel_rfl)
    (of_decide_eq_true (by kernel_rfl)) (by unfold Func.isWrapper; first | (rw [if_pos (by decide +kernel)]; kernel_rfl) | (rw [if_neg (by decide +kernel)]; exact ⟨rfl, rfl⟩))
    (fun os started H enc _ => fputs_walk_lifted os started H enc)
#print axioms framePuts_holds
end Go.Proofs.Ytlcggpobelbfcaa
