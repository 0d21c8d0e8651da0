/-
  For every method that is not too great to look at: Check and Put tell the document's bytes or error.
  Conditions: sizes.
-/
import Derived.Test.YtpbdnfonflmncaaGreatMqPZ
import Derived.Test.YtpbdnfonflmncaaGreatMeSmZ
import Derived.Test.YtpbdnfonflmncaaGreatMeCpZ
import Derived.Test.YtpbdnfonflmncaaGreatMeDqZ
import Derived.Test.YtpbdnfonflmncaaGreatMeOpZ
namespace Go.Proofs.YtpbdnfonflmncaaGreat
open Go.ChangeShapes Go.WideShapes Go.ChangeAt Go.RowKit
open Go.ChangeMaps (open_string shut_string)
set_option linter.unusedVariables false
set_option linter.unusedSimpArgs false

theorem m_shows_below1 {w w' : World} {v : Value} {E : List UInt8} (h : ∃ g, Shows w g v E) (hb : Below w.heap.size w w') : ∃ g, Shows w' g v E := by
  obtain ⟨g, hg⟩ := h
  exact ⟨g, hg.keep hb.size (fun hp => hb.block g (hg.lt hp))⟩
open Classical in
/-- What Put tells, be it bytes or none. -/
noncomputable def putMB (m : MethP) : List UInt8 := if validM m then m_putM m else []
theorem mput_said (cl co : Nat) (sy : Bool) (l : List ArgP) (A : Option Addr) (c : Nat) (w : World) (h : ListA w l A c) (hc : ∀ a ∈ l, cntT a.v ≤ 1000000) :
    Calls Tryz.prog 8 #[.agg #[.int .u8 cl, .int .u8 co, .bool sy, .slice A l.length c]] w fun e w' => ∃ v, e = .returned (.tuple #[v, .int .i64 (errC ⟨cl, co, sy, l⟩)]) ∧ (∃ g, Shows w' g v (putMB ⟨cl, co, sy, l⟩)) ∧ Below w.heap.size w w' := by
  by_cases hv : validM ⟨cl, co, sy, l⟩
  · refine (mput_ok cl co sy l A c w h hc hv).mono ?_
    rintro e w' ⟨v, rfl, ho, hb⟩
    obtain ⟨g, _, hs⟩ := ho.shows
    exact ⟨v, by rw [errC_ok hv]; rfl, ⟨g, by unfold putMB; rw [if_pos hv]; exact hs⟩, hb⟩
  · refine (mput_no cl co sy l A c w h hc hv).mono ?_
    rintro e w' ⟨rfl, hb⟩
    exact ⟨_, by rw [errC_no hv]; rfl, ⟨0, by unfold putMB; rw [if_neg hv]; exact Shows.nil_ _ _⟩, hb⟩
theorem mqput_said (cl co : Nat) (sy : Bool) (l : List ArgP) (A : Option Addr) (c : Nat) (w : World) (h : ListA w l A c) (hq : ∀ a ∈ l, a.q.length ≤ 1100) (hcl : cl < 256) (hco : co < 256) :
    Calls Tryz.prog 9 #[.agg #[.int .u8 cl, .int .u8 co, .bool sy, .slice A l.length c]] w fun e w' => ∃ v, e = .returned (.tuple #[v, .int .i64 (errC ⟨cl, co, sy, l⟩)]) ∧ (∃ g, Shows w' g v (putMB ⟨cl, co, sy, l⟩)) ∧ Below w.heap.size w w' := by
  refine (qmput_any cl co sy l A c w h hq hcl hco).mono ?_
  rintro e w' ⟨v, n, rfl, h1 | h1, hb⟩
  · obtain ⟨hv, rfl, ho⟩ := h1
    obtain ⟨g, _, hs⟩ := ho.shows
    exact ⟨v, by rw [errC_ok hv], ⟨g, by unfold putMB; rw [if_pos hv]; exact hs⟩, hb⟩
  · obtain ⟨hv, rfl, rfl⟩ := h1
    exact ⟨_, by rw [errC_no hv], ⟨0, by unfold putMB; rw [if_neg hv]; exact Shows.nil_ _ _⟩, hb⟩

set_option maxRecDepth 100000 in
set_option maxHeartbeats 4000000 in
theorem mputs_walk (cl co : Nat) (sy : Bool) (l : List ArgP) (A : Option Addr) (c : Nat) (w : World) (hcl : cl < 256) (hco : co < 256) (h : ListA w l A c) :
    Calls Tryz.prog 3 #[.agg #[.int .u8 cl, .int .u8 co, .bool sy, .slice A l.length c]] w fun e w' => e = .returned (.bool true) ∧ Below w.heap.size w w' := by
  have HSM := Lib.hid (fun w' (hw' : Below w.heap.size w w') => msmalln_any cl co sy l A c w' (h.kept hw' (Nat.le_refl _)))
  unfold SmallN at HSM
  have HH := Lib.hid mhead_any
  have HCP := Lib.hid (fun (h8 : l.length ≤ 8) (hc : ∀ a ∈ l, cntT a.v ≤ 400) w' (hw' : Below w.heap.size w w') => mcopy_any cl co sy l A c w' (h.kept hw' (Nat.le_refl _)) h8 hc)
  unfold MCopySaid at HCP
  have HP := Lib.hid (fun A' c' w' (hs : ListA w' l A' c') (hc : ∀ a ∈ l, cntT a.v ≤ 1000000) => mput_said cl co sy l A' c' w' hs hc)
  have HQ := Lib.hid (fun w' (hw' : Below w.heap.size w w') (hq : ∀ a ∈ l, a.q.length ≤ 1100) => mqput_said cl co sy l A c w' (h.kept hw' (Nat.le_refl _)) hq hcl hco)
  have HK := Lib.hid (fun A' c' w' (hs : ListA w' l A' c') (hc : ∀ a ∈ l, cntT a.v ≤ 1000000) => mcheck_walk cl co sy l A' c' w' hs hc)
  have hsame : ∀ (A' : Option Addr) (c' : Nat) (w' : World), ListA w' l A' c' → Below w.heap.size w w' → Calls Tryz.prog 11 #[.agg #[.int .u8 cl, .int .u8 co, .bool sy, .slice A' l.length c'], .agg #[.int .u8 cl, .int .u8 co, .bool sy, .slice A l.length c]] w' fun e w'' => e = .returned (.bool true) ∧ Below w'.heap.size w' w'' := fun A' c' w' hva hw' => by
    have := qmsame_any cl co sy l A' c' cl co sy l A c w' hva (h.kept hw' (Nat.le_refl _))
    rw [(sameM_iff ⟨cl, co, sy, l⟩ _).2 rfl] at this
    exact this
  have HSAME := Lib.hid hsame
  have hX := BoxM.new w cl co sy (.slice A l.length c)
  have hBX := below_box w (Obj.cells #[.int .u8 cl, .int .u8 co, .bool sy, .slice A l.length c] 24)
  have HX := Lib.hid hX
  have HBX := Lib.hid hBX
  generalize errC ⟨cl, co, sy, l⟩ = C at *
  generalize putMB ⟨cl, co, sy, l⟩ = E at *
  clear h hX hBX hsame
  go_enter Tryz.func3, Tryz.ntmps3
  go_wp2_with fail
  refine (HSM.out _ HBX.out).mono ?_
  rintro e w1 ⟨r, rfl, hr, hb1⟩
  have hX1 := HX.out.kept hb1 (Nat.le_refl _)
  have hB1 := HBX.out.trans (hb1.mono HBX.out.size)
  have x0 := hX1.c0
  have x1 := hX1.c1
  have x2 := hX1.c2
  have x3 := hX1.c3
  have HX1 := Lib.hid hX1
  have HB1 := Lib.hid hB1
  clear hX1 hB1
  cases r with
  | false =>
    go_wp2_with fail
    refine (HH.out _).mono ?_
    rintro e w2 ⟨rfl, hb2⟩
    go_wp2_with fail
    go_ret
    exact ⟨rfl, HB1.out.trans (hb2.mono HB1.out.size)⟩
  | true =>
  obtain ⟨h8, hsm⟩ := hr rfl
  have HC6 : Hid (∀ a ∈ l, cntT a.v ≤ 1000000) := Lib.hid (fun a ha => by have := (hsm a ha).1; omega)
  have HQL : Hid (∀ a ∈ l, a.q.length ≤ 1100) := Lib.hid (fun a ha => (hsm a ha).2)
  have HCP2 := Lib.hid (HCP.out h8 (fun a ha => (hsm a ha).1) _ HB1.out)
  clear hr HCP HSM hsm
  go_wp2_with fail
  refine HCP2.out.mono ?_
  rintro e w2 ⟨A2, c2, rfl, hT2, hb2⟩
  obtain ⟨w3, hW3⟩ : ∃ w3, w3 = w2.alloc (Obj.cells #[.int .u8 cl, .int .u8 co, .bool sy, .slice A2 l.length c2] 24) := ⟨_, rfl⟩
  have hA2 : Below w2.heap.size w2 w3 := by rw [hW3]; exact below_box _ _
  have hY : BoxM w3 w2.heap.size cl co sy (.slice A2 l.length c2) := by rw [hW3]; exact BoxM.new w2 cl co sy _
  have hT3 := hT2.kept hA2 (Nat.le_refl _)
  have hX3 := (HX1.out.kept hb2 (Nat.le_refl _)).kept hA2 (Nat.le_refl _)
  have hB3 := HB1.out.trans (hb2.mono HB1.out.size)
  have hB3 := hB3.trans (hA2.mono hB3.size)
  have HT3 := Lib.hid (fun w' (hw' : Below w3.heap.size w3 w') => hT3.kept hw' (Nat.le_refl _))
  have HP3 := Lib.hid (HP.out _ _ _ hT3 HC6.out)
  have HX3 := Lib.hid hX3
  have HY3 := Lib.hid hY
  have HB3 := Lib.hid hB3
  have hY' := hY
  rw [hW3] at hY'
  have y0 := hY'.c0
  have y1 := hY'.c1
  have y2 := hY'.c2
  have y3 := hY'.c3
  clear hT2 hT3 hA2 hX3 hY hY' hB3 hb2 x0 x1 x2 x3
  go_wp2_with fail
  rw [← hW3]
  refine HP3.out.mono ?_
  rintro e w4 ⟨v4, rfl, hs4, hb4⟩
  have hX4 := HX3.out.kept hb4 (Nat.le_refl _)
  have hB4 := HB3.out.trans (hb4.mono HB3.out.size)
  have x0 := hX4.c0
  have x1 := hX4.c1
  have x2 := hX4.c2
  have x3 := hX4.c3
  have HQ4 := Lib.hid (HQ.out _ hB4 HQL.out)
  have HS4 := Lib.hid hs4
  clear y0 y1 y2 y3 hW3 hs4
  go_wp2_with fail
  refine HQ4.out.mono ?_
  rintro e w5 ⟨v5, rfl, hs5, hb5⟩
  have hb45 := hb4.trans (hb5.mono hb4.size)
  have hY5 := HY3.out.kept hb45 (Nat.le_refl _)
  have hX5 := hX4.kept hb5 (Nat.le_refl _)
  have hB5 := hB4.trans (hb5.mono hB4.size)
  have hs45 := m_shows_below1 HS4.out hb5
  obtain ⟨g4, hg4⟩ := hs45
  obtain ⟨g5, hg5⟩ := hs5
  have cv4 := conv_at hg4
  have cv5 := conv_at hg5
  have HK5 := Lib.hid (HK.out _ _ _ (HT3.out _ hb45) HC6.out)
  have hCC : ((C : Int) == (C : Int)) = true := by simp
  clear x0 x1 x2 x3
  have y0 := hY5.c0
  have y1 := hY5.c1
  have y2 := hY5.c2
  have y3 := hY5.c3
  have HY5 := Lib.hid hY5
  have HX5 := Lib.hid hX5
  have HB5 := Lib.hid hB5
  have HB45 := Lib.hid hb45
  clear hY5 hX5 hB5 hg4 hg5 hb4 hb5 hb45 hX4 hB4
  go_wp2_with fail
  refine HK5.out.mono ?_
  rintro e w6 ⟨rfl, hb6⟩
  have hX6 := HX5.out.kept hb6 (Nat.le_refl _)
  have hY6 := HY5.out.kept hb6 (Nat.le_refl _)
  have hB6 := HB5.out.trans (hb6.mono HB5.out.size)
  have HS6 := Lib.hid (HSAME.out _ _ _ (HT3.out _ (HB45.out.trans (hb6.mono HB45.out.size))) hB6)
  have x0 := hX6.c0
  have x1 := hX6.c1
  have x2 := hX6.c2
  have x3 := hX6.c3
  clear y0 y1 y2 y3 cv4 cv5
  have y0 := hY6.c0
  have y1 := hY6.c1
  have y2 := hY6.c2
  have y3 := hY6.c3
  have HB6 := Lib.hid hB6
  clear hX6 hY6 hB6
  go_wp2_with fail
  refine HS6.out.mono ?_
  rintro e w7 ⟨rfl, hb7⟩
  have HB7 := Lib.hid (HB6.out.trans (hb7.mono HB6.out.size))
  go_wp2_with fail
  refine (HH.out _).mono ?_
  rintro e w8 ⟨rfl, hb8⟩
  go_wp2_with fail
  go_ret
  exact ⟨rfl, HB7.out.trans (hb8.mono HB7.out.size)⟩

set_option maxRecDepth 100000 in
set_option maxHeartbeats 1000000 in
theorem mputs_walk_lifted (os : Os) (started : os.Started) (H : Type) (enc : TypeId × Value → H) :
    ReturnsInHanded {} Tryz.checked os 3 .any (Rows.methodPutsSpec.pre6 enc Tryz.prog Tryz.f3 Rows.methodPutsRow.domain false) (Rows.methodPutsSpec.post enc Tryz.prog Tryz.f3 false true false false) := by
  refine returnsInHanded_of_change_sized (C := Tryz.checked) own started (by kernel_rfl) Tryz.func3
    (ChangeSpec.witness6 (enc := enc) (C := Tryz.checked) false ⟨#[], #[.agg #[.int .u8 0, .int .u8 0, .bool false, .slice none 0 0]], []⟩ 8 (by kernel_rfl) (by kernel_rfl) (by kernel_rfl) (by kernel_rfl)) ?_
  intro W base args ds gs before hval0 hW hcnd hsz0 _
  have hval : ∀ (j : Nat) t v, Tryz.f3.params[j]? = some t → args[j]? = some v → Value.okWide Tryz.prog W .any base t v := hval0
  have hsz : (DataW.weightsEach Tryz.prog (Tryz.f3.params.toList ++ Rows.methodPutsSpec.plain.varTypes Tryz.prog) (ds ++ gs)).all (· ≤ reachBytes) = true := hsz0
  have hW' := hW
  obtain ⟨p, q, hA0, hV, rfl, hfz, hnd⟩ := hW
  have hA : DataW.TrodAll enc Tryz.prog W 0 (fun _ => true) true Tryz.f3.params.toList args.toList ds p := hA0
  rw [Tryz.params3] at hA hval hsz
  obtain ⟨v0, vs0, d0, ds0, p0, q0, hargs, rfl, rfl, h0, r0⟩ := trodAll_cons hA
  obtain ⟨rfl, rfl, rfl⟩ := trodAll_nil r0
  obtain rfl : args = #[v0] := by cases args; simp_all
  obtain ⟨rfl, rfl⟩ := trodVars_none hV
  have k0 := h0
  have lt0 : ∀ x ∈ p0, x.block < W.heap.size := by obtain ⟨m, hm⟩ := k0; exact DataW.trod_lt m _ _ _ hm
  obtain ⟨cl0, co0, sy0, L0, A0, c0, rfl, clb0, cob0, sh0⟩ := open_method (hval 0 24 v0 rfl rfl) h0 hsz 0 rfl rfl
  clear hA0 hval0
  refine (mputs_walk cl0 co0 sy0 L0 A0 c0 W clb0 cob0 sh0).mono fun e W' ⟨he, bel⟩ => ?_
  subst he
  exact ⟨_, rfl, _, _, _, [], _, [], hW', trodAll_mk1 (shut_bool Tryz.underlying4 _), (trodAll_cons_mk (Below.trod laidOut (by kernel_rfl) (of_decide_eq_true (by kernel_rfl)) k0 bel lt0) trodAll_mk0), rfl, bel.frame _, fun h => by cases h⟩

theorem methodPuts_holds : Rows.MethodPutsSaid :=
  OpenClaim.holds_of_wide 3 Tryz.f3 rfl rfl rfl rfl rfl rfl rfl ⟨rfl, rfl, rfl, rfl, rfl⟩ rfl rfl rfl rfl rfl (by kernel_rfl) Tryz.func3 (by kernel_rfl)
    (of_decide_eq_true (by kernel_rfl)) (by unfold Func.isWrapper; first | (rw [if_pos (by decide +kernel)]; kernel_rfl) | (rw [if_neg (by decide +kernel)]; exact ⟨rfl, rfl⟩))
    (fun os started H enc _ => mputs_walk_lifted os started H enc)
#print axioms methodPuts_holds
end Go.Proofs.YtpbdnfonflmncaaGreat
