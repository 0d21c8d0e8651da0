/-
  For every value that is not too great to look at: Check and Put tell the document's bytes or error.
  Conditions: none.
-/
import Derived.Test.YtaghpognjkioeaaValY
import Derived.Test.YtaghpognjkioeaaValX
import Derived.Test.YtaghpognjkioeaaValQ
import Derived.Test.YtaghpognjkioeaaValO
namespace Go.Proofs.Ytaghpognjkioeaa
open Go.ChangeShapes Go.WideShapes Go.ChangeAt Go.RowKit
open Go.ChangeMaps (open_string shut_string)
set_option linter.unusedVariables false
set_option linter.unusedSimpArgs false

theorem shows_below1 {w w' : World} {v : Value} {E : List UInt8} (h : ∃ g, Shows w g v E) (hb : Below w.heap.size w w') : ∃ g, Shows w' g v E := by
  obtain ⟨g, hg⟩ := h
  exact ⟨g, hg.keep hb.size (fun hp => hb.block g (hg.lt hp))⟩

/-- What Put tells, be it bytes or none. -/
noncomputable def putB (t : Tree) : List UInt8 := if checkT t = 0 then bytesT t else []
theorem put_said (t : Tree) (vs : List Value) (w : World) (h : ShowsT w t vs) :
    Calls Try.prog 12 #[.agg vs.toArray] w fun e w' => ∃ v, e = .returned (.tuple #[v, .int .i64 (checkT t)]) ∧ (∃ g, Shows w' g v (putB t)) ∧ Below w.heap.size w w' := by
  by_cases hc : checkT t = 0
  · refine (put_ok t vs w h hc).mono ?_
    rintro e w' ⟨v, rfl, ho, hb⟩
    obtain ⟨g, _, hs⟩ := ho.shows
    exact ⟨v, by rw [hc]; rfl, ⟨g, by unfold putB; rw [if_pos hc]; exact hs⟩, hb⟩
  · refine (put_no t vs w h hc).mono ?_
    rintro e w' ⟨rfl, hb⟩
    exact ⟨_, rfl, ⟨0, by unfold putB; rw [if_neg hc]; exact Shows.nil_ _ _⟩, hb⟩
theorem qput_said (t : Tree) (vs : List Value) (w : World) (h : ShowsT w t vs) :
    Calls Try.prog 13 #[.agg vs.toArray] w fun e w' => ∃ v, e = .returned (.tuple #[v, .int .i64 (checkT t)]) ∧ (∃ g, Shows w' g v (putB t)) ∧ Below w.heap.size w w' := by
  by_cases hc : checkT t = 0
  · refine (qput_ok t vs w h hc).mono ?_
    rintro e w' ⟨v, rfl, ho, hb⟩
    obtain ⟨g, _, hs⟩ := ho.shows
    exact ⟨v, by rw [hc]; rfl, ⟨g, by unfold putB; rw [if_pos hc]; exact hs⟩, hb⟩
  · refine (qput_no t vs w h hc).mono ?_
    rintro e w' ⟨rfl, hb⟩
    exact ⟨_, rfl, ⟨0, by unfold putB; rw [if_neg hc]; exact Shows.nil_ _ _⟩, hb⟩

set_option maxRecDepth 100000 in
set_option maxHeartbeats 4000000 in
theorem puts_walk (t : Tree) (vs : List Value) (w : World) (h : ShowsT w t vs) :
    Calls Try.prog 3 #[.agg vs.toArray] w fun e w' => e = .returned (.bool true) ∧ Below w.heap.size w w' := by
  have HSM := Lib.hid (fun w' (hw' : Below w.heap.size w w') => small_any t vs w' (h.kept hw' (Nat.le_refl _)))
  have HH := Lib.hid head_any
  have HCP := Lib.hid (fun (hc : cntT t ≤ 1000) w' (hw' : Below w.heap.size w w') => (show Calls Try.prog 11 #[.agg vs.toArray] w' fun e w'' => ∃ vs, e = .returned (.agg vs.toArray) ∧ ShowsT (lowm w'.heap.size w'') t vs ∧ Below w'.heap.size w' w'' from copy_any _ t vs w' rfl (h.kept hw' (Nat.le_refl _)) hc))
  have HP := Lib.hid (fun vs w' (hs : ShowsT w' t vs) => put_said t vs w' hs)
  have HQ := Lib.hid (fun w' (hw' : Below w.heap.size w w') => qput_said t vs w' (h.kept hw' (Nat.le_refl _)))
  have HK := Lib.hid (fun vs w' (hs : ShowsT w' t vs) => check_any t vs w' hs)
  have hsame : ∀ (va : List Value) (w' : World), ShowsT w' t va → Below w.heap.size w w' → Calls Try.prog 15 #[.agg va.toArray, .agg vs.toArray] w' fun e w'' => e = .returned (.bool true) ∧ Below w'.heap.size w' w'' := fun va w' hva hw' => by
    have := qsame_main _ t t va vs w' rfl hva (h.kept hw' (Nat.le_refl _))
    rw [sameT_refl] at this
    exact this
  have HSAME := Lib.hid hsame
  obtain ⟨k0, n0, s0, a3, n3, c3, a4, n4, c4, rfl⟩ := h.cells5
  have hX := BoxV.new (v0 := .int .u8 k0) (v1 := .int .u64 n0) (v2 := .string s0) (v3 := .slice a3 n3 c3) (v4 := .slice a4 n4 c4) w
  have hBX := below_boxV w (Obj.cells #[.int .u8 k0, .int .u64 n0, .string s0, .slice a3 n3 c3, .slice a4 n4 c4] 27)
  have HX := Lib.hid hX
  have HBX := Lib.hid hBX
  generalize checkT t = C at *
  generalize putB t = E at *
  clear h hX hBX hsame
  go_enter Try.func3, Try.ntmps3
  go_wp2_with fail
  refine (HSM.out _ HBX.out).mono ?_
  rintro e w1 ⟨r, rfl, hr, hb1⟩
  have hX1 := HX.out.kept hb1 (Nat.le_refl _)
  have hB1 := HBX.out.trans (hb1.mono HBX.out.size)
  have x0 := hX1.c0
  have x1 := hX1.c1
  have x2 := hX1.c2
  have x3 := hX1.c3
  have x4 := hX1.c4
  have HX1 := Lib.hid hX1
  have HB1 := Lib.hid hB1
  clear hX1 hB1
  cases r with
  | false =>
    go_wp2_with fail
    refine (HH.out _).mono ?_
    rintro e w2 ⟨rfl, hb2⟩
    go_wp2_with fail
    go_ret
    exact ⟨rfl, HB1.out.trans (hb2.mono HB1.out.size)⟩
  | true =>
  have hcnt := (hr rfl).1
  clear hr
  have HCP2 := Lib.hid (HCP.out (by omega) _ HB1.out)
  clear HCP hcnt HSM
  go_wp2_with fail
  refine HCP2.out.mono ?_
  rintro e w2 ⟨vs2, rfl, hsh2, hb2⟩
  have hT2 : ShowsT w2 t vs2 := hsh2.sub (low_out _ _)
  obtain ⟨j0, m0, r0, b3, q3, f3, b4, q4, f4, rfl⟩ := hT2.cells5
  obtain ⟨w3, hW3⟩ : ∃ w3, w3 = w2.alloc (Obj.cells #[.int .u8 j0, .int .u64 m0, .string r0, .slice b3 q3 f3, .slice b4 q4 f4] 27) := ⟨_, rfl⟩
  have hA2 : Below w2.heap.size w2 w3 := by rw [hW3]; exact below_boxV _ _
  have hY : BoxV w3 w2.heap.size (.int .u8 j0) (.int .u64 m0) (.string r0) (.slice b3 q3 f3) (.slice b4 q4 f4) := by rw [hW3]; exact BoxV.new w2
  have hT3 := hT2.kept hA2 (Nat.le_refl _)
  have hX3 := (HX1.out.kept hb2 (Nat.le_refl _)).kept hA2 (Nat.le_refl _)
  have hB3 := HB1.out.trans (hb2.mono HB1.out.size)
  have hB3 := hB3.trans (hA2.mono hB3.size)
  have HT3 := Lib.hid (fun w' (hw' : Below w3.heap.size w3 w') => hT3.kept hw' (Nat.le_refl _))
  have HP3 := Lib.hid (HP.out _ _ hT3)
  have HX3 := Lib.hid hX3
  have HY3 := Lib.hid hY
  have HB3 := Lib.hid hB3
  have hY' := hY
  rw [hW3] at hY'
  have y0 := hY'.c0
  have y1 := hY'.c1
  have y2 := hY'.c2
  have y3 := hY'.c3
  have y4 := hY'.c4
  clear hT2 hT3 hA2 hX3 hY hY' hB3 hsh2 hb2 x0 x1 x2 x3 x4
  go_wp2_with fail
  rw [← hW3]
  refine HP3.out.mono ?_
  rintro e w4 ⟨v4, rfl, hs4, hb4⟩
  have hX4 := HX3.out.kept hb4 (Nat.le_refl _)
  have hB4 := HB3.out.trans (hb4.mono HB3.out.size)
  have x0 := hX4.c0
  have x1 := hX4.c1
  have x2 := hX4.c2
  have x3 := hX4.c3
  have x4 := hX4.c4
  have HQ4 := Lib.hid (HQ.out _ hB4)
  have HS4 := Lib.hid hs4
  clear y0 y1 y2 y3 y4 hW3 hs4
  go_wp2_with fail
  refine HQ4.out.mono ?_
  rintro e w5 ⟨v5, rfl, hs5, hb5⟩
  have hb45 := hb4.trans (hb5.mono hb4.size)
  have hY5 := HY3.out.kept hb45 (Nat.le_refl _)
  have hX5 := hX4.kept hb5 (Nat.le_refl _)
  have hB5 := hB4.trans (hb5.mono hB4.size)
  have hs45 := shows_below1 HS4.out hb5
  obtain ⟨g4, hg4⟩ := hs45
  obtain ⟨g5, hg5⟩ := hs5
  have cv4 := conv_at hg4
  have cv5 := conv_at hg5
  have HK5 := Lib.hid (HK.out _ _ (HT3.out _ hb45))
  have hCC : ((C : Int) == (C : Int)) = true := by simp
  clear x0 x1 x2 x3 x4
  have y0 := hY5.c0
  have y1 := hY5.c1
  have y2 := hY5.c2
  have y3 := hY5.c3
  have y4 := hY5.c4
  have HY5 := Lib.hid hY5
  have HX5 := Lib.hid hX5
  have HB5 := Lib.hid hB5
  have HB45 := Lib.hid hb45
  clear hY5 hX5 hB5 hg4 hg5 hb4 hb5 hb45 hX4 hB4
  go_wp2_with fail
  refine HK5.out.mono ?_
  rintro e w6 ⟨rfl, hb6⟩
  have hX6 := HX5.out.kept hb6 (Nat.le_refl _)
  have hY6 := HY5.out.kept hb6 (Nat.le_refl _)
  have hB6 := HB5.out.trans (hb6.mono HB5.out.size)
  have HS6 := Lib.hid (HSAME.out _ _ (HT3.out _ (HB45.out.trans (hb6.mono HB45.out.size))) hB6)
  have x0 := hX6.c0
  have x1 := hX6.c1
  have x2 := hX6.c2
  have x3 := hX6.c3
  have x4 := hX6.c4
  clear y0 y1 y2 y3 y4 cv4 cv5
  have y0 := hY6.c0
  have y1 := hY6.c1
  have y2 := hY6.c2
  have y3 := hY6.c3
  have y4 := hY6.c4
  have HB6 := Lib.hid hB6
  clear hX6 hY6 hB6
  go_wp2_with fail
  refine HS6.out.mono ?_
  rintro e w7 ⟨rfl, hb7⟩
  have HB7 := Lib.hid (HB6.out.trans (hb7.mono HB6.out.size))
  go_wp2_with fail
  refine (HH.out _).mono ?_
  rintro e w8 ⟨rfl, hb8⟩
  go_wp2_with fail
  go_ret
  exact ⟨rfl, HB7.out.trans (hb8.mono HB7.out.size)⟩

set_option maxRecDepth 100000 in
set_option maxHeartbeats 1000000 in
theorem puts_walk_lifted (os : Os) (started : os.Started) (H : Type) (enc : TypeId × Value → H) :
    ReturnsInHanded {} Try.checked os 3 .any (Rows.valuePutsSpec.pre6 enc Try.prog Try.f3 Rows.valuePutsRow.domain false) (Rows.valuePutsSpec.post enc Try.prog Try.f3 false true false false) := by
  refine returnsInHanded_of_change_sized (C := Try.checked) own started (by kernel_rfl) Try.func3
    (ChangeSpec.witness6 (enc := enc) (C := Try.checked) false ⟨#[], #[.agg #[.int .u8 0, .int .u64 0, .string ⟨#[]⟩, .slice none 0 0, .slice none 0 0]], []⟩ 8 (by kernel_rfl) (by kernel_rfl) (by kernel_rfl) (by kernel_rfl)) ?_
  intro W base args ds gs before hval0 hW hcnd hsz0 _
  have hval : ∀ (j : Nat) t v, Try.f3.params[j]? = some t → args[j]? = some v → Value.okWide Try.prog W .any base t v := hval0
  have hsz : (DataW.weightsEach Try.prog (Try.f3.params.toList ++ Rows.valuePutsSpec.plain.varTypes Try.prog) (ds ++ gs)).all (· ≤ reachBytes) = true := hsz0
  have hW' := hW
  obtain ⟨p, q, hA0, hV, rfl, hfz, hnd⟩ := hW
  have hA : DataW.TrodAll enc Try.prog W 0 (fun _ => true) true Try.f3.params.toList args.toList ds p := hA0
  rw [Try.params3] at hA hval hsz
  obtain ⟨v0, vs0, d0, ds0, p0, q0, hargs, rfl, rfl, h0, r0⟩ := trodAll_cons hA
  obtain ⟨rfl, rfl, rfl⟩ := trodAll_nil r0
  obtain rfl : args = #[v0] := by cases args; simp_all
  obtain ⟨rfl, rfl⟩ := trodVars_none hV
  have k0 := h0
  have lt0 : ∀ x ∈ p0, x.block < W.heap.size := by obtain ⟨m, hm⟩ := k0; exact DataW.trod_lt m _ _ _ hm
  obtain ⟨T0, C0, rfl, sh0⟩ := open_value (hval 0 27 v0 rfl rfl) h0 hsz 0 rfl rfl
  clear hA0 hval0
  refine (puts_walk T0 C0 W sh0).mono fun e W' ⟨he, bel⟩ => ?_
  subst he
  exact ⟨_, rfl, _, _, _, [], _, [], hW', trodAll_mk1 (shut_bool Try.underlying4 _), (trodAll_cons_mk (Below.trod laidOut (by kernel_rfl) (of_decide_eq_true (by kernel_rfl)) k0 bel lt0) trodAll_mk0), rfl, bel.frame _, fun h => by cases h⟩

theorem valuePuts_holds : Rows.ValuePutsSaid :=
  OpenClaim.holds_of_wide 3 Try.f3 rfl rfl rfl rfl rfl rfl rfl ⟨rfl, rfl, rfl, rfl, rfl⟩ rfl rfl rfl rfl rfl (by kernel_rfl) Try.func3 (by kernel_rfl)
    (of_decide_eq_true (by kernel_rfl)) (by unfold Func.isWrapper; first | (rw [if_pos (by decide +kernel)]; kernel_rfl) | (rw [if_neg (by decide +kernel)]; exact ⟨rfl, rfl⟩))
    (fun os started H enc _ => puts_walk_lifted os started H enc)
#print axioms valuePuts_holds
end Go.Proofs.Ytaghpognjkioeaa
