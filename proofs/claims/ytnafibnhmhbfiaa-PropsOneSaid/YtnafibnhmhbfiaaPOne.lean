/-
  For any properties, both that may be: they have the same bytes just if they are the same.
  Conditions: none.
-/
import Derived.Test.YtnafibnhmhbfiaaPrQ
import Derived.Test.YtnafibnhmhbfiaaPrF
import Derived.Test.YtnafibnhmhbfiaaPrO
import Derived.Deep.RegionHeld3
namespace Go.Proofs.Ytnafibnhmhbfiaa
open Go.ChangeShapes Go.WideShapes Go.ChangeAt Go.RowKit
open Go.ChangeMaps (open_string shut_string)
set_option linter.unusedVariables false
set_option linter.unusedSimpArgs false

theorem put_same {p q : PropP} (h1 : errP p = 0) (h2 : errP q = 0) : (((putPr p).toList == (putPr q).toList) == samePr p q) = true := by
  have hv1 : validPr p := by
    by_cases hv : validPr p
    · exact hv
    · rw [errP_no hv] at h1; cases h1
  have hv2 : validPr q := by
    by_cases hv : validPr q
    · exact hv
    · rw [errP_no hv] at h2; cases h2
  unfold putPr
  rw [if_pos hv1, if_pos hv2, str8_toList, str8_toList]
  by_cases he : p = q
  · subst he
    rw [samePr_refl]
    simp
  · have h3 : samePr p q = false := by
      cases hs : samePr p q with
      | false => rfl
      | true => exact absurd ((samePr_iff p q).1 hs) he
    have h4 : (encPr p == encPr q) = false := beq_eq_false_iff_ne.2 (fun e => he (enc_injP hv1 hv2 e))
    rw [h3, h4]
    rfl

set_option maxRecDepth 100000 in
set_option maxHeartbeats 8000000 in
theorem pone_walk (p : PropP) (v0 v1 v2 v3 v4 : Value) (q : PropP) (u0 u1 u2 u3 u4 : Value) (w : World) (hp : ShowsP w p v0 v1 v2 v3 v4) (hq : ShowsP w q u0 u1 u2 u3 u4) :
    Calls Try.prog 7 #[propV p v0 v1 v2 v3 v4, propV q u0 u1 u2 u3 u4] w fun e w' => e = .returned (.bool true) ∧ Below w.heap.size w w' := by
  have HSM := Lib.hid (fun w' (hw' : Below w.heap.size w w') => psmall_any p v0 v1 v2 v3 v4 w' (hp.kept hw' (Nat.le_refl _)))
  have HSM2 := Lib.hid (fun w' (hw' : Below w.heap.size w w') => psmall_any q u0 u1 u2 u3 u4 w' (hq.kept hw' (Nat.le_refl _)))
  unfold SmallSaid at HSM HSM2
  have HH := Lib.hid phead_any
  have HP := Lib.hid (fun (hc : cntT p.app ≤ 400) w' (hw' : Below w.heap.size w w') => pput_any p v0 v1 v2 v3 v4 w' (hp.kept hw' (Nat.le_refl _)) (by omega))
  have HP2 := Lib.hid (fun (hc : cntT q.app ≤ 400) w' (hw' : Below w.heap.size w w') => pput_any q u0 u1 u2 u3 u4 w' (hq.kept hw' (Nat.le_refl _)) (by omega))
  have HSAME := Lib.hid (fun (hc : cntT p.app ≤ 400) w' (hw' : Below w.heap.size w w') => psame_any p q v0 v1 v2 v3 v4 u0 u1 u2 u3 u4 w' (hp.kept hw' (Nat.le_refl _)) (hq.kept hw' (Nat.le_refl _)) (by omega))
  have HINJ := Lib.hid (put_same (p := p) (q := q))
  generalize errP p = E1 at *
  generalize errP q = E2 at *
  generalize putPr p = S1 at *
  generalize putPr q = S2 at *
  generalize samePr p q = sm at *
  obtain ⟨k1, d1, r1, i1, a1⟩ := p
  obtain ⟨k2, d2, r2, i2, a2⟩ := q
  obtain ⟨x0, x1, x2, x3, x4, x5, x6, x7, x8, hvs⟩ := hp.app.cells5
  simp only [List.cons.injEq, and_true] at hvs
  obtain ⟨rfl, rfl, rfl, rfl, rfl⟩ := hvs
  obtain ⟨y0, y1, y2, y3, y4, y5, y6, y7, y8, hvs⟩ := hq.app.cells5
  simp only [List.cons.injEq, and_true] at hvs
  obtain ⟨rfl, rfl, rfl, rfl, rfl⟩ := hvs
  have hT := TwoP.new w ⟨k1, d1, r1, i1, a1⟩ ⟨k2, d2, r2, i2, a2⟩ (.int .u8 x0) (.int .u64 x1) (.string x2) (.slice x3 x4 x5) (.slice x6 x7 x8) (.int .u8 y0) (.int .u64 y1) (.string y2) (.slice y3 y4 y5) (.slice y6 y7 y8)
  unfold propV at *
  simp only [] at *
  obtain ⟨⟨⟨p0, p1, p2, p3⟩, p4, p5, p6, p7, p8⟩, ⟨q0, q1, q2, q3⟩, q4, q5, q6, q7, q8⟩ := hT.cells
  simp only [] at p0 p1 p2 p3 q0 q1 q2 q3
  have H0 := Lib.hid hT
  clear hT hp hq
  go_enter Try.func7, Try.ntmps7
  go_wp2_with fail
  have hG := H0.out
  clear H0 p0 p1 p2 p3 p4 p5 p6 p7 p8 q0 q1 q2 q3 q4 q5 q6 q7 q8
  generalize ((w.alloc (Obj.cells #[.string k1, .bool d1, .bool r1, .string i1, .int .u8 x0, .int .u64 x1, .string x2, .slice x3 x4 x5, .slice x6 x7 x8] 29)).alloc (Obj.cells #[.string k2, .bool d2, .bool r2, .string i2, .int .u8 y0, .int .u64 y1, .string y2, .slice y3 y4 y5, .slice y6 y7 y8] 29)) = W at *
  refine (HSM.out _ hG.bel).mono ?_
  rintro e w1 ⟨r1', rfl, hr1, hb1⟩
  have hG := hG.step hb1
  obtain ⟨⟨⟨p0, p1, p2, p3⟩, p4, p5, p6, p7, p8⟩, ⟨q0, q1, q2, q3⟩, q4, q5, q6, q7, q8⟩ := hG.cells
  cases r1' with
  | false =>
    go_wp2_with fail
    refine (HH.out _).mono ?_
    rintro e w2 ⟨rfl, hb2⟩
    have hG := hG.step hb2
    go_wp2_with fail
    go_ret
    exact ⟨rfl, hG.bel⟩
  | true =>
  have HPa := Lib.hid (HP.out (hr1 rfl))
  have HSa := Lib.hid (HSAME.out (hr1 rfl))
  clear hr1 HP HSAME
  go_wp2_with fail
  refine (HSM2.out _ hG.bel).mono ?_
  rintro e w2 ⟨r2', rfl, hr2, hb2⟩
  have hG := hG.step hb2
  clear p0 p1 p2 p3 p4 p5 p6 p7 p8 q0 q1 q2 q3 q4 q5 q6 q7 q8
  obtain ⟨⟨⟨p0, p1, p2, p3⟩, p4, p5, p6, p7, p8⟩, ⟨q0, q1, q2, q3⟩, q4, q5, q6, q7, q8⟩ := hG.cells
  cases r2' with
  | false =>
    go_wp2_with fail
    refine (HH.out _).mono ?_
    rintro e w3 ⟨rfl, hb3⟩
    have hG := hG.step hb3
    go_wp2_with fail
    go_ret
    exact ⟨rfl, hG.bel⟩
  | true =>
  have HPb := Lib.hid (HP2.out (hr2 rfl))
  clear hr2 HP2 HSM HSM2
  go_wp2_with fail
  refine (HPa.out _ hG.bel).mono ?_
  rintro e w3 ⟨rfl, hb3⟩
  have hG := hG.step hb3
  clear p0 p1 p2 p3 p4 p5 p6 p7 p8 q0 q1 q2 q3 q4 q5 q6 q7 q8
  obtain ⟨⟨⟨p0, p1, p2, p3⟩, p4, p5, p6, p7, p8⟩, ⟨q0, q1, q2, q3⟩, q4, q5, q6, q7, q8⟩ := hG.cells
  go_wp2_with fail
  refine (HPb.out _ hG.bel).mono ?_
  rintro e w4 ⟨rfl, hb4⟩
  have hG := hG.step hb4
  clear p0 p1 p2 p3 p4 p5 p6 p7 p8 q0 q1 q2 q3 q4 q5 q6 q7 q8
  obtain ⟨⟨⟨p0, p1, p2, p3⟩, p4, p5, p6, p7, p8⟩, ⟨q0, q1, q2, q3⟩, q4, q5, q6, q7, q8⟩ := hG.cells
  by_cases hc1 : E1 = 0
  case neg =>
    have hcI : ((E1 : Int) != 0) = true := by simp; omega
    go_wp2_with fail
    refine (HH.out _).mono ?_
    rintro e w5 ⟨rfl, hb5⟩
    have hG := hG.step hb5
    go_wp2_with fail
    go_ret
    exact ⟨rfl, hG.bel⟩
  have hcI : ((E1 : Int) != 0) = false := by simp; omega
  by_cases hc2 : E2 = 0
  case neg =>
    have hcJ : ((E2 : Int) != 0) = true := by simp; omega
    clear hc1
    go_wp2_with fail
    refine (HH.out _).mono ?_
    rintro e w5 ⟨rfl, hb5⟩
    have hG := hG.step hb5
    go_wp2_with fail
    go_ret
    exact ⟨rfl, hG.bel⟩
  have hcJ : ((E2 : Int) != 0) = false := by simp; omega
  have hinj := HINJ.out hc1 hc2
  obtain ⟨eb, heb⟩ : ∃ eb, eb = (S1.toList == S2.toList) := ⟨_, rfl⟩
  rw [← heb] at hinj
  replace heb := heb.symm
  have hb1' : (eb == sm) = true := hinj
  clear hc1 hc2 hinj HINJ
  go_wp2_with fail
  refine (HSa.out _ hG.bel).mono ?_
  rintro e w5 ⟨rfl, hb5⟩
  have hG := hG.step hb5
  go_wp2_with fail
  refine (HH.out _).mono ?_
  rintro e w6 ⟨rfl, hb6⟩
  have hG := hG.step hb6
  go_wp2_with fail
  go_ret
  exact ⟨rfl, hG.bel⟩

set_option maxRecDepth 100000 in
set_option maxHeartbeats 1000000 in
theorem pone_walk_lifted (os : Os) (started : os.Started) (H : Type) (enc : TypeId × Value → H) :
    ReturnsInHanded {} Try.checked os 7 .any (Rows.propsOneSpec.pre6 enc Try.prog Try.f7 Rows.propsOneRow.domain false) (Rows.propsOneSpec.post enc Try.prog Try.f7 false true false false) := by
  refine returnsInHanded_of_change_sized (C := Try.checked) own started (by kernel_rfl) Try.func7
    (ChangeSpec.witness6 (enc := enc) (C := Try.checked) false ⟨#[], #[.agg #[.string ⟨#[]⟩, .bool false, .bool false, .string ⟨#[]⟩, .int .u8 0, .int .u64 0, .string ⟨#[]⟩, .slice none 0 0, .slice none 0 0], .agg #[.string ⟨#[]⟩, .bool false, .bool false, .string ⟨#[]⟩, .int .u8 0, .int .u64 0, .string ⟨#[]⟩, .slice none 0 0, .slice none 0 0]], []⟩ 8 (by kernel_rfl) (by kernel_rfl) (by kernel_rfl) (by kernel_rfl)) ?_
  intro W base args ds gs before hval0 hW hcnd hsz0 _
  have hval : ∀ (j : Nat) t v, Try.f7.params[j]? = some t → args[j]? = some v → Value.okWide Try.prog W .any base t v := hval0
  have hsz : (DataW.weightsEach Try.prog (Try.f7.params.toList ++ Rows.propsOneSpec.plain.varTypes Try.prog) (ds ++ gs)).all (· ≤ reachBytes) = true := hsz0
  have hW' := hW
  obtain ⟨p, q, hA0, hV, rfl, hfz, hnd⟩ := hW
  have hA : DataW.TrodAll enc Try.prog W 0 (fun _ => true) true Try.f7.params.toList args.toList ds p := hA0
  rw [Try.params7] at hA hval hsz
  obtain ⟨v0, vs0, d0, ds0, p0, q0, hargs, rfl, rfl, h0, r0⟩ := trodAll_cons hA
  obtain ⟨v1, vs1, d1, ds1, p1, q1, rfl, rfl, rfl, h1, r1⟩ := trodAll_cons r0
  obtain ⟨rfl, rfl, rfl⟩ := trodAll_nil r1
  obtain rfl : args = #[v0, v1] := by cases args; simp_all
  obtain ⟨rfl, rfl⟩ := trodVars_none hV
  have k0 := h0
  have lt0 : ∀ x ∈ p0, x.block < W.heap.size := by obtain ⟨m, hm⟩ := k0; exact DataW.trod_lt m _ _ _ hm
  have k1 := h1
  have lt1 : ∀ x ∈ p1, x.block < W.heap.size := by obtain ⟨m, hm⟩ := k1; exact DataW.trod_lt m _ _ _ hm
  obtain ⟨P0, e00, e01, e02, e03, e04, rfl, sh0⟩ := open_props (hval 0 29 v0 rfl rfl) h0 hsz 0 rfl rfl
  obtain ⟨P1, e10, e11, e12, e13, e14, rfl, sh1⟩ := open_props (hval 1 29 v1 rfl rfl) h1 hsz 1 rfl rfl
  clear hA0 hval0
  refine (pone_walk P0 e00 e01 e02 e03 e04 P1 e10 e11 e12 e13 e14 W sh0 sh1).mono fun e W' ⟨he, bel⟩ => ?_
  subst he
  exact ⟨_, rfl, _, _, _, [], _, [], hW', trodAll_mk1 (shut_bool Try.underlying4 _), (trodAll_cons_mk (Below.trod laidOut (by kernel_rfl) (of_decide_eq_true (by kernel_rfl)) k0 bel lt0) (trodAll_cons_mk (Below.trod laidOut (by kernel_rfl) (of_decide_eq_true (by kernel_rfl)) k1 bel lt1) trodAll_mk0)), rfl, bel.frame _, fun h => by cases h⟩

theorem propsOne_holds : Rows.PropsOneSaid :=
  OpenClaim.holds_of_wide 7 Try.f7 rfl rfl rfl rfl rfl rfl rfl ⟨rfl, rfl, rfl, rfl, rfl⟩ rfl rfl rfl rfl rfl (by kernel_rfl) Try.func7 (by kernel_rfl)
    (of_decide_eq_true (by kernel_rfl)) (by unfold Func.isWrapper; first | (rw [if_pos (by decide +kernel)]; kernel_rfl) | (rw [if_neg (by decide +kernel)]; exact ⟨rfl, rfl⟩))
    (fun os started H enc _ => pone_walk_lifted os started H enc)
#print axioms propsOne_holds
end Go.Proofs.Ytnafibnhmhbfiaa
