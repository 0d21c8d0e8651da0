/-
  For any properties that are not too great to look at: Same says rightly whether they are the same.
  Conditions: none.
-/
import Derived.Test.YtnafibnhmhbfiaaPrQ
import Derived.Test.YtnafibnhmhbfiaaPrF
import Derived.Test.YtnafibnhmhbfiaaPrO
import Derived.Test.YtnafibnhmhbfiaaPrK
import Derived.Deep.RegionHeld3
namespace Go.Proofs.Ytnafibnhmhbfiaa
open Go.ChangeShapes Go.WideShapes Go.ChangeAt Go.RowKit
open Go.ChangeMaps (open_string shut_string)
set_option linter.unusedVariables false
set_option linter.unusedSimpArgs false

set_option maxRecDepth 100000 in
set_option maxHeartbeats 8000000 in
theorem psamelaw_walk (p : PropP) (v0 v1 v2 v3 v4 : Value) (q : PropP) (u0 u1 u2 u3 u4 : Value) (w : World) (hp : ShowsP w p v0 v1 v2 v3 v4) (hq : ShowsP w q u0 u1 u2 u3 u4) :
    Calls Try.prog 5 #[propV p v0 v1 v2 v3 v4, propV q u0 u1 u2 u3 u4] w fun e w' => e = .returned (.bool true) ∧ Below w.heap.size w w' := by
  have HSM := Lib.hid (fun w' (hw' : Below w.heap.size w w') => psmall_any p v0 v1 v2 v3 v4 w' (hp.kept hw' (Nat.le_refl _)))
  have HSM2 := Lib.hid (fun w' (hw' : Below w.heap.size w w') => psmall_any q u0 u1 u2 u3 u4 w' (hq.kept hw' (Nat.le_refl _)))
  unfold SmallSaid at HSM HSM2
  have HH := Lib.hid phead_any
  have HSAME := Lib.hid (fun (hc : cntT p.app ≤ 400) w' (hw' : Below w.heap.size w w') => psame_any p q v0 v1 v2 v3 v4 u0 u1 u2 u3 u4 w' (hp.kept hw' (Nat.le_refl _)) (hq.kept hw' (Nat.le_refl _)) (by omega))
  have HQS := Lib.hid (fun w' (hw' : Below w.heap.size w w') => qpsame_any p q v0 v1 v2 v3 v4 u0 u1 u2 u3 u4 w' (hp.kept hw' (Nat.le_refl _)) (hq.kept hw' (Nat.le_refl _)))
  have HCP := Lib.hid (fun (hc : cntT p.app ≤ 400) w' (hw' : Below w.heap.size w w') => pcopy_any p v0 v1 v2 v3 v4 w' (hp.kept hw' (Nat.le_refl _)) (by omega))
  have HSC := Lib.hid (fun (hc : cntT p.app ≤ 400) w' (hw' : Below w.heap.size w w') c0 c1 c2 c3 c4 (hs : ShowsP w' p c0 c1 c2 c3 c4) => psame_any p p v0 v1 v2 v3 v4 c0 c1 c2 c3 c4 w' (hp.kept hw' (Nat.le_refl _)) hs (by omega))
  rw [samePr_refl] at HSC
  have HK := Lib.hid (And.intro hp.key hp.id)
  unfold PCopySaid at HCP
  generalize samePr p q = sm at *
  obtain ⟨k1, d1, r1, i1, a1⟩ := p
  obtain ⟨k2, d2, r2, i2, a2⟩ := q
  obtain ⟨x0, x1, x2, x3, x4, x5, x6, x7, x8, hvs⟩ := hp.app.cells5
  simp only [List.cons.injEq, and_true] at hvs
  obtain ⟨rfl, rfl, rfl, rfl, rfl⟩ := hvs
  obtain ⟨y0, y1, y2, y3, y4, y5, y6, y7, y8, hvs⟩ := hq.app.cells5
  simp only [List.cons.injEq, and_true] at hvs
  obtain ⟨rfl, rfl, rfl, rfl, rfl⟩ := hvs
  have hT := TwoP.new w ⟨k1, d1, r1, i1, a1⟩ ⟨k2, d2, r2, i2, a2⟩ (.int .u8 x0) (.int .u64 x1) (.string x2) (.slice x3 x4 x5) (.slice x6 x7 x8) (.int .u8 y0) (.int .u64 y1) (.string y2) (.slice y3 y4 y5) (.slice y6 y7 y8)
  unfold propV at *
  simp only [] at *
  obtain ⟨⟨⟨p0, p1, p2, p3⟩, p4, p5, p6, p7, p8⟩, ⟨q0, q1, q2, q3⟩, q4, q5, q6, q7, q8⟩ := hT.cells
  simp only [] at p0 p1 p2 p3 q0 q1 q2 q3
  have H0 := Lib.hid hT
  clear hT hp hq
  go_enter Try.func5, Try.ntmps5
  go_wp2_with fail
  have hG := H0.out
  clear H0 p0 p1 p2 p3 p4 p5 p6 p7 p8 q0 q1 q2 q3 q4 q5 q6 q7 q8
  generalize ((w.alloc (Obj.cells #[.string k1, .bool d1, .bool r1, .string i1, .int .u8 x0, .int .u64 x1, .string x2, .slice x3 x4 x5, .slice x6 x7 x8] 29)).alloc (Obj.cells #[.string k2, .bool d2, .bool r2, .string i2, .int .u8 y0, .int .u64 y1, .string y2, .slice y3 y4 y5, .slice y6 y7 y8] 29)) = W at *
  refine (HSM.out _ hG.bel).mono ?_
  rintro e w1 ⟨r1', rfl, hr1, hb1⟩
  have hG := hG.step hb1
  obtain ⟨⟨⟨p0, p1, p2, p3⟩, p4, p5, p6, p7, p8⟩, ⟨q0, q1, q2, q3⟩, q4, q5, q6, q7, q8⟩ := hG.cells
  cases r1' with
  | false =>
    go_wp2_with fail
    refine (HH.out _).mono ?_
    rintro e w2 ⟨rfl, hb2⟩
    have hG := hG.step hb2
    go_wp2_with fail
    go_ret
    exact ⟨rfl, hG.bel⟩
  | true =>
  have HSa := Lib.hid (HSAME.out (hr1 rfl))
  have HCa := Lib.hid (HCP.out (hr1 rfl))
  have HSb := Lib.hid (HSC.out (hr1 rfl))
  clear hr1 HSC HSAME HCP
  go_wp2_with fail
  refine (HSM2.out _ hG.bel).mono ?_
  rintro e w2 ⟨r2', rfl, _, hb2⟩
  have hG := hG.step hb2
  clear p0 p1 p2 p3 p4 p5 p6 p7 p8 q0 q1 q2 q3 q4 q5 q6 q7 q8
  obtain ⟨⟨⟨p0, p1, p2, p3⟩, p4, p5, p6, p7, p8⟩, ⟨q0, q1, q2, q3⟩, q4, q5, q6, q7, q8⟩ := hG.cells
  cases r2' with
  | false =>
    go_wp2_with fail
    refine (HH.out _).mono ?_
    rintro e w3 ⟨rfl, hb3⟩
    have hG := hG.step hb3
    go_wp2_with fail
    go_ret
    exact ⟨rfl, hG.bel⟩
  | true =>
  clear HSM HSM2 p0 p1 p2 p3 p4 p5 p6 p7 p8 q0 q1 q2 q3 q4 q5 q6 q7 q8 hb1 hb2
  have hGd := hG.drew
  clear hG
  have C1 := Lib.hid (TwoP.calls (w0 := w) (p := ⟨k1, d1, r1, i1, a1⟩) (q := ⟨k2, d2, r2, i2, a2⟩) (a0 := .int .u8 x0) (a1 := .int .u64 x1) (a2 := .string x2) (a3 := .slice x3 x4 x5) (a4 := .slice x6 x7 x8) (b0 := .int .u8 y0) (b1 := .int .u64 y1) (b2 := .string y2) (b3 := .slice y3 y4 y5) (b4 := .slice y6 y7 y8) (fun w' h => HSa.out w' h.bel))
  have C2 := Lib.hid (TwoP.calls (w0 := w) (p := ⟨k1, d1, r1, i1, a1⟩) (q := ⟨k2, d2, r2, i2, a2⟩) (a0 := .int .u8 x0) (a1 := .int .u64 x1) (a2 := .string x2) (a3 := .slice x3 x4 x5) (a4 := .slice x6 x7 x8) (b0 := .int .u8 y0) (b1 := .int .u64 y1) (b2 := .string y2) (b3 := .slice y3 y4 y5) (b4 := .slice y6 y7 y8) (fun w' h => HQS.out w' h.bel))
  go_upto_region 3 with fail
  go_region_held3 (fun w' => (((w'.cell? ⟨w.heap.size, 0, none⟩ = some (.string k1) ∧ w'.cell? ⟨w.heap.size, 1, none⟩ = some (.bool d1) ∧ w'.cell? ⟨w.heap.size, 2, none⟩ = some (.bool r1) ∧ w'.cell? ⟨w.heap.size, 3, none⟩ = some (.string i1)) ∧ (w'.cell? ⟨w.heap.size, 4, none⟩ = some (.int .u8 x0) ∧ w'.cell? ⟨w.heap.size, 5, none⟩ = some (.int .u64 x1) ∧ w'.cell? ⟨w.heap.size, 6, none⟩ = some (.string x2) ∧ w'.cell? ⟨w.heap.size, 7, none⟩ = some (.slice x3 x4 x5) ∧ w'.cell? ⟨w.heap.size, 8, none⟩ = some (.slice x6 x7 x8))) ∧ ((w'.cell? ⟨w.heap.size + 1, 0, none⟩ = some (.string k2) ∧ w'.cell? ⟨w.heap.size + 1, 1, none⟩ = some (.bool d2) ∧ w'.cell? ⟨w.heap.size + 1, 2, none⟩ = some (.bool r2) ∧ w'.cell? ⟨w.heap.size + 1, 3, none⟩ = some (.string i2)) ∧ (w'.cell? ⟨w.heap.size + 1, 4, none⟩ = some (.int .u8 y0) ∧ w'.cell? ⟨w.heap.size + 1, 5, none⟩ = some (.int .u64 y1) ∧ w'.cell? ⟨w.heap.size + 1, 6, none⟩ = some (.string y2) ∧ w'.cell? ⟨w.heap.size + 1, 7, none⟩ = some (.slice y3 y4 y5) ∧ w'.cell? ⟨w.heap.size + 1, 8, none⟩ = some (.slice y6 y7 y8))))) (exact TwoP.cells (by assumption))
    (first
      | (go_at_call 18
         first
           | (with_reducible refine (C1.out _ (by assumption)).mono ?_
              rintro e3 w3 ⟨rfl, hG3⟩)
           | (with_reducible refine (HSb.out _ hG5.bel _ _ _ _ _ hS5).mono ?_
              rintro e6 w6 ⟨rfl, hb6⟩
              have hG6 := hG5.step hb6))
      | (go_at_call 15
         with_reducible refine (C2.out _ (by assumption)).mono ?_
         rintro e4 w4 ⟨rfl, hG4⟩)
      | (go_at_call 11
         with_reducible refine (HCa.out _ (TwoP.bel (by assumption))).mono ?_
         rintro e5 w5 ⟨kc, nc, sc, e3', m3, f3, e4', m4, f4, rfl, hsh5, hb5⟩
         have hG5 := TwoP.step (by assumption) hb5
         have hS5 : ShowsP w5 ⟨k1, d1, r1, i1, a1⟩ (.int .u8 kc) (.int .u64 nc) (.string sc) (.slice e3' m3 f3) (.slice e4' m4 f4) := ⟨HK.out.1, HK.out.2, hsh5.sub (low_out _ _)⟩)
      | (go_at_call 10
         with_reducible refine (HH.out _).mono ?_
         rintro e7 w7 ⟨rfl, hb7⟩
         have hG7 := hG6.step hb7))
  all_goals
    go_wp2_with fail
    go_ret
    exact ⟨rfl, hG7.bel⟩

set_option maxRecDepth 100000 in
set_option maxHeartbeats 1000000 in
theorem psamelaw_walk_lifted (os : Os) (started : os.Started) (H : Type) (enc : TypeId × Value → H) :
    ReturnsInHanded {} Try.checked os 5 .any (Rows.propsSameSpec.pre6 enc Try.prog Try.f5 Rows.propsSameRow.domain false) (Rows.propsSameSpec.post enc Try.prog Try.f5 false true false false) := by
  refine returnsInHanded_of_change_sized (C := Try.checked) own started (by kernel_rfl) Try.func5
    (ChangeSpec.witness6 (enc := enc) (C := Try.checked) false ⟨#[], #[.agg #[.string ⟨#[]⟩, .bool false, .bool false, .string ⟨#[]⟩, .int .u8 0, .int .u64 0, .string ⟨#[]⟩, .slice none 0 0, .slice none 0 0], .agg #[.string ⟨#[]⟩, .bool false, .bool false, .string ⟨#[]⟩, .int .u8 0, .int .u64 0, .string ⟨#[]⟩, .slice none 0 0, .slice none 0 0]], []⟩ 8 (by kernel_rfl) (by kernel_rfl) (by kernel_rfl) (by kernel_rfl)) ?_
  intro W base args ds gs before hval0 hW hcnd hsz0 _
  have hval : ∀ (j : Nat) t v, Try.f5.params[j]? = some t → args[j]? = some v → Value.okWide Try.prog W .any base t v := hval0
  have hsz : (DataW.weightsEach Try.prog (Try.f5.params.toList ++ Rows.propsSameSpec.plain.varTypes Try.prog) (ds ++ gs)).all (· ≤ reachBytes) = true := hsz0
  have hW' := hW
  obtain ⟨p, q, hA0, hV, rfl, hfz, hnd⟩ := hW
  have hA : DataW.TrodAll enc Try.prog W 0 (fun _ => true) true Try.f5.params.toList args.toList ds p := hA0
  rw [Try.params5] at hA hval hsz
  obtain ⟨v0, vs0, d0, ds0, p0, q0, hargs, rfl, rfl, h0, r0⟩ := trodAll_cons hA
  obtain ⟨v1, vs1, d1, ds1, p1, q1, rfl, rfl, rfl, h1, r1⟩ := trodAll_cons r0
  obtain ⟨rfl, rfl, rfl⟩ := trodAll_nil r1
  obtain rfl : args = #[v0, v1] := by cases args; simp_all
  obtain ⟨rfl, rfl⟩ := trodVars_none hV
  have k0 := h0
  have lt0 : ∀ x ∈ p0, x.block < W.heap.size := by obtain ⟨m, hm⟩ := k0; exact DataW.trod_lt m _ _ _ hm
  have k1 := h1
  have lt1 : ∀ x ∈ p1, x.block < W.heap.size := by obtain ⟨m, hm⟩ := k1; exact DataW.trod_lt m _ _ _ hm
  obtain ⟨P0, e00, e01, e02, e03, e04, rfl, sh0⟩ := open_props (hval 0 29 v0 rfl rfl) h0 hsz 0 rfl rfl
  obtain ⟨P1, e10, e11, e12, e13, e14, rfl, sh1⟩ := open_props (hval 1 29 v1 rfl rfl) h1 hsz 1 rfl rfl
  clear hA0 hval0
  refine (psamelaw_walk P0 e00 e01 e02 e03 e04 P1 e10 e11 e12 e13 e14 W sh0 sh1).mono fun e W' ⟨he, bel⟩ => ?_
  subst he
  exact ⟨_, rfl, _, _, _, [], _, [], hW', trodAll_mk1 (shut_bool Try.underlying4 _), (trodAll_cons_mk (Below.trod laidOut (by kernel_rfl) (of_decide_eq_true (by kernel_rfl)) k0 bel lt0) (trodAll_cons_mk (Below.trod laidOut (by kernel_rfl) (of_decide_eq_true (by kernel_rfl)) k1 bel lt1) trodAll_mk0)), rfl, bel.frame _, fun h => by cases h⟩

theorem propsSame_holds : Rows.PropsSameSaid :=
  OpenClaim.holds_of_wide 5 Try.f5 rfl rfl rfl rfl rfl rfl rfl ⟨rfl, rfl, rfl, rfl, rfl⟩ rfl rfl rfl rfl rfl (by kernel_rfl) Try.func5 (by kernel_rfl)
    (of_decide_eq_true (by kernel_rfl)) (by unfold Func.isWrapper; first | (rw [if_pos (by decide +kernel)]; kernel_rfl) | (rw [if_neg (by decide +kernel)]; exact ⟨rfl, rfl⟩))
    (fun os started H enc _ => psamelaw_walk_lifted os started H enc)
#print axioms propsSame_holds
end Go.Proofs.Ytnafibnhmhbfiaa
