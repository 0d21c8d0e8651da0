/-
  For any properties that are not too great to look at: Check and Put tell the document's bytes or error.
  Conditions: none.
-/
import Derived.Deep.RegionHeld3
import Derived.Test.YtnafibnhmhbfiaaPrSZ
import Derived.Test.YtnafibnhmhbfiaaPrFZ
import Derived.Test.YtnafibnhmhbfiaaPrOZ
import Derived.Test.YtnafibnhmhbfiaaPrKZ
namespace Go.Proofs.Ytnafibnhmhbfiaa
open Go.ChangeShapes Go.WideShapes Go.ChangeAt Go.RowKit
open Go.ChangeMaps (open_string shut_string)
set_option linter.unusedVariables false
set_option linter.unusedSimpArgs false

set_option maxRecDepth 100000 in
set_option maxHeartbeats 8000000 in
theorem pputs_walk (p : PropP) (v0 v1 v2 v3 v4 : Value) (w : World) (hp : ShowsP w p v0 v1 v2 v3 v4) :
    Calls Try.prog 3 #[propV p v0 v1 v2 v3 v4] w fun e w' => e = .returned (.bool true) ∧ Below w.heap.size w w' := by
  have HSM := Lib.hid (fun w' (hw' : Below w.heap.size w w') => psmall_any p v0 v1 v2 v3 v4 w' (hp.kept hw' (Nat.le_refl _)))
  unfold SmallSaid at HSM
  have HH := Lib.hid phead_any
  have HCP := Lib.hid (fun (hc : cntT p.app ≤ 400) w' (hw' : Below w.heap.size w w') => pcopy_any p v0 v1 v2 v3 v4 w' (hp.kept hw' (Nat.le_refl _)) (by omega))
  unfold PCopySaid at HCP
  have HPT := Lib.hid (fun (hc : cntT p.app ≤ 400) w' c0 c1 c2 c3 c4 (h : ShowsP w' p c0 c1 c2 c3 c4) => pput_any p c0 c1 c2 c3 c4 w' h (by omega))
  have HCK := Lib.hid (fun (hc : cntT p.app ≤ 400) w' c0 c1 c2 c3 c4 (h : ShowsP w' p c0 c1 c2 c3 c4) => pcheck_any p c0 c1 c2 c3 c4 w' h (by omega))
  have HQP := Lib.hid (fun w' (hw' : Below w.heap.size w w') => qpput_any p v0 v1 v2 v3 v4 w' (hp.kept hw' (Nat.le_refl _)))
  have HQS := Lib.hid (fun w' (hw' : Below w.heap.size w w') c0 c1 c2 c3 c4 (h : ShowsP w' p c0 c1 c2 c3 c4) => qpsame_any p p c0 c1 c2 c3 c4 v0 v1 v2 v3 v4 w' h (hp.kept hw' (Nat.le_refl _)))
  rw [samePr_refl] at HQS
  have HK := Lib.hid (And.intro hp.key hp.id)
  obtain ⟨key, dur, red, id, app⟩ := p
  obtain ⟨x0, x1, x2, x3, x4, x5, x6, x7, x8, hvs⟩ := hp.app.cells5
  simp only [List.cons.injEq, and_true] at hvs
  obtain ⟨rfl, rfl, rfl, rfl, rfl⟩ := hvs
  have hX0 := BoxPr.new (p := ⟨key, dur, red, id, app⟩) (v0 := .int .u8 x0) (v1 := .int .u64 x1) (v2 := .string x2) (v3 := .slice x3 x4 x5) (v4 := .slice x6 x7 x8) w
  have hB0 := below_boxV w (Obj.cells #[.string key, .bool dur, .bool red, .string id, .int .u8 x0, .int .u64 x1, .string x2, .slice x3 x4 x5, .slice x6 x7 x8] 29)
  have HO : Hid (OneP w ⟨key, dur, red, id, app⟩ (.int .u8 x0) (.int .u64 x1) (.string x2) (.slice x3 x4 x5) (.slice x6 x7 x8) _) := Lib.hid ⟨hX0, hB0⟩
  obtain ⟨⟨p0, p1, p2, p3⟩, p4, p5, p6, p7, p8⟩ := HO.out.box.cells
  generalize errP ⟨key, dur, red, id, app⟩ = E at *
  generalize putPr ⟨key, dur, red, id, app⟩ = S at *
  unfold propV at HSM HCP HPT HCK HQP HQS ⊢
  simp only [] at p0 p1 p2 p3 HSM HCP HPT HCK HQP HQS HK ⊢
  have HSM0 := Lib.hid (HSM.out _ hB0)
  clear hX0 hB0 hp HSM
  go_enter Try.func3, Try.ntmps3
  go_wp2_with fail
  refine HSM0.out.mono ?_
  rintro e w1 ⟨r, rfl, hr, hb1⟩
  have HO := Lib.hid (HO.out.step hb1)
  clear p0 p1 p2 p3 p4 p5 p6 p7 p8 hb1
  cases r with
  | false =>
    go_wp2_with fail
    refine (HH.out _).mono ?_
    rintro e w2 ⟨rfl, hb2⟩
    go_wp2_with fail
    go_ret
    exact ⟨rfl, HO.out.bel.trans (hb2.mono HO.out.bel.size)⟩
  | true =>
  have hc := hr rfl
  have HCP1 := Lib.hid (HCP.out hc w1 HO.out.bel)
  have HPT1 := Lib.hid (HPT.out hc)
  have HCK1 := Lib.hid (HCK.out hc)
  clear hr HCP HPT HCK hc
  obtain ⟨⟨p0, p1, p2, p3⟩, p4, p5, p6, p7, p8⟩ := HO.out.box.cells
  simp only [] at p0 p1 p2 p3
  go_wp2_with fail
  refine HCP1.out.mono ?_
  rintro e w2 ⟨k, n, ss, a3, n3, c3, a4, n4, c4, rfl, hsh, hb2⟩
  have hA := below_boxV w2 (Obj.cells #[.string key, .bool dur, .bool red, .string id, .int .u8 k, .int .u64 n, .string ss, .slice a3 n3 c3, .slice a4 n4 c4] 29)
  have hY := BoxPr.new (p := ⟨key, dur, red, id, app⟩) (v0 := .int .u8 k) (v1 := .int .u64 n) (v2 := .string ss) (v3 := .slice a3 n3 c3) (v4 := .slice a4 n4 c4) w2
  have hS : ShowsP (w2.alloc (Obj.cells #[.string key, .bool dur, .bool red, .string id, .int .u8 k, .int .u64 n, .string ss, .slice a3 n3 c3, .slice a4 n4 c4] 29)) ⟨key, dur, red, id, app⟩ (.int .u8 k) (.int .u64 n) (.string ss) (.slice a3 n3 c3) (.slice a4 n4 c4) := ⟨HK.out.1, HK.out.2, (hsh.sub (low_out _ _)).kept hA (Nat.le_refl _)⟩
  have HO := Lib.hid ((HO.out.step hb2).step hA)
  have HY := Lib.hid hY
  have HS := Lib.hid hS
  have HPT2 := Lib.hid (HPT1.out _ _ _ _ _ _ hS)
  obtain ⟨⟨q0, q1, q2, q3⟩, q4, q5, q6, q7, q8⟩ := hY.cells
  simp only [] at q0 q1 q2 q3
  clear hA hY hS hsh hb2 p0 p1 p2 p3 p4 p5 p6 p7 p8
  go_wp2_with fail
  refine HPT2.out.mono ?_
  rintro e w3 ⟨rfl, hb3⟩
  have HO := Lib.hid (HO.out.step hb3)
  have HY := Lib.hid (HY.out.kept hb3 (Nat.le_refl _))
  have HS := Lib.hid (HS.out.kept hb3 (Nat.le_refl _))
  obtain ⟨⟨p0, p1, p2, p3⟩, p4, p5, p6, p7, p8⟩ := HO.out.box.cells
  simp only [] at p0 p1 p2 p3
  clear hb3 q0 q1 q2 q3 q4 q5 q6 q7 q8
  go_wp2_with fail
  refine (HQP.out _ HO.out.bel).mono ?_
  rintro e w4 ⟨rfl, hb4⟩
  have HO := Lib.hid (HO.out.step hb4)
  have HY := Lib.hid (HY.out.kept hb4 (Nat.le_refl _))
  have HS := Lib.hid (HS.out.kept hb4 (Nat.le_refl _))
  obtain ⟨⟨q0, q1, q2, q3⟩, q4, q5, q6, q7, q8⟩ := HY.out.cells
  simp only [] at q0 q1 q2 q3
  clear hb4 p0 p1 p2 p3 p4 p5 p6 p7 p8
  go_wp2_with fail
  refine (HCK1.out _ _ _ _ _ _ HS.out).mono ?_
  rintro e w5 ⟨rfl, hb5⟩
  have HO := Lib.hid (HO.out.step hb5)
  have HY := Lib.hid (HY.out.kept hb5 (Nat.le_refl _))
  have HS := Lib.hid (HS.out.kept hb5 (Nat.le_refl _))
  obtain ⟨⟨p0, p1, p2, p3⟩, p4, p5, p6, p7, p8⟩ := HO.out.box.cells
  simp only [] at p0 p1 p2 p3
  clear hb5 q0 q1 q2 q3 q4 q5 q6 q7 q8
  obtain ⟨⟨q0, q1, q2, q3⟩, q4, q5, q6, q7, q8⟩ := HY.out.cells
  simp only [] at q0 q1 q2 q3
  go_wp2_with fail
  refine (HQS.out _ HO.out.bel _ _ _ _ _ HS.out).mono ?_
  rintro e w6 ⟨rfl, hb6⟩
  have HO := Lib.hid (HO.out.step hb6)
  clear hb6 q0 q1 q2 q3 q4 q5 q6 q7 q8 p0 p1 p2 p3 p4 p5 p6 p7 p8
  go_wp2_with fail
  refine (HH.out _).mono ?_
  rintro e w7 ⟨rfl, hb7⟩
  go_wp2_with fail
  go_ret
  exact ⟨rfl, HO.out.bel.trans (hb7.mono HO.out.bel.size)⟩

set_option maxRecDepth 100000 in
set_option maxHeartbeats 1000000 in
theorem pputs_walk_lifted (os : Os) (started : os.Started) (H : Type) (enc : TypeId × Value → H) :
    ReturnsInHanded {} Try.checked os 3 .any (Rows.propsPutsSpec.pre6 enc Try.prog Try.f3 Rows.propsPutsRow.domain false) (Rows.propsPutsSpec.post enc Try.prog Try.f3 false true false false) := by
  refine returnsInHanded_of_change_sized (C := Try.checked) own started (by kernel_rfl) Try.func3
    (ChangeSpec.witness6 (enc := enc) (C := Try.checked) false ⟨#[], #[.agg #[.string ⟨#[]⟩, .bool false, .bool false, .string ⟨#[]⟩, .int .u8 0, .int .u64 0, .string ⟨#[]⟩, .slice none 0 0, .slice none 0 0]], []⟩ 8 (by kernel_rfl) (by kernel_rfl) (by kernel_rfl) (by kernel_rfl)) ?_
  intro W base args ds gs before hval0 hW hcnd hsz0 _
  have hval : ∀ (j : Nat) t v, Try.f3.params[j]? = some t → args[j]? = some v → Value.okWide Try.prog W .any base t v := hval0
  have hsz : (DataW.weightsEach Try.prog (Try.f3.params.toList ++ Rows.propsPutsSpec.plain.varTypes Try.prog) (ds ++ gs)).all (· ≤ reachBytes) = true := hsz0
  have hW' := hW
  obtain ⟨p, q, hA0, hV, rfl, hfz, hnd⟩ := hW
  have hA : DataW.TrodAll enc Try.prog W 0 (fun _ => true) true Try.f3.params.toList args.toList ds p := hA0
  rw [Try.params3] at hA hval hsz
  obtain ⟨v0, vs0, d0, ds0, p0, q0, hargs, rfl, rfl, h0, r0⟩ := trodAll_cons hA
  obtain ⟨rfl, rfl, rfl⟩ := trodAll_nil r0
  obtain rfl : args = #[v0] := by cases args; simp_all
  obtain ⟨rfl, rfl⟩ := trodVars_none hV
  have k0 := h0
  have lt0 : ∀ x ∈ p0, x.block < W.heap.size := by obtain ⟨m, hm⟩ := k0; exact DataW.trod_lt m _ _ _ hm
  obtain ⟨P0, e00, e01, e02, e03, e04, rfl, sh0⟩ := open_props (hval 0 29 v0 rfl rfl) h0 hsz 0 rfl rfl
  clear hA0 hval0
  refine (pputs_walk P0 e00 e01 e02 e03 e04 W sh0).mono fun e W' ⟨he, bel⟩ => ?_
  subst he
  exact ⟨_, rfl, _, _, _, [], _, [], hW', trodAll_mk1 (shut_bool Try.underlying4 _), (trodAll_cons_mk (Below.trod laidOut (by kernel_rfl) (of_decide_eq_true (by kernel_rfl)) k0 bel lt0) trodAll_mk0), rfl, bel.frame _, fun h => by cases h⟩

theorem propsPuts_holds : Rows.PropsPutsSaid :=
  OpenClaim.holds_of_wide 3 Try.f3 rfl rfl rfl rfl rfl rfl rfl ⟨rfl, rfl, rfl, rfl, rfl⟩ rfl rfl rfl rfl rfl (by kernel_rfl) Try.func3 (by kernel_rfl)
    (of_decide_eq_true (by kernel_rfl)) (by unfold Func.isWrapper; first | (rw [if_pos (by decide +kernel)]; kernel_rfl) | (rw [if_neg (by decide +kernel)]; exact ⟨rfl, rfl⟩))
    (fun os started H enc _ => pputs_walk_lifted os started H enc)
#print axioms propsPuts_holds
end Go.Proofs.Ytnafibnhmhbfiaa
