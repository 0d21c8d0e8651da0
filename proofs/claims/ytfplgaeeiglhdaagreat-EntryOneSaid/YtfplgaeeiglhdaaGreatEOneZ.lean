/-
  For any entries, both that may be: they have the same bytes just if they are the same.
  Conditions: none.
-/
import Derived.Deep.RegionHeld3
import Derived.Test.YtfplgaeeiglhdaaGreatEnUZ
import Derived.Test.YtfplgaeeiglhdaaGreatEnRZ
import Derived.Test.YtfplgaeeiglhdaaGreatEnOpZ
namespace Go.Proofs.YtfplgaeeiglhdaaGreat
open Go.ChangeShapes Go.WideShapes Go.ChangeAt Go.RowKit
open Go.ChangeMaps (open_string shut_string)
set_option linter.unusedVariables false
set_option linter.unusedSimpArgs false

theorem errE_zero {e : EntE} (h : errE e = 0) : validE e := by
  by_cases hv : validE e
  · exact hv
  · rw [errE_no hv] at h; cases h
theorem put_sameE {p q : EntE} (fp : p.xf < 4294967296) (fq : q.xf < 4294967296) (h1 : errE p = 0) (h2 : errE q = 0) : (((putE p).toList == (putE q).toList) == sameE p q) = true := by
  have hv1 := errE_zero h1
  have hv2 := errE_zero h2
  rw [putE_ok hv1, putE_ok hv2, str8_toList, str8_toList]
  by_cases he : p = q
  · subst he
    rw [sameE_refl]
    simp
  · have h3 : sameE p q = false := by
      cases hs : sameE p q with
      | false => rfl
      | true => exact absurd ((sameE_iff p q).1 hs) he
    have h4 : (encE p == encE q) = false := beq_eq_false_iff_ne.2 (fun e => he (encE_inj hv1 hv2 fp fq e))
    rw [h3, h4]
    rfl

set_option maxRecDepth 100000 in
set_option maxHeartbeats 8000000 in
theorem eone_walk (x y : EntC) (w : World) (hp : ShowsE w x) (hq : ShowsE w y) :
    Calls Tryz.prog 7 #[entV x, entV y] w fun e w' => e = .returned (.bool true) ∧ Below w.heap.size w w' := by
  have HSM := Lib.hid (fun w' (hw' : Below w.heap.size w w') => esmall_any x w' (hp.kept hw' (Nat.le_refl _)))
  have HSM2 := Lib.hid (fun w' (hw' : Below w.heap.size w w') => esmall_any y w' (hq.kept hw' (Nat.le_refl _)))
  unfold SmallESaid at HSM HSM2
  have HH := Lib.hid ehead_any
  have HP := Lib.hid (fun (hc : Few x.cs) w' (hw' : Below w.heap.size w w') => eput_any x w' (hp.kept hw' (Nat.le_refl _)) hc)
  have HP2 := Lib.hid (fun (hc : Few y.cs) w' (hw' : Below w.heap.size w w') => eput_any y w' (hq.kept hw' (Nat.le_refl _)) hc)
  have HSAME := Lib.hid (fun (hc : Few x.cs) w' (hw' : Below w.heap.size w w') => esame_any x y w' (hp.kept hw' (Nat.le_refl _)) (hq.kept hw' (Nat.le_refl _)) hc)
  have HINJ := Lib.hid (put_sameE (p := x.e) (q := y.e) hp.xf hq.xf)
  generalize errE x.e = E1 at *
  generalize errE y.e = E2 at *
  generalize putE x.e = S1 at *
  generalize putE y.e = S2 at *
  generalize sameE x.e y.e = sm at *
  have hT := TwoE.new w x y
  obtain ⟨k, name, n, xf, xg, xh, A1, c1, cs, A2, c2, rs⟩ := x
  obtain ⟨k', name', n', xf', xg', xh', A1', c1', cs', A2', c2', rs'⟩ := y
  unfold entV at *
  simp only [] at *
  obtain ⟨⟨p0, p1, p2⟩, ⟨p3, p4, p5⟩, p6, p7⟩ := hT.a.cells
  obtain ⟨⟨q0, q1, q2⟩, ⟨q3, q4, q5⟩, q6, q7⟩ := hT.b.cells
  simp only [] at p0 p1 p2 p3 p4 p5 p6 p7 q0 q1 q2 q3 q4 q5 q6 q7
  have H0 := Lib.hid hT
  clear hT hp hq
  go_enter Tryz.func7, Tryz.ntmps7
  go_wp2_with fail
  have hG := H0.out
  clear H0 p0 p1 p2 p3 p4 p5 p6 p7 q0 q1 q2 q3 q4 q5 q6 q7
  refine (HSM.out _ hG.bel).mono ?_
  rintro e w1 ⟨r1', rfl, hr1, hb1⟩
  have hG := hG.step hb1
  cases r1' with
  | false =>
    go_wp2_with fail
    refine (HH.out _).mono ?_
    rintro e w2 ⟨rfl, hb2⟩
    have hG := hG.step hb2
    go_wp2_with fail
    go_ret
    exact ⟨rfl, hG.bel⟩
  | true =>
  have HPa := Lib.hid (HP.out (hr1 rfl).2.1.few)
  have HSa := Lib.hid (HSAME.out (hr1 rfl).2.1.few)
  clear hr1 HP HSAME
  obtain ⟨⟨q0, q1, q2⟩, ⟨q3, q4, q5⟩, q6, q7⟩ := hG.b.cells
  simp only [] at q0 q1 q2 q3 q4 q5 q6 q7
  go_wp2_with fail
  refine (HSM2.out _ hG.bel).mono ?_
  rintro e w2 ⟨r2', rfl, hr2, hb2⟩
  have hG := hG.step hb2
  clear q0 q1 q2 q3 q4 q5 q6 q7
  cases r2' with
  | false =>
    go_wp2_with fail
    refine (HH.out _).mono ?_
    rintro e w3 ⟨rfl, hb3⟩
    have hG := hG.step hb3
    go_wp2_with fail
    go_ret
    exact ⟨rfl, hG.bel⟩
  | true =>
  have HPb := Lib.hid (HP2.out (hr2 rfl).2.1.few)
  clear hr2 HP2 HSM HSM2
  obtain ⟨⟨p0, p1, p2⟩, ⟨p3, p4, p5⟩, p6, p7⟩ := hG.a.cells
  simp only [] at p0 p1 p2 p3 p4 p5 p6 p7
  go_wp2_with fail
  refine (HPa.out _ hG.bel).mono ?_
  rintro e w3 ⟨rfl, hb3⟩
  have hG := hG.step hb3
  clear p0 p1 p2 p3 p4 p5 p6 p7
  obtain ⟨⟨q0, q1, q2⟩, ⟨q3, q4, q5⟩, q6, q7⟩ := hG.b.cells
  simp only [] at q0 q1 q2 q3 q4 q5 q6 q7
  go_wp2_with fail
  refine (HPb.out _ hG.bel).mono ?_
  rintro e w4 ⟨rfl, hb4⟩
  have hG := hG.step hb4
  clear q0 q1 q2 q3 q4 q5 q6 q7
  by_cases hc1 : E1 = 0
  case neg =>
    have hcI : ((E1 : Int) != 0) = true := by simp; omega
    go_wp2_with fail
    refine (HH.out _).mono ?_
    rintro e w5 ⟨rfl, hb5⟩
    have hG := hG.step hb5
    go_wp2_with fail
    go_ret
    exact ⟨rfl, hG.bel⟩
  have hcI : ((E1 : Int) != 0) = false := by simp; omega
  by_cases hc2 : E2 = 0
  case neg =>
    have hcJ : ((E2 : Int) != 0) = true := by simp; omega
    clear hc1
    go_wp2_with fail
    refine (HH.out _).mono ?_
    rintro e w5 ⟨rfl, hb5⟩
    have hG := hG.step hb5
    go_wp2_with fail
    go_ret
    exact ⟨rfl, hG.bel⟩
  have hcJ : ((E2 : Int) != 0) = false := by simp; omega
  have hinj := HINJ.out hc1 hc2
  obtain ⟨eb, heb⟩ : ∃ eb, eb = (S1.toList == S2.toList) := ⟨_, rfl⟩
  rw [← heb] at hinj
  replace heb := heb.symm
  have hb1' : (eb == sm) = true := hinj
  clear hc1 hc2 hinj HINJ
  obtain ⟨⟨p0, p1, p2⟩, ⟨p3, p4, p5⟩, p6, p7⟩ := hG.a.cells
  obtain ⟨⟨q0, q1, q2⟩, ⟨q3, q4, q5⟩, q6, q7⟩ := hG.b.cells
  simp only [] at p0 p1 p2 p3 p4 p5 p6 p7 q0 q1 q2 q3 q4 q5 q6 q7
  go_wp2_with fail
  refine (HSa.out _ hG.bel).mono ?_
  rintro e w5 ⟨rfl, hb5⟩
  have hG := hG.step hb5
  clear p0 p1 p2 p3 p4 p5 p6 p7 q0 q1 q2 q3 q4 q5 q6 q7
  go_wp2_with fail
  refine (HH.out _).mono ?_
  rintro e w6 ⟨rfl, hb6⟩
  have hG := hG.step hb6
  go_wp2_with fail
  go_ret
  exact ⟨rfl, hG.bel⟩

set_option maxRecDepth 100000 in
set_option maxHeartbeats 1000000 in
theorem eone_walk_lifted (os : Os) (started : os.Started) (H : Type) (enc : TypeId × Value → H) :
    ReturnsInHanded {} Tryz.checked os 7 .any (Rows.entryOneSpec.pre6 enc Tryz.prog Tryz.f7 Rows.entryOneRow.domain false) (Rows.entryOneSpec.post enc Tryz.prog Tryz.f7 false true false false) := by
  refine returnsInHanded_of_change_sized (C := Tryz.checked) own started (by kernel_rfl) Tryz.func7
    (ChangeSpec.witness6 (enc := enc) (C := Tryz.checked) false ⟨#[], #[.agg #[.int .u8 0, .string ⟨#[]⟩, .int .u64 0, .int .u32 0, .string ⟨#[]⟩, .string ⟨#[]⟩, .slice none 0 0, .slice none 0 0], .agg #[.int .u8 0, .string ⟨#[]⟩, .int .u64 0, .int .u32 0, .string ⟨#[]⟩, .string ⟨#[]⟩, .slice none 0 0, .slice none 0 0]], []⟩ 8 (by kernel_rfl) (by kernel_rfl) (by kernel_rfl) (by kernel_rfl)) ?_
  intro W base args ds gs before hval0 hW hcnd hsz0 _
  have hval : ∀ (j : Nat) t v, Tryz.f7.params[j]? = some t → args[j]? = some v → Value.okWide Tryz.prog W .any base t v := hval0
  have hsz : (DataW.weightsEach Tryz.prog (Tryz.f7.params.toList ++ Rows.entryOneSpec.plain.varTypes Tryz.prog) (ds ++ gs)).all (· ≤ reachBytes) = true := hsz0
  have hW' := hW
  obtain ⟨p, q, hA0, hV, rfl, hfz, hnd⟩ := hW
  have hA : DataW.TrodAll enc Tryz.prog W 0 (fun _ => true) true Tryz.f7.params.toList args.toList ds p := hA0
  rw [Tryz.params7] at hA hval hsz
  obtain ⟨v0, vs0, d0, ds0, p0, q0, hargs, rfl, rfl, h0, r0⟩ := trodAll_cons hA
  obtain ⟨v1, vs1, d1, ds1, p1, q1, rfl, rfl, rfl, h1, r1⟩ := trodAll_cons r0
  obtain ⟨rfl, rfl, rfl⟩ := trodAll_nil r1
  obtain rfl : args = #[v0, v1] := by cases args; simp_all
  obtain ⟨rfl, rfl⟩ := trodVars_none hV
  have k0 := h0
  have lt0 : ∀ x ∈ p0, x.block < W.heap.size := by obtain ⟨m, hm⟩ := k0; exact DataW.trod_lt m _ _ _ hm
  have k1 := h1
  have lt1 : ∀ x ∈ p1, x.block < W.heap.size := by obtain ⟨m, hm⟩ := k1; exact DataW.trod_lt m _ _ _ hm
  obtain ⟨X0, rfl, sh0⟩ := open_entry (hval 0 29 v0 rfl rfl) h0 hsz 0 rfl rfl
  obtain ⟨X1, rfl, sh1⟩ := open_entry (hval 1 29 v1 rfl rfl) h1 hsz 1 rfl rfl
  clear hA0 hval0
  refine (eone_walk X0 X1 W sh0 sh1).mono fun e W' ⟨he, bel⟩ => ?_
  subst he
  exact ⟨_, rfl, _, _, _, [], _, [], hW', trodAll_mk1 (shut_bool Tryz.underlying4 _), (trodAll_cons_mk (Below.trod laidOut (by kernel_rfl) (of_decide_eq_true (by kernel_rfl)) k0 bel lt0) (trodAll_cons_mk (Below.trod laidOut (by kernel_rfl) (of_decide_eq_true (by kernel_rfl)) k1 bel lt1) trodAll_mk0)), rfl, bel.frame _, fun h => by cases h⟩

theorem entryOne_holds : Rows.EntryOneSaid :=
  OpenClaim.holds_of_wide 7 Tryz.f7 rfl rfl rfl rfl rfl rfl rfl ⟨rfl, rfl, rfl, rfl, rfl⟩ rfl rfl rfl rfl rfl (by kernel_rfl) Tryz.func7 (by kernel_rfl)
    (of_decide_eq_true (by kernel_rfl)) (by unfold Func.isWrapper; first | (rw [if_pos (by decide +kernel)]; kernel_rfl) | (rw [if_neg (by decide +kernel)]; exact ⟨rfl, rfl⟩))
    (fun os started H enc _ => eone_walk_lifted os started H enc)
#print axioms entryOne_holds
end Go.Proofs.YtfplgaeeiglhdaaGreat
