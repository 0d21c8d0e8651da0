/-
  For any properties and any text: Get of Put are the properties, and Put of what Get takes is the text.
  Conditions: none.
-/
import Derived.Test.YtnafibnhmhbfiaaPrQ
import Derived.Test.YtnafibnhmhbfiaaPrF
import Derived.Test.YtnafibnhmhbfiaaPrO
import Derived.Deep.RegionHeld3
namespace Go.Proofs.Ytnafibnhmhbfiaa
open Go.ChangeShapes Go.WideShapes Go.ChangeAt Go.RowKit
open Go.ChangeMaps (open_string shut_string)
set_option linter.unusedVariables false
set_option linter.unusedSimpArgs false

set_option maxRecDepth 100000 in
set_option maxHeartbeats 8000000 in
theorem pback_walk (p : PropP) (v0 v1 v2 v3 v4 : Value) (s : ByteArray) (w : World) (hp : ShowsP w p v0 v1 v2 v3 v4) (hs : s.size ≤ 140737488351232) :
    Calls Try.prog 6 #[propV p v0 v1 v2 v3 v4, .string s] w fun e w' => e = .returned (.bool true) ∧ Below w.heap.size w w' := by
  have HSM := Lib.hid (fun w' (hw' : Below w.heap.size w w') => psmall_any p v0 v1 v2 v3 v4 w' (hp.kept hw' (Nat.le_refl _)))
  unfold SmallSaid at HSM
  have HH := Lib.hid phead_any
  have HPO := Lib.hid (fun (hc : cntT p.app ≤ 400) (hv : validPr p) w' (hw' : Below w.heap.size w w') => pput_ok p v0 v1 v2 v3 v4 w' (hp.kept hw' (Nat.le_refl _)) (by omega) hv)
  have HPN := Lib.hid (fun (hc : cntT p.app ≤ 400) (hv : ¬ validPr p) w' (hw' : Below w.heap.size w w') => pput_no p v0 v1 v2 v3 v4 w' (hp.kept hw' (Nat.le_refl _)) (by omega) hv)
  have HSP := Lib.hid (fun (hc : cntT p.app ≤ 400) w' (hw' : Below w.heap.size w w') c0 c1 c2 c3 c4 (h : ShowsP w' p c0 c1 c2 c3 c4) => psame_any p p v0 v1 v2 v3 v4 c0 c1 c2 c3 c4 w' (hp.kept hw' (Nat.le_refl _)) h (by omega))
  rw [samePr_refl] at HSP
  have HGP := Lib.hid (fun (hv : validPr p) w' => pget_any (str8 (encPr p)) w' (by rw [str8_size]; have := enc_len hv; omega))
  have HGE := Lib.hid (fun (hv : validPr p) => get_enc hv)
  rw [sb_str8] at HGP
  have HGS := Lib.hid (fun w' => pget_any s w' hs)
  unfold PGetSaid at HGP HGS
  obtain ⟨x0, x1, x2, x3, x4, x5, x6, x7, x8, hvs⟩ := hp.app.cells5
  simp only [List.cons.injEq, and_true] at hvs
  obtain ⟨rfl, rfl, rfl, rfl, rfl⟩ := hvs
  have hAw := below_boxV w (Obj.cells #[.string p.key, .bool p.dur, .bool p.red, .string p.id, .int .u8 x0, .int .u64 x1, .string x2, .slice x3 x4 x5, .slice x6 x7 x8] 29)
  have hXw := BoxPr.new (p := p) (v0 := .int .u8 x0) (v1 := .int .u64 x1) (v2 := .string x2) (v3 := .slice x3 x4 x5) (v4 := .slice x6 x7 x8) w
  have HV1 := Lib.hid (fun (hv : validPr p) w' (c0 c1 c2 c3 c4 : Value) (h : ShowsP w' p c0 c1 c2 c3 c4) => h.app.cells5)
  have HCK := Lib.hid hp
  clear hp
  generalize encPr p = E at *
  unfold propV at HSM HPO HPN HSP ⊢
  generalize hpk : p.key = k1 at *
  generalize hpd : p.dur = d1 at *
  generalize hpr : p.red = r1 at *
  generalize hpi : p.id = i1 at *
  obtain ⟨⟨p0, p1, p2, p3⟩, p4, p5, p6, p7, p8⟩ := hXw.cells
  rw [hpk] at p0
  rw [hpd] at p1
  rw [hpr] at p2
  rw [hpi] at p3
  have HX := Lib.hid hXw
  have HB := Lib.hid hAw
  have HSM2 := Lib.hid (HSM.out _ hAw)
  have HEQS := Lib.hid (And.intro hpk (And.intro hpd (And.intro hpr hpi)))
  clear hXw hAw HSM hpk hpd hpr hpi
  go_enter Try.func6, Try.ntmps6
  go_wp2_with fail
  refine HSM2.out.mono ?_
  rintro e w1 ⟨rr, rfl, hr1, hb1⟩
  have HX1 := Lib.hid (HX.out.kept hb1 (Nat.le_refl _))
  have HB1 := Lib.hid (HB.out.trans (hb1.mono HB.out.size))
  clear p0 p1 p2 p3 p4 p5 p6 p7 p8 hb1
  cases rr with
  | false =>
    go_wp2_with fail
    refine (HH.out _).mono ?_
    rintro e w2 ⟨rfl, hb2⟩
    go_wp2_with fail
    go_ret
    exact ⟨rfl, HB1.out.trans (hb2.mono HB1.out.size)⟩
  | true =>
  have hcn := hr1 rfl
  clear hr1
  by_cases hsl : s.size ≤ 20000
  case neg =>
    have t1 : decide ((20000 : Int) < (s.size : Int)) = true := by simp; omega
    go_wp2_with fail
    refine (HH.out _).mono ?_
    rintro e w2 ⟨rfl, hb2⟩
    go_wp2_with fail
    go_ret
    exact ⟨rfl, HB1.out.trans (hb2.mono HB1.out.size)⟩
  have t1 : decide ((20000 : Int) < (s.size : Int)) = false := by simp; omega
  obtain ⟨⟨p0, p1, p2, p3⟩, p4, p5, p6, p7, p8⟩ := HX1.out.cells
  rw [HEQS.out.1] at p0
  rw [HEQS.out.2.1] at p1
  rw [HEQS.out.2.2.1] at p2
  rw [HEQS.out.2.2.2] at p3
  have HSPc := Lib.hid (HSP.out hcn)
  by_cases hv : validPr p
  · have HPx := Lib.hid (HPO.out hcn hv w1 HB1.out)
    have HGx := Lib.hid (HGP.out hv)
    have HGe := HGE.out hv
    rw [HGe] at HGx
    clear HPO HPN HGP HGE HGe hcn HSP hsl
    go_wp2_with fail
    refine HPx.out.mono ?_
    rintro e w2 ⟨rfl, hb2⟩
    have HB2 := Lib.hid (HB1.out.trans (hb2.mono HB1.out.size))
    have HX2 := Lib.hid (HX1.out.kept hb2 (Nat.le_refl _))
    clear hb2 p0 p1 p2 p3 p4 p5 p6 p7 p8
    go_wp2_with fail
    refine (HGx.out _).mono ?_
    rintro e w3 ⟨hb3, c0, c1, c2, c3, c4, rfl, hs3⟩
    have HS3 := Lib.hid (hs3.sub (low_out _ _))
    obtain ⟨y0, y1, y2, y3, y4, y5, y6, y7, y8, hvs⟩ := hs3.app.cells5
    simp only [List.cons.injEq, and_true] at hvs
    obtain ⟨rfl, rfl, rfl, rfl, rfl⟩ := hvs
    unfold propV
    rw [HEQS.out.1, HEQS.out.2.1, HEQS.out.2.2.1, HEQS.out.2.2.2]
    have hA := below_boxV w3 (Obj.cells #[.string k1, .bool d1, .bool r1, .string i1, .int .u8 y0, .int .u64 y1, .string y2, .slice y3 y4 y5, .slice y6 y7 y8] 29)
    have hX4 := (HX2.out.kept hb3 (Nat.le_refl _)).kept hA (Nat.le_refl _)
    have hY4 := heap_alloc_new w3 (Obj.cells #[.string k1, .bool d1, .bool r1, .string i1, .int .u8 y0, .int .u64 y1, .string y2, .slice y3 y4 y5, .slice y6 y7 y8] 29)
    have HB3 := Lib.hid (HB2.out.trans (hb3.mono HB2.out.size))
    have HB4 := Lib.hid (HB3.out.trans (hA.mono HB3.out.size))
    have HSx := Lib.hid (HSPc.out _ HB4.out _ _ _ _ _ (HS3.out.kept hA (Nat.le_refl _)))
    obtain ⟨⟨p0, p1, p2, p3⟩, p4, p5, p6, p7, p8⟩ := hX4.cells
    rw [HEQS.out.1] at p0
    rw [HEQS.out.2.1] at p1
    rw [HEQS.out.2.2.1] at p2
    rw [HEQS.out.2.2.2] at p3
    obtain ⟨⟨q0, q1, q2, q3⟩, q4, q5, q6, q7, q8⟩ := BoxPr.cells (p := ⟨k1, d1, r1, i1, prZ⟩) hY4
    simp only [] at q0 q1 q2 q3
    clear hA hX4 hY4 hb3 hs3
    go_wp2_with fail
    refine HSx.out.mono ?_
    rintro e wB ⟨rfl, hb5⟩
    have HBB := Lib.hid (HB4.out.trans (hb5.mono HB4.out.size))
    clear hb5 p0 p1 p2 p3 p4 p5 p6 p7 p8 q0 q1 q2 q3 q4 q5 q6 q7 q8 HSx HS3
    have HG2 := Lib.hid (HGS.out wB)
    go_wp2_with fail
    refine HG2.out.mono ?_
    rintro e wC ⟨hbC, hmC⟩
    cases hg : getPr (sb s) with
    | none =>
      rw [hg] at hmC
      unfold propV zPr at hmC
      simp only [] at hmC
      subst hmC
      have HBC := Lib.hid (HBB.out.trans (hbC.mono HBB.out.size))
      have hA := below_boxV wC (Obj.cells #[.string ⟨#[]⟩, .bool false, .bool false, .string ⟨#[]⟩, .int .u8 0, .int .u64 0, .string ⟨#[]⟩, .slice none 0 0, .slice none 0 0] 29)
      have hX := BoxPr.new (p := zPr) (v0 := .int .u8 0) (v1 := .int .u64 0) (v2 := .string ⟨#[]⟩) (v3 := .slice none 0 0) (v4 := .slice none 0 0) wC
      obtain ⟨⟨z0, z1, z2, z3⟩, z4, z5, z6, z7, z8⟩ := hX.cells
      unfold zPr at z0 z1 z2 z3
      simp only [] at z0 z1 z2 z3
      have HBA := Lib.hid (HBC.out.trans (hA.mono HBC.out.size))
      have HZS := Lib.hid (psame_any zPr zPr (.int .u8 0) (.int .u64 0) (.string ⟨#[]⟩) (.slice none 0 0) (.slice none 0 0) (.int .u8 0) (.int .u64 0) (.string ⟨#[]⟩) (.slice none 0 0) (.slice none 0 0) _ ⟨by decide, by decide, zero_shows _⟩ ⟨by decide, by decide, zero_shows (wC.alloc (Obj.cells #[.string ⟨#[]⟩, .bool false, .bool false, .string ⟨#[]⟩, .int .u8 0, .int .u64 0, .string ⟨#[]⟩, .slice none 0 0, .slice none 0 0] 29))⟩ (by decide))
      rw [samePr_refl] at HZS
      unfold propV zPr at HZS
      simp only [] at HZS
      clear hA hX hbC hg
      go_wp2_with fail
      refine HZS.out.mono ?_
      rintro e wD ⟨rfl, hbD⟩
      have HBD := Lib.hid (HBA.out.trans (hbD.mono HBA.out.size))
      clear hbD z0 z1 z2 z3 z4 z5 z6 z7 z8
      go_wp2_with fail
      refine (HH.out _).mono ?_
      rintro e wE ⟨rfl, hbE⟩
      go_wp2_with fail
      go_ret
      exact ⟨rfl, HBD.out.trans (hbE.mono HBD.out.size)⟩
    | some q =>
      rw [hg] at hmC
      obtain ⟨c0, c1, c2, c3, c4, rfl, hsC⟩ := hmC
      obtain ⟨hvq, heq⟩ := get_some hg
      have hcq : cntT q.app ≤ 1000000 := by
        rcases hvq.2.2 with ⟨_, hc⟩ | hc
        · have := pcheck_cnt hc; omega
        · rw [hc]; decide
      have HBC := Lib.hid (HBB.out.trans (hbC.mono HBB.out.size))
      have HPQ := Lib.hid (fun w' (h : Below wC.heap.size wC w') => pput_ok q c0 c1 c2 c3 c4 w' ((hsC.sub (low_out _ _)).kept h (Nat.le_refl _)) hcq hvq)
      rw [heq] at HPQ
      obtain ⟨z0', z1', z2', z3', z4', z5', z6', z7', z8', hvs⟩ := hsC.app.cells5
      simp only [List.cons.injEq, and_true] at hvs
      obtain ⟨rfl, rfl, rfl, rfl, rfl⟩ := hvs
      obtain ⟨qk, qd, qr, qi, qa⟩ := q
      unfold propV at HPQ ⊢
      simp only [] at HPQ ⊢
      have hA := below_boxV wC (Obj.cells #[.string qk, .bool qd, .bool qr, .string qi, .int .u8 z0', .int .u64 z1', .string z2', .slice z3' z4' z5', .slice z6' z7' z8'] 29)
      have hX := BoxPr.new (p := ⟨qk, qd, qr, qi, qa⟩) (v0 := .int .u8 z0') (v1 := .int .u64 z1') (v2 := .string z2') (v3 := .slice z3' z4' z5') (v4 := .slice z6' z7' z8') wC
      obtain ⟨⟨z0, z1, z2, z3⟩, z4, z5, z6, z7, z8⟩ := hX.cells
      simp only [] at z0 z1 z2 z3
      have HBA := Lib.hid (HBC.out.trans (hA.mono HBC.out.size))
      have HPX := Lib.hid (HPQ.out _ hA)
      have hst : (str8 (sb s)).toList = s.toList := by rw [str8_toList, sb_toList]
      clear hA hX hbC hg hsC hvq heq hcq HPQ
      go_wp2_with fail
      refine HPX.out.mono ?_
      rintro e wD ⟨rfl, hbD⟩
      have HBD := Lib.hid (HBA.out.trans (hbD.mono HBA.out.size))
      clear hbD z0 z1 z2 z3 z4 z5 z6 z7 z8
      go_wp2_with fail
      refine (HH.out _).mono ?_
      rintro e wE ⟨rfl, hbE⟩
      go_wp2_with fail
      go_ret
      exact ⟨rfl, HBD.out.trans (hbE.mono HBD.out.size)⟩
  · have HPx := Lib.hid (HPN.out hcn hv w1 HB1.out)
    clear HPO HPN HGP HGE hcn HSP hsl
    go_wp2_with fail
    refine HPx.out.mono ?_
    rintro e wB ⟨rfl, hb2⟩
    have HBB := Lib.hid (HB1.out.trans (hb2.mono HB1.out.size))
    clear hb2 p0 p1 p2 p3 p4 p5 p6 p7 p8
    have HG2 := Lib.hid (HGS.out wB)
    go_wp2_with fail
    refine HG2.out.mono ?_
    rintro e wC ⟨hbC, hmC⟩
    cases hg : getPr (sb s) with
    | none =>
      rw [hg] at hmC
      unfold propV zPr at hmC
      simp only [] at hmC
      subst hmC
      have HBC := Lib.hid (HBB.out.trans (hbC.mono HBB.out.size))
      have hA := below_boxV wC (Obj.cells #[.string ⟨#[]⟩, .bool false, .bool false, .string ⟨#[]⟩, .int .u8 0, .int .u64 0, .string ⟨#[]⟩, .slice none 0 0, .slice none 0 0] 29)
      have hX := BoxPr.new (p := zPr) (v0 := .int .u8 0) (v1 := .int .u64 0) (v2 := .string ⟨#[]⟩) (v3 := .slice none 0 0) (v4 := .slice none 0 0) wC
      obtain ⟨⟨z0, z1, z2, z3⟩, z4, z5, z6, z7, z8⟩ := hX.cells
      unfold zPr at z0 z1 z2 z3
      simp only [] at z0 z1 z2 z3
      have HBA := Lib.hid (HBC.out.trans (hA.mono HBC.out.size))
      have HZS := Lib.hid (psame_any zPr zPr (.int .u8 0) (.int .u64 0) (.string ⟨#[]⟩) (.slice none 0 0) (.slice none 0 0) (.int .u8 0) (.int .u64 0) (.string ⟨#[]⟩) (.slice none 0 0) (.slice none 0 0) _ ⟨by decide, by decide, zero_shows _⟩ ⟨by decide, by decide, zero_shows (wC.alloc (Obj.cells #[.string ⟨#[]⟩, .bool false, .bool false, .string ⟨#[]⟩, .int .u8 0, .int .u64 0, .string ⟨#[]⟩, .slice none 0 0, .slice none 0 0] 29))⟩ (by decide))
      rw [samePr_refl] at HZS
      unfold propV zPr at HZS
      simp only [] at HZS
      clear hA hX hbC hg
      go_wp2_with fail
      refine HZS.out.mono ?_
      rintro e wD ⟨rfl, hbD⟩
      have HBD := Lib.hid (HBA.out.trans (hbD.mono HBA.out.size))
      clear hbD z0 z1 z2 z3 z4 z5 z6 z7 z8
      go_wp2_with fail
      refine (HH.out _).mono ?_
      rintro e wE ⟨rfl, hbE⟩
      go_wp2_with fail
      go_ret
      exact ⟨rfl, HBD.out.trans (hbE.mono HBD.out.size)⟩
    | some q =>
      rw [hg] at hmC
      obtain ⟨c0, c1, c2, c3, c4, rfl, hsC⟩ := hmC
      obtain ⟨hvq, heq⟩ := get_some hg
      have hcq : cntT q.app ≤ 1000000 := by
        rcases hvq.2.2 with ⟨_, hc⟩ | hc
        · have := pcheck_cnt hc; omega
        · rw [hc]; decide
      have HBC := Lib.hid (HBB.out.trans (hbC.mono HBB.out.size))
      have HPQ := Lib.hid (fun w' (h : Below wC.heap.size wC w') => pput_ok q c0 c1 c2 c3 c4 w' ((hsC.sub (low_out _ _)).kept h (Nat.le_refl _)) hcq hvq)
      rw [heq] at HPQ
      obtain ⟨z0', z1', z2', z3', z4', z5', z6', z7', z8', hvs⟩ := hsC.app.cells5
      simp only [List.cons.injEq, and_true] at hvs
      obtain ⟨rfl, rfl, rfl, rfl, rfl⟩ := hvs
      obtain ⟨qk, qd, qr, qi, qa⟩ := q
      unfold propV at HPQ ⊢
      simp only [] at HPQ ⊢
      have hA := below_boxV wC (Obj.cells #[.string qk, .bool qd, .bool qr, .string qi, .int .u8 z0', .int .u64 z1', .string z2', .slice z3' z4' z5', .slice z6' z7' z8'] 29)
      have hX := BoxPr.new (p := ⟨qk, qd, qr, qi, qa⟩) (v0 := .int .u8 z0') (v1 := .int .u64 z1') (v2 := .string z2') (v3 := .slice z3' z4' z5') (v4 := .slice z6' z7' z8') wC
      obtain ⟨⟨z0, z1, z2, z3⟩, z4, z5, z6, z7, z8⟩ := hX.cells
      simp only [] at z0 z1 z2 z3
      have HBA := Lib.hid (HBC.out.trans (hA.mono HBC.out.size))
      have HPX := Lib.hid (HPQ.out _ hA)
      have hst : (str8 (sb s)).toList = s.toList := by rw [str8_toList, sb_toList]
      clear hA hX hbC hg hsC hvq heq hcq HPQ
      go_wp2_with fail
      refine HPX.out.mono ?_
      rintro e wD ⟨rfl, hbD⟩
      have HBD := Lib.hid (HBA.out.trans (hbD.mono HBA.out.size))
      clear hbD z0 z1 z2 z3 z4 z5 z6 z7 z8
      go_wp2_with fail
      refine (HH.out _).mono ?_
      rintro e wE ⟨rfl, hbE⟩
      go_wp2_with fail
      go_ret
      exact ⟨rfl, HBD.out.trans (hbE.mono HBD.out.size)⟩

set_option maxRecDepth 100000 in
set_option maxHeartbeats 1000000 in
theorem pback_walk_lifted (os : Os) (started : os.Started) (H : Type) (enc : TypeId × Value → H) :
    ReturnsInHanded {} Try.checked os 6 .any (Rows.propsBackSpec.pre6 enc Try.prog Try.f6 Rows.propsBackRow.domain false) (Rows.propsBackSpec.post enc Try.prog Try.f6 false true false false) := by
  refine returnsInHanded_of_change_sized (C := Try.checked) own started (by kernel_rfl) Try.func6
    (ChangeSpec.witness6 (enc := enc) (C := Try.checked) false ⟨#[], #[.agg #[.string ⟨#[]⟩, .bool false, .bool false, .string ⟨#[]⟩, .int .u8 0, .int .u64 0, .string ⟨#[]⟩, .slice none 0 0, .slice none 0 0], .string ⟨#[]⟩], []⟩ 8 (by kernel_rfl) (by kernel_rfl) (by kernel_rfl) (by kernel_rfl)) ?_
  intro W base args ds gs before hval0 hW hcnd hsz0 _
  have hval : ∀ (j : Nat) t v, Try.f6.params[j]? = some t → args[j]? = some v → Value.okWide Try.prog W .any base t v := hval0
  have hsz : (DataW.weightsEach Try.prog (Try.f6.params.toList ++ Rows.propsBackSpec.plain.varTypes Try.prog) (ds ++ gs)).all (· ≤ reachBytes) = true := hsz0
  have hW' := hW
  obtain ⟨p, q, hA0, hV, rfl, hfz, hnd⟩ := hW
  have hA : DataW.TrodAll enc Try.prog W 0 (fun _ => true) true Try.f6.params.toList args.toList ds p := hA0
  rw [Try.params6] at hA hval hsz
  obtain ⟨v0, vs0, d0, ds0, p0, q0, hargs, rfl, rfl, h0, r0⟩ := trodAll_cons hA
  obtain ⟨v1, vs1, d1, ds1, p1, q1, rfl, rfl, rfl, h1, r1⟩ := trodAll_cons r0
  obtain ⟨rfl, rfl, rfl⟩ := trodAll_nil r1
  obtain rfl : args = #[v0, v1] := by cases args; simp_all
  obtain ⟨rfl, rfl⟩ := trodVars_none hV
  have k0 := h0
  have lt0 : ∀ x ∈ p0, x.block < W.heap.size := by obtain ⟨m, hm⟩ := k0; exact DataW.trod_lt m _ _ _ hm
  have k1 := h1
  have lt1 : ∀ x ∈ p1, x.block < W.heap.size := by obtain ⟨m, hm⟩ := k1; exact DataW.trod_lt m _ _ _ hm
  obtain ⟨P0, e00, e01, e02, e03, e04, rfl, sh0⟩ := open_props (hval 0 29 v0 rfl rfl) h0 hsz 0 rfl rfl
  obtain ⟨s1, rfl, rfl, rfl, _⟩ := open_string Try.underlying9 (hval 1 9 v1 rfl rfl) h1
  have zs1 := sized_string hsz (j := 1) (t := 9) rfl rfl
  have zt1 : s1.size ≤ 140737488351232 := by rw [← sb_length]; exact zs1
  clear hA0 hval0
  refine (pback_walk P0 e00 e01 e02 e03 e04 s1 W sh0 zt1).mono fun e W' ⟨he, bel⟩ => ?_
  subst he
  exact ⟨_, rfl, _, _, _, [], _, [], hW', trodAll_mk1 (shut_bool Try.underlying4 _), (trodAll_cons_mk (Below.trod laidOut (by kernel_rfl) (of_decide_eq_true (by kernel_rfl)) k0 bel lt0) (trodAll_cons_mk (Below.trod laidOut (by kernel_rfl) (of_decide_eq_true (by kernel_rfl)) k1 bel lt1) trodAll_mk0)), rfl, bel.frame _, fun h => by cases h⟩

theorem propsBack_holds : Rows.PropsBackSaid :=
  OpenClaim.holds_of_wide 6 Try.f6 rfl rfl rfl rfl rfl rfl rfl ⟨rfl, rfl, rfl, rfl, rfl⟩ rfl rfl rfl rfl rfl (by kernel_rfl) Try.func6 (by kernel_rfl)
    (of_decide_eq_true (by kernel_rfl)) (by unfold Func.isWrapper; first | (rw [if_pos (by decide +kernel)]; kernel_rfl) | (rw [if_neg (by decide +kernel)]; exact ⟨rfl, rfl⟩))
    (fun os started H enc _ => pback_walk_lifted os started H enc)
#print axioms propsBack_holds
end Go.Proofs.Ytnafibnhmhbfiaa
