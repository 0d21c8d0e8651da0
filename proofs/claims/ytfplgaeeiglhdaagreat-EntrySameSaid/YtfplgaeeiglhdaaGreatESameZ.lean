/-
  For any entries that may be looked at: Same says rightly whether they are the same, and an entry is the same as its copy.
  Conditions: none.
-/
import Derived.Deep.RegionHeld3
import Derived.Test.YtfplgaeeiglhdaaGreatEnUZ
import Derived.Test.YtfplgaeeiglhdaaGreatEnRZ
import Derived.Test.YtfplgaeeiglhdaaGreatEnOpZ
import Derived.Test.YtfplgaeeiglhdaaGreatEnTqZ
import Derived.Test.YtfplgaeeiglhdaaGreatEnCqZ
namespace Go.Proofs.YtfplgaeeiglhdaaGreat
open Go.ChangeShapes Go.WideShapes Go.ChangeAt Go.RowKit
open Go.ChangeMaps (open_string shut_string)
set_option linter.unusedVariables false
set_option linter.unusedSimpArgs false

theorem TwoE.drw {w wx : World} {x y : EntC} (h : TwoE w x y wx) : TwoE w x y wx.drew := h.step (below_drew1 (Below.refl _ _))
theorem TwoE.calls {w0 : World} {x y : EntC} {f : FuncId} {args : Array Value} {r : Ending} (hc : ∀ w, TwoE w0 x y w → Calls Tryz.prog f args w fun e w' => e = r ∧ Below w.heap.size w w') :
    ∀ w, TwoE w0 x y w → Calls Tryz.prog f args w fun e w' => e = r ∧ TwoE w0 x y w' :=
  fun w h => (hc w h).mono fun e w' he => ⟨he.1, h.step he.2⟩

set_option maxRecDepth 100000 in
set_option maxHeartbeats 8000000 in
theorem esamelaw_walk (x y : EntC) (w : World) (hp : ShowsE w x) (hq : ShowsE w y) :
    Calls Tryz.prog 5 #[entV x, entV y] w fun e w' => e = .returned (.bool true) ∧ Below w.heap.size w w' := by
  have HSM := Lib.hid (fun w' (hw' : Below w.heap.size w w') => esmall_any x w' (hp.kept hw' (Nat.le_refl _)))
  have HSM2 := Lib.hid (fun w' (hw' : Below w.heap.size w w') => esmall_any y w' (hq.kept hw' (Nat.le_refl _)))
  unfold SmallESaid at HSM HSM2
  have HH := Lib.hid ehead_any
  have HSAME := Lib.hid (fun (hc : Few x.cs) w' (hw' : Below w.heap.size w w') => esame_any x y w' (hp.kept hw' (Nat.le_refl _)) (hq.kept hw' (Nat.le_refl _)) hc)
  have HQS := Lib.hid (fun w' (hw' : Below w.heap.size w w') => qesame_any x y w' (hp.kept hw' (Nat.le_refl _)) (hq.kept hw' (Nat.le_refl _)))
  have HCP := Lib.hid (fun (h1 : x.cs.length ≤ 110) (h2 : x.rs.length ≤ 110) (h3 : FewS x.cs) w' (hw' : Below w.heap.size w w') => ecopy_any x w' (hp.kept hw' (Nat.le_refl _)) h1 h2 h3)
  unfold ECopySaid at HCP
  have HSC := Lib.hid (fun (hc : Few x.cs) w' (hw' : Below w.heap.size w w') y' (he : y'.e = x.e) (hs : ShowsE w' y') => by
    have := esame_any x y' w' (hp.kept hw' (Nat.le_refl _)) hs hc
    rw [he, sameE_refl] at this
    exact this)
  generalize sameE x.e y.e = sm at *
  have hT := TwoE.new w x y
  obtain ⟨k, name, n, xf, xg, xh, A1, c1, cs, A2, c2, rs⟩ := x
  obtain ⟨k', name', n', xf', xg', xh', A1', c1', cs', A2', c2', rs'⟩ := y
  unfold entV at *
  simp only [] at *
  obtain ⟨⟨p0, p1, p2⟩, ⟨p3, p4, p5⟩, p6, p7⟩ := hT.a.cells
  obtain ⟨⟨q0, q1, q2⟩, ⟨q3, q4, q5⟩, q6, q7⟩ := hT.b.cells
  simp only [] at p0 p1 p2 p3 p4 p5 p6 p7 q0 q1 q2 q3 q4 q5 q6 q7
  have H0 := Lib.hid hT
  clear hT hp hq
  go_enter Tryz.func5, Tryz.ntmps5
  go_wp2_with fail
  have hG := H0.out
  clear H0 p0 p1 p2 p3 p4 p5 p6 p7 q0 q1 q2 q3 q4 q5 q6 q7
  generalize ((w.alloc (Obj.cells #[.int .u8 k, .string name, .int .u64 n, .int .u32 xf, .string xg, .string xh, .slice A1 cs.length c1, .slice A2 rs.length c2] 29)).alloc (Obj.cells #[.int .u8 k', .string name', .int .u64 n', .int .u32 xf', .string xg', .string xh', .slice A1' cs'.length c1', .slice A2' rs'.length c2'] 29)) = W at *
  refine (HSM.out _ hG.bel).mono ?_
  rintro e w1 ⟨r1', rfl, hr1, hb1⟩
  have hG := hG.step hb1
  cases r1' with
  | false =>
    go_wp2_with fail
    refine (HH.out _).mono ?_
    rintro e w2 ⟨rfl, hb2⟩
    have hG := hG.step hb2
    go_wp2_with fail
    go_ret
    exact ⟨rfl, hG.bel⟩
  | true =>
  have HSa := Lib.hid (HSAME.out (hr1 rfl).2.1.few)
  have HCa := Lib.hid (HCP.out (hr1 rfl).1 (hr1 rfl).2.2 (hr1 rfl).2.1)
  have HSb := Lib.hid (HSC.out (hr1 rfl).2.1.few)
  clear hr1 HSC HSAME HCP
  obtain ⟨⟨q0, q1, q2⟩, ⟨q3, q4, q5⟩, q6, q7⟩ := hG.b.cells
  simp only [] at q0 q1 q2 q3 q4 q5 q6 q7
  go_wp2_with fail
  refine (HSM2.out _ hG.bel).mono ?_
  rintro e w2 ⟨r2', rfl, hr2, hb2⟩
  have hG := hG.step hb2
  clear q0 q1 q2 q3 q4 q5 q6 q7
  cases r2' with
  | false =>
    go_wp2_with fail
    refine (HH.out _).mono ?_
    rintro e w3 ⟨rfl, hb3⟩
    have hG := hG.step hb3
    go_wp2_with fail
    go_ret
    exact ⟨rfl, hG.bel⟩
  | true =>
  clear hr2 HSM HSM2 hb1 hb2
  have hGd := hG.drw
  clear hG
  have C1 := Lib.hid (TwoE.calls (w0 := w) (x := ⟨k, name, n, xf, xg, xh, A1, c1, cs, A2, c2, rs⟩) (y := ⟨k', name', n', xf', xg', xh', A1', c1', cs', A2', c2', rs'⟩) (fun w' h => HSa.out w' h.bel))
  have C2 := Lib.hid (TwoE.calls (w0 := w) (x := ⟨k, name, n, xf, xg, xh, A1, c1, cs, A2, c2, rs⟩) (y := ⟨k', name', n', xf', xg', xh', A1', c1', cs', A2', c2', rs'⟩) (fun w' h => HQS.out w' h.bel))
  have HC8 := Lib.hid (fun w' (h : TwoE w ⟨k, name, n, xf, xg, xh, A1, c1, cs, A2, c2, rs⟩ ⟨k', name', n', xf', xg', xh', A1', c1', cs', A2', c2', rs'⟩ w') => (show ((w'.cell? ⟨w.heap.size, 0, none⟩ = some (.int .u8 k) ∧ w'.cell? ⟨w.heap.size, 1, none⟩ = some (.string name) ∧ w'.cell? ⟨w.heap.size, 2, none⟩ = some (.int .u64 n)) ∧ (w'.cell? ⟨w.heap.size, 3, none⟩ = some (.int .u32 xf) ∧ w'.cell? ⟨w.heap.size, 4, none⟩ = some (.string xg) ∧ w'.cell? ⟨w.heap.size, 5, none⟩ = some (.string xh)) ∧ w'.cell? ⟨w.heap.size, 6, none⟩ = some (.slice A1 cs.length c1) ∧ w'.cell? ⟨w.heap.size, 7, none⟩ = some (.slice A2 rs.length c2)) ∧ ((w'.cell? ⟨w.heap.size + 1, 0, none⟩ = some (.int .u8 k') ∧ w'.cell? ⟨w.heap.size + 1, 1, none⟩ = some (.string name') ∧ w'.cell? ⟨w.heap.size + 1, 2, none⟩ = some (.int .u64 n')) ∧ (w'.cell? ⟨w.heap.size + 1, 3, none⟩ = some (.int .u32 xf') ∧ w'.cell? ⟨w.heap.size + 1, 4, none⟩ = some (.string xg') ∧ w'.cell? ⟨w.heap.size + 1, 5, none⟩ = some (.string xh')) ∧ w'.cell? ⟨w.heap.size + 1, 6, none⟩ = some (.slice A1' cs'.length c1') ∧ w'.cell? ⟨w.heap.size + 1, 7, none⟩ = some (.slice A2' rs'.length c2')) from ⟨h.a.cells, h.b.cells⟩))
  go_upto_region 3 with fail
  go_region_held3 (fun w' => ((w'.cell? ⟨w.heap.size, 0, none⟩ = some (.int .u8 k) ∧ w'.cell? ⟨w.heap.size, 1, none⟩ = some (.string name) ∧ w'.cell? ⟨w.heap.size, 2, none⟩ = some (.int .u64 n)) ∧ (w'.cell? ⟨w.heap.size, 3, none⟩ = some (.int .u32 xf) ∧ w'.cell? ⟨w.heap.size, 4, none⟩ = some (.string xg) ∧ w'.cell? ⟨w.heap.size, 5, none⟩ = some (.string xh)) ∧ w'.cell? ⟨w.heap.size, 6, none⟩ = some (.slice A1 cs.length c1) ∧ w'.cell? ⟨w.heap.size, 7, none⟩ = some (.slice A2 rs.length c2)) ∧ ((w'.cell? ⟨w.heap.size + 1, 0, none⟩ = some (.int .u8 k') ∧ w'.cell? ⟨w.heap.size + 1, 1, none⟩ = some (.string name') ∧ w'.cell? ⟨w.heap.size + 1, 2, none⟩ = some (.int .u64 n')) ∧ (w'.cell? ⟨w.heap.size + 1, 3, none⟩ = some (.int .u32 xf') ∧ w'.cell? ⟨w.heap.size + 1, 4, none⟩ = some (.string xg') ∧ w'.cell? ⟨w.heap.size + 1, 5, none⟩ = some (.string xh')) ∧ w'.cell? ⟨w.heap.size + 1, 6, none⟩ = some (.slice A1' cs'.length c1') ∧ w'.cell? ⟨w.heap.size + 1, 7, none⟩ = some (.slice A2' rs'.length c2'))) (first | with_reducible exact HC8.out _ hG7 | with_reducible exact HC8.out _ hG6 | with_reducible exact HC8.out _ hG5 | with_reducible exact HC8.out _ (by assumption))
    (first
      | (go_at_call 17
         first
           | (with_reducible refine (C1.out _ (by assumption)).mono ?_
              rintro e3 w3 ⟨rfl, hG3⟩)
           | (with_reducible refine (HSb.out _ hG5.bel _ hy5 hS5).mono ?_
              rintro e6 w6 ⟨rfl, hb6⟩
              have hG6 := hG5.step hb6))
      | (go_at_call 14
         with_reducible refine (C2.out _ (by assumption)).mono ?_
         rintro e4 w4 ⟨rfl, hG4⟩)
      | (go_at_call 10
         with_reducible refine (HCa.out _ (TwoE.bel (by assumption))).mono ?_
         rintro e5 w5 ⟨y5, rfl, hy5, hS5', hF5, hb5⟩
         have hS5 := hS5'.sub (low_out _ _)
         have hG5 := TwoE.step (by assumption) hb5)
      | (go_at_call 9
         with_reducible refine (HH.out _).mono ?_
         rintro e7 w7 ⟨rfl, hb7⟩
         have hG7 := hG6.step hb7))
  all_goals
    go_wp2_with fail
    go_ret
    exact ⟨rfl, hG7.bel⟩

set_option maxRecDepth 100000 in
set_option maxHeartbeats 1000000 in
theorem esamelaw_walk_lifted (os : Os) (started : os.Started) (H : Type) (enc : TypeId × Value → H) :
    ReturnsInHanded {} Tryz.checked os 5 .any (Rows.entrySameSpec.pre6 enc Tryz.prog Tryz.f5 Rows.entrySameRow.domain false) (Rows.entrySameSpec.post enc Tryz.prog Tryz.f5 false true false false) := by
  refine returnsInHanded_of_change_sized (C := Tryz.checked) own started (by kernel_rfl) Tryz.func5
    (ChangeSpec.witness6 (enc := enc) (C := Tryz.checked) false ⟨#[], #[.agg #[.int .u8 0, .string ⟨#[]⟩, .int .u64 0, .int .u32 0, .string ⟨#[]⟩, .string ⟨#[]⟩, .slice none 0 0, .slice none 0 0], .agg #[.int .u8 0, .string ⟨#[]⟩, .int .u64 0, .int .u32 0, .string ⟨#[]⟩, .string ⟨#[]⟩, .slice none 0 0, .slice none 0 0]], []⟩ 8 (by kernel_rfl) (by kernel_rfl) (by kernel_rfl) (by kernel_rfl)) ?_
  intro W base args ds gs before hval0 hW hcnd hsz0 _
  have hval : ∀ (j : Nat) t v, Tryz.f5.params[j]? = some t → args[j]? = some v → Value.okWide Tryz.prog W .any base t v := hval0
  have hsz : (DataW.weightsEach Tryz.prog (Tryz.f5.params.toList ++ Rows.entrySameSpec.plain.varTypes Tryz.prog) (ds ++ gs)).all (· ≤ reachBytes) = true := hsz0
  have hW' := hW
  obtain ⟨p, q, hA0, hV, rfl, hfz, hnd⟩ := hW
  have hA : DataW.TrodAll enc Tryz.prog W 0 (fun _ => true) true Tryz.f5.params.toList args.toList ds p := hA0
  rw [Tryz.params5] at hA hval hsz
  obtain ⟨v0, vs0, d0, ds0, p0, q0, hargs, rfl, rfl, h0, r0⟩ := trodAll_cons hA
  obtain ⟨v1, vs1, d1, ds1, p1, q1, rfl, rfl, rfl, h1, r1⟩ := trodAll_cons r0
  obtain ⟨rfl, rfl, rfl⟩ := trodAll_nil r1
  obtain rfl : args = #[v0, v1] := by cases args; simp_all
  obtain ⟨rfl, rfl⟩ := trodVars_none hV
  have k0 := h0
  have lt0 : ∀ x ∈ p0, x.block < W.heap.size := by obtain ⟨m, hm⟩ := k0; exact DataW.trod_lt m _ _ _ hm
  have k1 := h1
  have lt1 : ∀ x ∈ p1, x.block < W.heap.size := by obtain ⟨m, hm⟩ := k1; exact DataW.trod_lt m _ _ _ hm
  obtain ⟨X0, rfl, sh0⟩ := open_entry (hval 0 29 v0 rfl rfl) h0 hsz 0 rfl rfl
  obtain ⟨X1, rfl, sh1⟩ := open_entry (hval 1 29 v1 rfl rfl) h1 hsz 1 rfl rfl
  clear hA0 hval0
  refine (esamelaw_walk X0 X1 W sh0 sh1).mono fun e W' ⟨he, bel⟩ => ?_
  subst he
  exact ⟨_, rfl, _, _, _, [], _, [], hW', trodAll_mk1 (shut_bool Tryz.underlying4 _), (trodAll_cons_mk (Below.trod laidOut (by kernel_rfl) (of_decide_eq_true (by kernel_rfl)) k0 bel lt0) (trodAll_cons_mk (Below.trod laidOut (by kernel_rfl) (of_decide_eq_true (by kernel_rfl)) k1 bel lt1) trodAll_mk0)), rfl, bel.frame _, fun h => by cases h⟩

theorem entrySame_holds : Rows.EntrySameSaid :=
  OpenClaim.holds_of_wide 5 Tryz.f5 rfl rfl rfl rfl rfl rfl rfl ⟨rfl, rfl, rfl, rfl, rfl⟩ rfl rfl rfl rfl rfl (by kernel_rfl) Tryz.func5 (by kernel_rfl)
    (of_decide_eq_true (by kernel_rfl)) (by unfold Func.isWrapper; first | (rw [if_pos (by decide +kernel)]; kernel_rfl) | (rw [if_neg (by decide +kernel)]; exact ⟨rfl, rfl⟩))
    (fun os started H enc _ => esamelaw_walk_lifted os started H enc)
#print axioms entrySame_holds
end Go.Proofs.YtfplgaeeiglhdaaGreat
