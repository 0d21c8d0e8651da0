/-
  For any entry that may be looked at: Check and Put tell the document's bytes or error.
  Conditions: none.
-/
import Derived.Test.YtfplgaeeiglhdaaGreatEnUZ
import Derived.Test.YtfplgaeeiglhdaaGreatEnRZ
import Derived.Test.YtfplgaeeiglhdaaGreatEnOpZ
import Derived.Test.YtfplgaeeiglhdaaGreatEnTqZ
import Derived.Test.YtfplgaeeiglhdaaGreatEnCqZ
import Derived.Test.YtfplgaeeiglhdaaGreatEnQnZ
namespace Go.Proofs.YtfplgaeeiglhdaaGreat
open Go.ChangeShapes Go.WideShapes Go.ChangeAt Go.RowKit
open Go.ChangeMaps (open_string shut_string)
set_option linter.unusedVariables false
set_option linter.unusedSimpArgs false

/-- The law's two boxes: the entry, and its copy. -/
structure OwnE (w : World) (x : EntC) (b : Nat) (y : EntC) (wx : World) : Prop where
  a : BoxE wx w.heap.size x
  o : BoxE wx b y
  bel : Below w.heap.size w wx
theorem OwnE.step {w wx wy : World} {x y : EntC} {b : Nat} (h : OwnE w x b y wx) (hb : Below wx.heap.size wx wy) : OwnE w x b y wy := ⟨h.a.kept hb (Nat.le_refl _), h.o.kept hb (Nat.le_refl _), h.bel.trans (hb.mono h.bel.size)⟩

set_option maxRecDepth 100000 in
set_option maxHeartbeats 8000000 in
theorem eputs_walk (x : EntC) (w : World) (hp : ShowsE w x) :
    Calls Tryz.prog 3 #[entV x] w fun e w' => e = .returned (.bool true) ∧ Below w.heap.size w w' := by
  have HSM := Lib.hid (fun w' (hw' : Below w.heap.size w w') => esmall_any x w' (hp.kept hw' (Nat.le_refl _)))
  unfold SmallESaid at HSM
  have HH := Lib.hid ehead_any
  have HQP := Lib.hid (fun w' (hw' : Below w.heap.size w w') => qeput_any x w' (hp.kept hw' (Nat.le_refl _)))
  have HCP := Lib.hid (fun (h1 : x.cs.length ≤ 110) (h2 : x.rs.length ≤ 110) (h3 : FewS x.cs) w' (hw' : Below w.heap.size w w') => ecopy_any x w' (hp.kept hw' (Nat.le_refl _)) h1 h2 h3)
  unfold ECopySaid at HCP
  have HYP := Lib.hid (fun y (he : y.e = x.e) (hF : Few y.cs) w2 (hs : ShowsE w2 y) w' (hb : Below w2.heap.size w2 w') => by
    have := eput_any y w' (hs.kept hb (Nat.le_refl _)) hF
    rw [he] at this
    exact this)
  have HYC := Lib.hid (fun y (he : y.e = x.e) (hF : Few y.cs) w2 (hs : ShowsE w2 y) w' (hb : Below w2.heap.size w2 w') => by
    have := echeck_any y w' (hs.kept hb (Nat.le_refl _)) hF
    rw [he] at this
    exact this)
  have HYS := Lib.hid (fun y (he : y.e = x.e) w2 (hs : ShowsE w2 y) w' (hb : Below w2.heap.size w2 w') (hw' : Below w.heap.size w w') => by
    have := qesame_any y x w' (hs.kept hb (Nat.le_refl _)) (hp.kept hw' (Nat.le_refl _))
    rw [he, sameE_refl] at this
    exact this)
  generalize errE x.e = E at *
  generalize putE x.e = S at *
  have hX := BoxE.new (x := x) w
  obtain ⟨k, name, n, xf, xg, xh, A1, c1, cs, A2, c2, rs⟩ := x
  unfold entV at *
  simp only [] at *
  have hB := below_boxV w (Obj.cells #[.int .u8 k, .string name, .int .u64 n, .int .u32 xf, .string xg, .string xh, .slice A1 cs.length c1, .slice A2 rs.length c2] 29)
  obtain ⟨W1, hW1⟩ : ∃ W1, W1 = w.alloc (Obj.cells #[.int .u8 k, .string name, .int .u64 n, .int .u32 xf, .string xg, .string xh, .slice A1 cs.length c1, .slice A2 rs.length c2] 29) := ⟨_, rfl⟩
  rw [← hW1] at hB hX
  have HB := Lib.hid hB
  have HX := Lib.hid hX
  obtain ⟨⟨e0, e1, e2⟩, ⟨e3, e4, e5⟩, e6, e7⟩ := hX.cells
  simp only [] at e0 e1 e2 e3 e4 e5 e6 e7
  clear hp hX hB
  go_enter Tryz.func3, Tryz.ntmps3
  go_upto_region 1 with fail
  rw [← hW1]
  clear hW1
  go_wp2_with fail
  refine (HSM.out _ HB.out).mono ?_
  rintro e w1 ⟨r1', rfl, hr1, hb1⟩
  have hw1 := HB.out.trans (hb1.mono HB.out.size)
  cases r1' with
  | false =>
    go_wp2_with fail
    refine (HH.out _).mono ?_
    rintro e w2 ⟨rfl, hb2⟩
    go_wp2_with fail
    go_ret
    exact ⟨rfl, hw1.trans (hb2.mono hw1.size)⟩
  | true =>
  have HCa := Lib.hid (HCP.out (hr1 (by trivial)).1 (hr1 (by trivial)).2.2 (hr1 (by trivial)).2.1)
  clear hr1 HCP HSM e0 e1 e2 e3 e4 e5 e6 e7
  have hX1 := HX.out.kept hb1 (Nat.le_refl _)
  obtain ⟨⟨e0, e1, e2⟩, ⟨e3, e4, e5⟩, e6, e7⟩ := hX1.cells
  simp only [] at e0 e1 e2 e3 e4 e5 e6 e7
  go_wp2_with fail
  refine (HCa.out _ hw1).mono ?_
  rintro e w2 ⟨y, rfl, hy, hs', hF, hb2⟩
  have hs2 := hs'.sub (low_out _ _)
  have hX2 := hX1.kept hb2 (Nat.le_refl _)
  have hw2 := hw1.trans (hb2.mono hw1.size)
  have HP := Lib.hid (HYP.out y hy hF w2 hs2)
  have HC := Lib.hid (HYC.out y hy hF w2 hs2)
  have HS := Lib.hid (HYS.out y hy w2 hs2)
  clear HYP HYC HYS hy hF hs' hs2 e0 e1 e2 e3 e4 e5 e6 e7 hX1 hb1 hb2 HCa
  obtain ⟨k', name', n', xf', xg', xh', A1', c1', cs', A2', c2', rs'⟩ := y
  try simp only [] at *
  have hB3 := below_boxV w2 (Obj.cells #[.int .u8 k', .string name', .int .u64 n', .int .u32 xf', .string xg', .string xh', .slice A1' cs'.length c1', .slice A2' rs'.length c2'] 29)
  have hO3 := BoxE.new (x := ⟨k', name', n', xf', xg', xh', A1', c1', cs', A2', c2', rs'⟩) w2
  have hX3 := hX2.kept hB3 (Nat.le_refl _)
  have hw3 := hw2.trans (hB3.mono hw2.size)
  have H3 := Lib.hid (And.intro hB3 (OwnE.mk hX3 hO3 hw3))
  clear hB3 hO3 hX3 hw3 hX2 hw2
  go_upto_region 4 with fail
  obtain ⟨hB3, hG⟩ := H3.out
  obtain ⟨W3, hW3⟩ : ∃ W3, W3 = w2.alloc (Obj.cells #[.int .u8 k', .string name', .int .u64 n', .int .u32 xf', .string xg', .string xh', .slice A1' cs'.length c1', .slice A2' rs'.length c2'] 29) := ⟨_, rfl⟩
  try simp only [] at hG hB3
  rw [← hW3] at hB3 hG ⊢
  clear hW3 H3
  obtain ⟨⟨q0, q1, q2⟩, ⟨q3, q4, q5⟩, q6, q7⟩ := hG.o.cells
  simp only [] at q0 q1 q2 q3 q4 q5 q6 q7
  go_wp2_with fail
  refine (HP.out _ hB3).mono ?_
  rintro e w4 ⟨rfl, hb4⟩
  have hG := hG.step hb4
  have hB4 := hB3.trans (hb4.mono hB3.size)
  clear q0 q1 q2 q3 q4 q5 q6 q7
  obtain ⟨⟨p0, p1, p2⟩, ⟨p3, p4, p5⟩, p6, p7⟩ := hG.a.cells
  simp only [] at p0 p1 p2 p3 p4 p5 p6 p7
  go_wp2_with fail
  refine (HQP.out _ hG.bel).mono ?_
  rintro e w5 ⟨rfl, hb5⟩
  have hG := hG.step hb5
  have hB5 := hB4.trans (hb5.mono hB4.size)
  clear p0 p1 p2 p3 p4 p5 p6 p7
  obtain ⟨⟨q0, q1, q2⟩, ⟨q3, q4, q5⟩, q6, q7⟩ := hG.o.cells
  simp only [] at q0 q1 q2 q3 q4 q5 q6 q7
  go_wp2_with fail
  refine (HC.out _ hB5).mono ?_
  rintro e w6 ⟨rfl, hb6⟩
  have hG := hG.step hb6
  have hB6 := hB5.trans (hb6.mono hB5.size)
  clear q0 q1 q2 q3 q4 q5 q6 q7
  obtain ⟨⟨p0, p1, p2⟩, ⟨p3, p4, p5⟩, p6, p7⟩ := hG.a.cells
  simp only [] at p0 p1 p2 p3 p4 p5 p6 p7
  obtain ⟨⟨q0, q1, q2⟩, ⟨q3, q4, q5⟩, q6, q7⟩ := hG.o.cells
  simp only [] at q0 q1 q2 q3 q4 q5 q6 q7
  go_wp2_with fail
  refine (HS.out _ hB6 hG.bel).mono ?_
  rintro e w7 ⟨rfl, hb7⟩
  have hG := hG.step hb7
  clear p0 p1 p2 p3 p4 p5 p6 p7 q0 q1 q2 q3 q4 q5 q6 q7
  go_wp2_with fail
  refine (HH.out _).mono ?_
  rintro e w8 ⟨rfl, hb8⟩
  have hG := hG.step hb8
  go_wp2_with fail
  go_ret
  exact ⟨rfl, hG.bel⟩

set_option maxRecDepth 100000 in
set_option maxHeartbeats 1000000 in
theorem eputs_walk_lifted (os : Os) (started : os.Started) (H : Type) (enc : TypeId × Value → H) :
    ReturnsInHanded {} Tryz.checked os 3 .any (Rows.entryPutsSpec.pre6 enc Tryz.prog Tryz.f3 Rows.entryPutsRow.domain false) (Rows.entryPutsSpec.post enc Tryz.prog Tryz.f3 false true false false) := by
  refine returnsInHanded_of_change_sized (C := Tryz.checked) own started (by kernel_rfl) Tryz.func3
    (ChangeSpec.witness6 (enc := enc) (C := Tryz.checked) false ⟨#[], #[.agg #[.int .u8 0, .string ⟨#[]⟩, .int .u64 0, .int .u32 0, .string ⟨#[]⟩, .string ⟨#[]⟩, .slice none 0 0, .slice none 0 0]], []⟩ 8 (by kernel_rfl) (by kernel_rfl) (by kernel_rfl) (by kernel_rfl)) ?_
  intro W base args ds gs before hval0 hW hcnd hsz0 _
  have hval : ∀ (j : Nat) t v, Tryz.f3.params[j]? = some t → args[j]? = some v → Value.okWide Tryz.prog W .any base t v := hval0
  have hsz : (DataW.weightsEach Tryz.prog (Tryz.f3.params.toList ++ Rows.entryPutsSpec.plain.varTypes Tryz.prog) (ds ++ gs)).all (· ≤ reachBytes) = true := hsz0
  have hW' := hW
  obtain ⟨p, q, hA0, hV, rfl, hfz, hnd⟩ := hW
  have hA : DataW.TrodAll enc Tryz.prog W 0 (fun _ => true) true Tryz.f3.params.toList args.toList ds p := hA0
  rw [Tryz.params3] at hA hval hsz
  obtain ⟨v0, vs0, d0, ds0, p0, q0, hargs, rfl, rfl, h0, r0⟩ := trodAll_cons hA
  obtain ⟨rfl, rfl, rfl⟩ := trodAll_nil r0
  obtain rfl : args = #[v0] := by cases args; simp_all
  obtain ⟨rfl, rfl⟩ := trodVars_none hV
  have k0 := h0
  have lt0 : ∀ x ∈ p0, x.block < W.heap.size := by obtain ⟨m, hm⟩ := k0; exact DataW.trod_lt m _ _ _ hm
  obtain ⟨X0, rfl, sh0⟩ := open_entry (hval 0 29 v0 rfl rfl) h0 hsz 0 rfl rfl
  clear hA0 hval0
  refine (eputs_walk X0 W sh0).mono fun e W' ⟨he, bel⟩ => ?_
  subst he
  exact ⟨_, rfl, _, _, _, [], _, [], hW', trodAll_mk1 (shut_bool Tryz.underlying4 _), (trodAll_cons_mk (Below.trod laidOut (by kernel_rfl) (of_decide_eq_true (by kernel_rfl)) k0 bel lt0) trodAll_mk0), rfl, bel.frame _, fun h => by cases h⟩

theorem entryPuts_holds : Rows.EntryPutsSaid :=
  OpenClaim.holds_of_wide 3 Tryz.f3 rfl rfl rfl rfl rfl rfl rfl ⟨rfl, rfl, rfl, rfl, rfl⟩ rfl rfl rfl rfl rfl (by kernel_rfl) Tryz.func3 (by kernel_rfl)
    (of_decide_eq_true (by kernel_rfl)) (by unfold Func.isWrapper; first | (rw [if_pos (by decide +kernel)]; kernel_rfl) | (rw [if_neg (by decide +kernel)]; exact ⟨rfl, rfl⟩))
    (fun os started H enc _ => eputs_walk_lifted os started H enc)
#print axioms entryPuts_holds
end Go.Proofs.YtfplgaeeiglhdaaGreat
