/-
  For any entry and any text of at most 30000 bytes: Get of Put is the entry, and Put of what Get takes is the text.
  Conditions: none.
-/
import Derived.Deep.RegionHeld3
import Derived.Test.YtfplgaeeiglhdaaGreatEnUZ
import Derived.Test.YtfplgaeeiglhdaaGreatEnRZ
import Derived.Test.YtfplgaeeiglhdaaGreatEnOpZ
namespace Go.Proofs.YtfplgaeeiglhdaaGreat
open Go.ChangeShapes Go.WideShapes Go.ChangeAt Go.RowKit
open Go.ChangeMaps (open_string shut_string)
set_option linter.unusedVariables false
set_option linter.unusedSimpArgs false

/-- One entry in a box at b. -/
structure OneE (w : World) (b : Nat) (x : EntC) (wx : World) : Prop where
  box : BoxE wx b x
  bel : Below w.heap.size w wx
theorem OneE.step {w wx wy : World} {b : Nat} {x : EntC} (h : OneE w b x wx) (hb : Below wx.heap.size wx wy) : OneE w b x wy := ⟨h.box.kept hb (Nat.le_refl _), h.bel.trans (hb.mono h.bel.size)⟩
/-- An entry that was just told, laid in a box. -/
theorem told {w w2 : World} {b : Nat} {x y : EntC} {B : Nat} (h : OneE w b x w2) (hs : ShowsE (lowm B w2) y) :
    OneE w b x (w2.alloc (Obj.cells #[.int .u8 y.k, .string y.name, .int .u64 y.n, .int .u32 y.xf, .string y.xg, .string y.xh, .slice y.A1 y.cs.length y.c1, .slice y.A2 y.rs.length y.c2] 29)) ∧ BoxE (w2.alloc (Obj.cells #[.int .u8 y.k, .string y.name, .int .u64 y.n, .int .u32 y.xf, .string y.xg, .string y.xh, .slice y.A1 y.cs.length y.c1, .slice y.A2 y.rs.length y.c2] 29)) w2.heap.size y ∧
    ShowsE (w2.alloc (Obj.cells #[.int .u8 y.k, .string y.name, .int .u64 y.n, .int .u32 y.xf, .string y.xg, .string y.xh, .slice y.A1 y.cs.length y.c1, .slice y.A2 y.rs.length y.c2] 29)) y :=
  ⟨h.step (below_boxV _ _), BoxE.new w2, (hs.sub (low_out _ _)).kept (below_boxV _ _) (Nat.le_refl _)⟩

theorem errE_zero' {e : EntE} (h : errE e = 0) : validE e := by
  by_cases hv : validE e
  · exact hv
  · rw [errE_no hv] at h; cases h

set_option maxRecDepth 100000 in
set_option maxHeartbeats 8000000 in
theorem eback_walk (x : EntC) (s : ByteArray) (w : World) (hp : ShowsE w x) (hz : s.size ≤ 140737488351232) :
    Calls Tryz.prog 6 #[entV x, .string s] w fun e w' => e = .returned (.bool true) ∧ Below w.heap.size w w' := by
  have HSM := Lib.hid (fun w' (hw' : Below w.heap.size w w') => esmall_any x w' (hp.kept hw' (Nat.le_refl _)))
  unfold SmallESaid at HSM
  have HH := Lib.hid ehead_any
  have HP := Lib.hid (fun (hc : Few x.cs) w' (hw' : Below w.heap.size w w') => eput_any x w' (hp.kept hw' (Nat.le_refl _)) hc)
  have HPY := Lib.hid (fun y w' (h : ShowsE w' y) (hf : Few y.cs) => eput_any y w' h hf)
  have HSX := Lib.hid (fun (hc : Few x.cs) y (hf : Few y.cs) (hxe : x.e = y.e) w' (hw' : Below w.heap.size w w') (h : ShowsE w' y) => by
    have := esame_any y x w' h (hp.kept hw' (Nat.le_refl _)) hf
    rw [hxe, sameE_refl] at this
    exact this)
  have hg1 : errE x.e = 0 → (putE x.e).size ≤ 140737488351232 ∧ getE (sb (putE x.e)) = some x.e := fun h => by
    have hv := errE_zero' h
    rw [putE_ok hv, str8_size, sb_str8]
    exact ⟨Nat.le_trans (encE_le hv) (by decide), getE_enc hv hp.xf⟩
  have HG1 := Lib.hid (fun (h : errE x.e = 0) w' => (eget_any (putE x.e) w' (hg1 h).1))
  have HGE := Lib.hid (fun (h : errE x.e = 0) => (hg1 h).2)
  have HG2 := Lib.hid (fun w' => eget_any s w' hz)
  have HGS := Lib.hid (fun y (h : getE (sb s) = some y) => getE_some h)
  unfold EGetSaid at HG1 HG2
  have hX0 := BoxE.new (x := x) w
  have hB0 := below_boxV w (Obj.cells #[.int .u8 x.k, .string x.name, .int .u64 x.n, .int .u32 x.xf, .string x.xg, .string x.xh, .slice x.A1 x.cs.length x.c1, .slice x.A2 x.rs.length x.c2] 29)
  have H0 := Lib.hid (OneE.mk hX0 hB0)
  have hst : s.toList = sb s := sb_toList s
  have HST := Lib.hid hst
  clear hst hg1
  generalize hE : errE x.e = E1 at *
  generalize hS : putE x.e = S1 at *
  generalize hxe : x.e = xe at *
  have HXE := Lib.hid hxe
  clear hE hS hxe
  obtain ⟨k, name, n, xf, xg, xh, A1, c1, cs, A2, c2, rs⟩ := x
  unfold entV at *
  simp only [] at *
  obtain ⟨⟨p0, p1, p2⟩, ⟨p3, p4, p5⟩, p6, p7⟩ := hX0.cells
  simp only [] at p0 p1 p2 p3 p4 p5 p6 p7
  clear hX0 hB0 hp
  go_enter Tryz.func6, Tryz.ntmps6
  go_wp2_with fail
  have hG := H0.out
  clear H0 p0 p1 p2 p3 p4 p5 p6 p7
  refine (HSM.out _ hG.bel).mono ?_
  rintro e w1 ⟨r1', rfl, hr1, hb1⟩
  have hG := hG.step hb1
  cases r1' with
  | false =>
    go_wp2_with fail
    refine (HH.out _).mono ?_
    rintro e w2 ⟨rfl, hb2⟩
    have hG := hG.step hb2
    go_wp2_with fail
    go_ret
    exact ⟨rfl, hG.bel⟩
  | true =>
  by_cases hlen : s.size ≤ 30000
  case neg =>
    have t1 : decide ((30000 : Int) < (s.size : Int)) = true := by simp; omega
    go_wp2_with fail
    refine (HH.out _).mono ?_
    rintro e w2 ⟨rfl, hb2⟩
    have hG := hG.step hb2
    go_wp2_with fail
    go_ret
    exact ⟨rfl, hG.bel⟩
  have t1 : decide ((30000 : Int) < (s.size : Int)) = false := by simp; omega
  have HFX := Lib.hid (hr1 rfl).2.1.few
  have HPa := Lib.hid (HP.out HFX.out)
  clear hr1 HP HSM hlen
  obtain ⟨⟨p0, p1, p2⟩, ⟨p3, p4, p5⟩, p6, p7⟩ := hG.box.cells
  simp only [] at p0 p1 p2 p3 p4 p5 p6 p7
  go_wp2_with fail
  refine (HPa.out _ hG.bel).mono ?_
  rintro e w3 ⟨rfl, hb3⟩
  have hG := hG.step hb3
  clear p0 p1 p2 p3 p4 p5 p6 p7 t1
  --BACK--
  have HSZ := Lib.hid (fun w' => by
    have := esame_any zC zC w' (zC_shows _) (zC_shows _) zC_few
    rw [sameE_refl] at this
    exact this)
  unfold entV zC at HSZ
  simp only [] at HSZ
  by_cases hc1 : E1 = 0
  · have hcI : ((E1 : Int) == 0) = true := by simp; omega
    have HGA := Lib.hid (HG1.out hc1)
    have hge := HGE.out hc1
    clear hc1 HG1 HGE
    go_wp2_with fail
    refine (HGA.out _).mono ?_
    rintro e w4 ⟨y, F, rfl, hsy, hfy, hb4, hor⟩
    have hG := hG.step hb4
    obtain ⟨hG5, hY5, hs5⟩ := told hG hsy
    obtain ⟨hye, rfl⟩ : xe = y.e ∧ F = 0 := by
      rcases hor with h | h
      · rw [hge] at h; exact absurd h.1 (by simp)
      · rw [hge] at h; exact ⟨Option.some.inj h.1, h.2⟩
    have HSY := Lib.hid (HSX.out HFX.out y hfy hye _ hG5.bel hs5)
    have HG5 := Lib.hid hG5
    have hX5 := hG5.box.cells
    have hY := hY5.cells
    clear hor hge hye hsy hfy hb4 hs5 hG5 hY5 hG HSX HFX
    obtain ⟨yk, yname, yn, yxf, yxg, yxh, yA1, yc1, ycs, yA2, yc2, yrs⟩ := y
    simp only [] at hX5 hY HSY HG5
    obtain ⟨⟨p0, p1, p2⟩, ⟨p3, p4, p5⟩, p6, p7⟩ := hX5
    obtain ⟨⟨q0, q1, q2⟩, ⟨q3, q4, q5⟩, q6, q7⟩ := hY
    go_wp2_with fail
    refine HSY.out.mono ?_
    rintro e w6 ⟨rfl, hb6⟩
    have hG := HG5.out.step hb6
    clear p0 p1 p2 p3 p4 p5 p6 p7 q0 q1 q2 q3 q4 q5 q6 q7 HSY HG5
    go_wp2_with fail
    refine (HG2.out _).mono ?_
    rintro e w7 ⟨z, F, rfl, hsz, hfz, hb7, hor⟩
    have hG := hG.step hb7
    obtain ⟨hG8, hZ8, hs8⟩ := told hG hsz
    rcases hor with ⟨hn, rfl, rfl⟩ | ⟨hn, rfl⟩
    · have HG8 := Lib.hid hG8
      have hz := hZ8.cells
      unfold zC at hz hG8 hZ8
      simp only [] at hz
      obtain ⟨⟨z0, z1, z2⟩, ⟨z3, z4, z5⟩, z6, z7⟩ := hz
      clear hG8 hZ8 hs8 hsz hfz hb7 hn hG
      unfold zC
      simp only []
      go_wp2_with fail
      refine (HSZ.out _).mono ?_
      rintro e w9 ⟨rfl, hb9⟩
      have hG9 := HG8.out.step hb9
      go_wp2_with fail
      refine (HH.out _).mono ?_
      rintro e w10 ⟨rfl, hb10⟩
      have hG10 := hG9.step hb10
      go_wp2_with fail
      go_ret
      exact ⟨rfl, hG10.bel⟩
    · obtain ⟨hzv, hze, _⟩ := HGS.out _ hn
      have hpz := HPY.out z _ hs8 hfz
      rw [putE_ok hzv, errE_ok hzv, hze, str8_sb] at hpz
      have HPZ := Lib.hid hpz
      have HG8 := Lib.hid hG8
      clear hpz hzv hze hn hG8 hs8 hsz hfz hb7 hG
      obtain ⟨zk, zname, zn, zxf, zxg, zxh, zA1, zc1, zcs, zA2, zc2, zrs⟩ := z
      have hz := hZ8.cells
      simp only [] at hz HPZ HG8
      obtain ⟨⟨z0, z1, z2⟩, ⟨z3, z4, z5⟩, z6, z7⟩ := hz
      clear hZ8
      go_wp2_with fail
      refine HPZ.out.mono ?_
      rintro e w9 ⟨rfl, hb9⟩
      have hG9 := HG8.out.step hb9
      have hss : (s.toList == s.toList) = true := by simp
      clear z0 z1 z2 z3 z4 z5 z6 z7
      go_wp2_with fail
      refine (HH.out _).mono ?_
      rintro e w10 ⟨rfl, hb10⟩
      have hG10 := hG9.step hb10
      go_wp2_with fail
      go_ret
      exact ⟨rfl, hG10.bel⟩
  · have hcI : ((E1 : Int) == 0) = false := by simp; omega
    clear hc1 HG1 HGE HSX HFX
    go_wp2_with fail
    refine (HG2.out _).mono ?_
    rintro e w7 ⟨z, F, rfl, hsz, hfz, hb7, hor⟩
    have hG := hG.step hb7
    obtain ⟨hG8, hZ8, hs8⟩ := told hG hsz
    rcases hor with ⟨hn, rfl, rfl⟩ | ⟨hn, rfl⟩
    · have HG8 := Lib.hid hG8
      have hz := hZ8.cells
      unfold zC at hz hG8 hZ8
      simp only [] at hz
      obtain ⟨⟨z0, z1, z2⟩, ⟨z3, z4, z5⟩, z6, z7⟩ := hz
      clear hG8 hZ8 hs8 hsz hfz hb7 hn hG
      unfold zC
      simp only []
      go_wp2_with fail
      refine (HSZ.out _).mono ?_
      rintro e w9 ⟨rfl, hb9⟩
      have hG9 := HG8.out.step hb9
      go_wp2_with fail
      refine (HH.out _).mono ?_
      rintro e w10 ⟨rfl, hb10⟩
      have hG10 := hG9.step hb10
      go_wp2_with fail
      go_ret
      exact ⟨rfl, hG10.bel⟩
    · obtain ⟨hzv, hze, _⟩ := HGS.out _ hn
      have hpz := HPY.out z _ hs8 hfz
      rw [putE_ok hzv, errE_ok hzv, hze, str8_sb] at hpz
      have HPZ := Lib.hid hpz
      have HG8 := Lib.hid hG8
      clear hpz hzv hze hn hG8 hs8 hsz hfz hb7 hG
      obtain ⟨zk, zname, zn, zxf, zxg, zxh, zA1, zc1, zcs, zA2, zc2, zrs⟩ := z
      have hz := hZ8.cells
      simp only [] at hz HPZ HG8
      obtain ⟨⟨z0, z1, z2⟩, ⟨z3, z4, z5⟩, z6, z7⟩ := hz
      clear hZ8
      go_wp2_with fail
      refine HPZ.out.mono ?_
      rintro e w9 ⟨rfl, hb9⟩
      have hG9 := HG8.out.step hb9
      have hss : (s.toList == s.toList) = true := by simp
      clear z0 z1 z2 z3 z4 z5 z6 z7
      go_wp2_with fail
      refine (HH.out _).mono ?_
      rintro e w10 ⟨rfl, hb10⟩
      have hG10 := hG9.step hb10
      go_wp2_with fail
      go_ret
      exact ⟨rfl, hG10.bel⟩

set_option maxRecDepth 100000 in
set_option maxHeartbeats 1000000 in
theorem eback_walk_lifted (os : Os) (started : os.Started) (H : Type) (enc : TypeId × Value → H) :
    ReturnsInHanded {} Tryz.checked os 6 .any (Rows.entryBackSpec.pre6 enc Tryz.prog Tryz.f6 Rows.entryBackRow.domain false) (Rows.entryBackSpec.post enc Tryz.prog Tryz.f6 false true false false) := by
  refine returnsInHanded_of_change_sized (C := Tryz.checked) own started (by kernel_rfl) Tryz.func6
    (ChangeSpec.witness6 (enc := enc) (C := Tryz.checked) false ⟨#[], #[.agg #[.int .u8 0, .string ⟨#[]⟩, .int .u64 0, .int .u32 0, .string ⟨#[]⟩, .string ⟨#[]⟩, .slice none 0 0, .slice none 0 0], .string ⟨#[]⟩], []⟩ 8 (by kernel_rfl) (by kernel_rfl) (by kernel_rfl) (by kernel_rfl)) ?_
  intro W base args ds gs before hval0 hW hcnd hsz0 _
  have hval : ∀ (j : Nat) t v, Tryz.f6.params[j]? = some t → args[j]? = some v → Value.okWide Tryz.prog W .any base t v := hval0
  have hsz : (DataW.weightsEach Tryz.prog (Tryz.f6.params.toList ++ Rows.entryBackSpec.plain.varTypes Tryz.prog) (ds ++ gs)).all (· ≤ reachBytes) = true := hsz0
  have hW' := hW
  obtain ⟨p, q, hA0, hV, rfl, hfz, hnd⟩ := hW
  have hA : DataW.TrodAll enc Tryz.prog W 0 (fun _ => true) true Tryz.f6.params.toList args.toList ds p := hA0
  rw [Tryz.params6] at hA hval hsz
  obtain ⟨v0, vs0, d0, ds0, p0, q0, hargs, rfl, rfl, h0, r0⟩ := trodAll_cons hA
  obtain ⟨v1, vs1, d1, ds1, p1, q1, rfl, rfl, rfl, h1, r1⟩ := trodAll_cons r0
  obtain ⟨rfl, rfl, rfl⟩ := trodAll_nil r1
  obtain rfl : args = #[v0, v1] := by cases args; simp_all
  obtain ⟨rfl, rfl⟩ := trodVars_none hV
  have k0 := h0
  have lt0 : ∀ x ∈ p0, x.block < W.heap.size := by obtain ⟨m, hm⟩ := k0; exact DataW.trod_lt m _ _ _ hm
  have k1 := h1
  have lt1 : ∀ x ∈ p1, x.block < W.heap.size := by obtain ⟨m, hm⟩ := k1; exact DataW.trod_lt m _ _ _ hm
  obtain ⟨X0, rfl, sh0⟩ := open_entry (hval 0 29 v0 rfl rfl) h0 hsz 0 rfl rfl
  obtain ⟨s1, rfl, rfl, rfl, _⟩ := open_string Tryz.underlying9 (hval 1 9 v1 rfl rfl) h1
  have zs1 := sized_string hsz (j := 1) (t := 9) rfl rfl
  have zt1 : s1.size ≤ 140737488351232 := by rw [← sb_length]; exact zs1
  clear hA0 hval0
  refine (eback_walk X0 s1 W sh0 zt1).mono fun e W' ⟨he, bel⟩ => ?_
  subst he
  exact ⟨_, rfl, _, _, _, [], _, [], hW', trodAll_mk1 (shut_bool Tryz.underlying4 _), (trodAll_cons_mk (Below.trod laidOut (by kernel_rfl) (of_decide_eq_true (by kernel_rfl)) k0 bel lt0) (trodAll_cons_mk (Below.trod laidOut (by kernel_rfl) (of_decide_eq_true (by kernel_rfl)) k1 bel lt1) trodAll_mk0)), rfl, bel.frame _, fun h => by cases h⟩

theorem entryBack_holds : Rows.EntryBackSaid :=
  OpenClaim.holds_of_wide 6 Tryz.f6 rfl rfl rfl rfl rfl rfl rfl ⟨rfl, rfl, rfl, rfl, rfl⟩ rfl rfl rfl rfl rfl (by kernel_rfl) Tryz.func6 (by kernel_rfl)
    (of_decide_eq_true (by kernel_rfl)) (by unfold Func.isWrapper; first | (rw [if_pos (by decide +kernel)]; kernel_rfl) | (rw [if_neg (by decide +kernel)]; exact ⟨rfl, rfl⟩))
    (fun os started H enc _ => eback_walk_lifted os started H enc)
#print axioms entryBack_holds
end Go.Proofs.YtfplgaeeiglhdaaGreat
