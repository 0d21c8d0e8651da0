/-
  Do and Prep of works tell what the document says.
  Conditions: none.
-/
import Derived.Test.YtpmafabphlejeaaGreatRows
import Derived.Test.YtpmafabphlejeaaGreatWqEZ
import Derived.Test.YtpmafabphlejeaaGreatWkLZ
import Derived.Test.YtpmafabphlejeaaGreatWOpZ
namespace Go.Proofs.YtpmafabphlejeaaGreat
open Go.ChangeShapes Go.WideShapes Go.ChangeAt Go.RowKit
set_option linter.unusedVariables false
set_option linter.unusedSimpArgs false
set_option maxRecDepth 100000

structure AtW (w0 : World) (v1 v2 : Value) (f : Nat) (g h : ByteArray) (w : World) : Prop where
  a : BoxK w w0.heap.size v1 v2
  x : BoxX w (w0.heap.size + 1) f g h
  bel : Below w0.heap.size w0 w
section
variable {w0 w w' : World} {v1 v2 : Value} {f : Nat} {g h : ByteArray}
theorem AtW.step (hh : AtW w0 v1 v2 f g h w) (hb : Below w.heap.size w w') : AtW w0 v1 v2 f g h w' := ⟨hh.a.kept hb (Nat.le_refl _), hh.x.kept hb (Nat.le_refl _), hh.bel.trans (hb.mono hh.bel.size)⟩
theorem AtW.cs (hh : AtW w0 v1 v2 f g h w) : (w.cell? ⟨w0.heap.size, 0, none⟩ = some v1 ∧ w.cell? ⟨w0.heap.size, 1, none⟩ = some v2) ∧ w.cell? ⟨w0.heap.size + 1, 0, none⟩ = some (.int .u32 f) ∧ w.cell? ⟨w0.heap.size + 1, 1, none⟩ = some (.string g) ∧ w.cell? ⟨w0.heap.size + 1, 2, none⟩ = some (.string h) := ⟨⟨hh.a.c0, hh.a.c1⟩, hh.x.cs⟩
theorem AtW.new (w : World) (v1 v2 : Value) (f : Nat) (g h : ByteArray) : AtW w v1 v2 f g h ((w.alloc (Obj.cells #[v1, v2] 25)).alloc (Obj.cells #[.int .u32 f, .string g, .string h] 55)) := by
  refine ⟨(BoxK.new w v1 v2).kept ((Below.refl _ _).alloc (Nat.le_refl _) _) (Nat.le_refl _), ?_, (below_boxV _ _).alloc (by simp) _⟩
  have : BoxX ((w.alloc (Obj.cells #[v1, v2] 25)).alloc (Obj.cells #[.int .u32 f, .string g, .string h] 55)) (w.alloc (Obj.cells #[v1, v2] 25)).heap.size f g h := heap_alloc_new _ _
  rw [World.size_alloc] at this
  exact this
end
/-- An entry in a box of the call's own, with all that it shows. -/
def EntAt (w : World) (b : Nat) (z : EntC) : Prop := BoxE w b z ∧ ShowsE w z ∧ FewS z.cs
theorem EntAt.kept {w w' : World} {b : Nat} {z : EntC} (h : EntAt w b z) (hb : Below w.heap.size w w') : EntAt w' b z := ⟨h.1.kept hb (Nat.le_refl _), h.2.1.kept hb (Nat.le_refl _), h.2.2⟩
theorem EntAt.new {w : World} {z : EntC} (hs : ShowsE w z) (hf : FewS z.cs) : EntAt (w.alloc (Obj.cells #[.int .u8 z.k, .string z.name, .int .u64 z.n, .int .u32 z.xf, .string z.xg, .string z.xh, .slice z.A1 z.cs.length z.c1, .slice z.A2 z.rs.length z.c2] 57)) w.heap.size z := ⟨BoxE.new w, hs.kept ((Below.refl _ _).alloc (Nat.le_refl _) _) (Nat.le_refl _), hf⟩

set_option maxHeartbeats 8000000 in
theorem wtells_walk (x : WorkC) (N f : Nat) (g h : ByteArray) (w : World) (hx : ShowsW w x) (hN : N < 18446744073709551616) (hfl : f < 4294967296) (hg : g.size ≤ 140737488351232) (hh : h.size ≤ 140737488351232) :
    Calls Tryz.prog 4 #[workVal x, .int .u64 N, xidV f g h] w fun e w' => e = .returned (.bool true) ∧ Below w.heap.size w w' := by
  have HSM := Lib.hid (fun w' (hb : Below w.heap.size w w') => qsmallw_any x w' (hx.kept hb (Nat.le_refl _)))
  have HHD := Lib.hid (fun w' => whead_any w')
  have HSH := Lib.hid hx
  have HFL := Lib.hid (And.intro hN (And.intro hfl (And.intro hg hh)))
  obtain ⟨v1, hv1⟩ : ∃ v1, v1 = Value.slice x.A1 x.cs.length x.c1 := ⟨_, rfl⟩
  obtain ⟨v2, hv2⟩ : ∃ v2, v2 = Value.slice x.A2 x.rs.length x.c2 := ⟨_, rfl⟩
  have hwv : workVal x = .agg #[.slice x.A1 x.cs.length x.c1, .slice x.A2 x.rs.length x.c2] := rfl
  unfold xidV
  rw [hwv] at HSM ⊢
  have hA := AtW.new w (.slice x.A1 x.cs.length x.c1) (.slice x.A2 x.rs.length x.c2) f g h
  obtain ⟨W1, hW1⟩ : ∃ W1, W1 = (w.alloc (Obj.cells #[.slice x.A1 x.cs.length x.c1, .slice x.A2 x.rs.length x.c2] 25)).alloc (Obj.cells #[.int .u32 f, .string g, .string h] 55) := ⟨_, rfl⟩
  rw [← hW1] at hA
  obtain ⟨⟨k0, k1⟩, k2, k3, k4⟩ := hA.cs
  have HA := Lib.hid hA
  have HW1 := Lib.hid hW1.symm
  clear hA hW1 hv1 hv2 v1 v2 hwv hx hN hfl hg hh
  go_enter Tryz.func4, Tryz.ntmps4
  go_upto_region 1 with fail
  rw [HW1.out]
  go_wp2_with fail
  refine (HSM.out _ HA.out.bel).mono ?_
  rintro e w2 ⟨r, rfl, hr, hb2⟩
  have hA2 := HA.out.step hb2
  clear k0 k1 k2 k3 k4
  cases r
  case false =>
    have HB2 := Lib.hid hA2.bel
    clear hr hb2 hA2
    go_wp2_with fail
    refine (HHD.out _).mono ?_
    rintro e w3 ⟨rfl, hb3⟩
    have HB3 := Lib.hid (HB2.out.trans (hb3.mono HB2.out.size))
    clear hb3
    go_wp2_with fail
    go_ret
    exact ⟨rfl, HB3.out⟩
  obtain ⟨hl1, hf1, hl2⟩ := hr rfl
  have HD := Lib.hid (fun w' (hb : Below w.heap.size w w') => do_any x N w' (HSH.out.kept hb (Nat.le_refl _)) hf1 HFL.out.1)
  have HQD := Lib.hid (fun w' (hb : Below w.heap.size w w') => qdo_any x N w' (HSH.out.kept hb (Nat.le_refl _)) hl1 hl2 hf1 HFL.out.1)
  have HP := Lib.hid (fun w' (hb : Below w.heap.size w w') => prep_any x f g h w' (HSH.out.kept hb (Nat.le_refl _)) hf1 HFL.out.2.1 HFL.out.2.2.1 HFL.out.2.2.2)
  have HQP := Lib.hid (fun w' (hb : Below w.heap.size w w') => qprep_any x f g h w' (HSH.out.kept hb (Nat.le_refl _)) hl1 hl2 hf1 HFL.out.2.1 HFL.out.2.2.1 HFL.out.2.2.2)
  unfold EntSaid workVal at HD HQD HP HQP
  generalize doneE x.ps x.rs N = D1 at *
  generalize errD x.ps x.rs N = E1 at *
  generalize prepdE x.ps x.rs f g h = D2 at *
  generalize errP2 x.ps x.rs g h = E2 at *
  obtain ⟨⟨k0, k1⟩, k2, k3, k4⟩ := hA2.cs
  have HA2 := Lib.hid hA2
  clear hr hb2 hA2 hl1 hl2 hf1
  go_wp2_with fail
  refine (HD.out _ HA2.out.bel).mono ?_
  rintro e w3 ⟨z1, rfl, hz1, hzs1, hzf1, hb3⟩
  unfold entV
  obtain ⟨W3, hW3⟩ : ∃ W3, W3 = w3.alloc (Obj.cells #[.int .u8 z1.k, .string z1.name, .int .u64 z1.n, .int .u32 z1.xf, .string z1.xg, .string z1.xh, .slice z1.A1 z1.cs.length z1.c1, .slice z1.A2 z1.rs.length z1.c2] 57) := ⟨_, rfl⟩
  have hE1 : EntAt W3 w3.heap.size z1 := by rw [hW3]; exact EntAt.new hzs1 hzf1
  have hA3 := (HA2.out.step hb3).step (show Below w3.heap.size w3 W3 by rw [hW3]; exact below_boxV w3 _)
  clear k0 k1 k2 k3 k4
  obtain ⟨⟨k0, k1⟩, k2, k3, k4⟩ := hA3.cs
  have HA3 := Lib.hid (And.intro hA3 (And.intro hE1 hz1))
  have HW3 := Lib.hid hW3.symm
  clear hA3 hE1 hz1 hzs1 hzf1 hb3 hW3
  go_upto_region 4 with fail
  rw [HW3.out]
  go_wp2_with fail
  refine (HQD.out _ HA3.out.1.bel).mono ?_
  rintro e w4 ⟨z2, rfl, hz2, hzs2, hzf2, hb4⟩
  unfold entV
  obtain ⟨W4, hW4⟩ : ∃ W4, W4 = w4.alloc (Obj.cells #[.int .u8 z2.k, .string z2.name, .int .u64 z2.n, .int .u32 z2.xf, .string z2.xg, .string z2.xh, .slice z2.A1 z2.cs.length z2.c1, .slice z2.A2 z2.rs.length z2.c2] 57) := ⟨_, rfl⟩
  have hE2 : EntAt W4 w4.heap.size z2 := by rw [hW4]; exact EntAt.new hzs2 hzf2
  have hb34 : Below W3.heap.size W3 W4 := hb4.trans ((show Below w4.heap.size w4 W4 by rw [hW4]; exact below_boxV w4 _).mono hb4.size)
  have hA4 := HA3.out.1.step hb34
  clear k0 k1 k2 k3 k4
  obtain ⟨⟨k0, k1⟩, k2, k3, k4⟩ := hA4.cs
  have HA4 := Lib.hid (And.intro hA4 (And.intro (HA3.out.2.1.kept hb34) (And.intro hE2 hz2)))
  have HW4 := Lib.hid hW4.symm
  clear hA4 hE2 hz2 hzs2 hzf2 hb4 hb34 hW4
  go_upto_region 5 with fail
  rw [HW4.out]
  go_wp2_with fail
  refine (HP.out _ HA4.out.1.bel).mono ?_
  rintro e w5 ⟨z3, rfl, hz3, hzs3, hzf3, hb5⟩
  unfold entV
  obtain ⟨W5, hW5⟩ : ∃ W5, W5 = w5.alloc (Obj.cells #[.int .u8 z3.k, .string z3.name, .int .u64 z3.n, .int .u32 z3.xf, .string z3.xg, .string z3.xh, .slice z3.A1 z3.cs.length z3.c1, .slice z3.A2 z3.rs.length z3.c2] 57) := ⟨_, rfl⟩
  have hE3 : EntAt W5 w5.heap.size z3 := by rw [hW5]; exact EntAt.new hzs3 hzf3
  have hb45 : Below W4.heap.size W4 W5 := hb5.trans ((show Below w5.heap.size w5 W5 by rw [hW5]; exact below_boxV w5 _).mono hb5.size)
  have hA5 := HA4.out.1.step hb45
  clear k0 k1 k2 k3 k4
  obtain ⟨⟨k0, k1⟩, k2, k3, k4⟩ := hA5.cs
  have HA5 := Lib.hid (And.intro hA5 (And.intro (HA4.out.2.1.kept hb45) (And.intro (HA4.out.2.2.1.kept hb45) (And.intro hE3 hz3))))
  have HW5 := Lib.hid hW5.symm
  clear hA5 hE3 hz3 hzs3 hzf3 hb5 hb45 hW5
  go_upto_region 6 with fail
  rw [HW5.out]
  go_wp2_with fail
  refine (HQP.out _ HA5.out.1.bel).mono ?_
  rintro e w6 ⟨z4, rfl, hz4, hzs4, hzf4, hb6⟩
  unfold entV
  obtain ⟨W6, hW6⟩ : ∃ W6, W6 = w6.alloc (Obj.cells #[.int .u8 z4.k, .string z4.name, .int .u64 z4.n, .int .u32 z4.xf, .string z4.xg, .string z4.xh, .slice z4.A1 z4.cs.length z4.c1, .slice z4.A2 z4.rs.length z4.c2] 57) := ⟨_, rfl⟩
  have hE4 : EntAt W6 w6.heap.size z4 := by rw [hW6]; exact EntAt.new hzs4 hzf4
  have hb56 : Below W5.heap.size W5 W6 := hb6.trans ((show Below w6.heap.size w6 W6 by rw [hW6]; exact below_boxV w6 _).mono hb6.size)
  have hA6 := HA5.out.1.step hb56
  have h1 := HA5.out.2.1.kept hb56
  have h2 := HA5.out.2.2.1.kept hb56
  have h3 := HA5.out.2.2.2.1.kept hb56
  have HSA := Lib.hid (fun w' (hb : Below W6.heap.size W6 w') => qesame_any z1 z2 w' (h1.2.1.kept hb (Nat.le_refl _)) (h2.2.1.kept hb (Nat.le_refl _)))
  have HSB := Lib.hid (fun w' (hb : Below W6.heap.size W6 w') => qesame_any z3 z4 w' (h3.2.1.kept hb (Nat.le_refl _)) (hE4.2.1.kept hb (Nat.le_refl _)))
  have e12 : sameE z1.e z2.e = true := by rw [HA3.out.2.2, HA4.out.2.2.2]; exact sameE_refl _
  have e34 : sameE z3.e z4.e = true := by rw [HA5.out.2.2.2.2, hz4]; exact sameE_refl _
  rw [e12] at HSA
  rw [e34] at HSB
  unfold entV at HSA HSB
  have HB6 := Lib.hid hA6.bel
  have HE3 := Lib.hid h3
  have HE4 := Lib.hid hE4
  obtain ⟨⟨a0, a1, a2⟩, ⟨a3, a4, a5⟩, a6, a7⟩ := h1.1.cells
  obtain ⟨⟨b0, b1, b2⟩, ⟨b3, b4, b5⟩, b6, b7⟩ := h2.1.cells
  have HW6 := Lib.hid hW6.symm
  clear k0 k1 k2 k3 k4 hA6 h1 h2 h3 hE4 hz4 hzs4 hzf4 hb6 hb56 hW6 e12 e34
  go_upto_region 7 with fail
  rw [HW6.out]
  go_wp2_with fail
  refine (HSA.out _ (Below.refl _ _)).mono ?_
  rintro e w7 ⟨rfl, hb7⟩
  have h3 := HE3.out.kept hb7
  have h4 := HE4.out.kept hb7
  clear a0 a1 a2 a3 a4 a5 a6 a7 b0 b1 b2 b3 b4 b5 b6 b7
  obtain ⟨⟨a0, a1, a2⟩, ⟨a3, a4, a5⟩, a6, a7⟩ := h3.1.cells
  obtain ⟨⟨b0, b1, b2⟩, ⟨b3, b4, b5⟩, b6, b7⟩ := h4.1.cells
  have HB7 := Lib.hid hb7
  clear h3 h4 hb7
  go_wp2_with fail
  refine (HSB.out _ HB7.out).mono ?_
  rintro e w8 ⟨rfl, hb8⟩
  have HB8 := Lib.hid (HB7.out.trans (hb8.mono HB7.out.size))
  clear a0 a1 a2 a3 a4 a5 a6 a7 b0 b1 b2 b3 b4 b5 b6 b7 hb8
  go_wp2_with fail
  refine (HHD.out _).mono ?_
  rintro e w9 ⟨rfl, hb9⟩
  have HB9 := Lib.hid (HB6.out.trans ((HB8.out.trans (hb9.mono HB8.out.size)).mono HB6.out.size))
  clear hb9
  go_wp2_with fail
  go_ret
  exact ⟨rfl, HB9.out⟩

set_option maxRecDepth 100000 in
set_option maxHeartbeats 1000000 in
theorem wtells_walk_lifted (os : Os) (started : os.Started) (H : Type) (enc : TypeId × Value → H) :
    ReturnsInHanded {} Tryz.checked os 4 .any (Rows.workTellsSpec.pre6 enc Tryz.prog Tryz.f4 Rows.workTellsRow.domain false) (Rows.workTellsSpec.post enc Tryz.prog Tryz.f4 false true false false) := by
  refine returnsInHanded_of_change_sized (C := Tryz.checked) own started (by kernel_rfl) Tryz.func4
    (ChangeSpec.witness6 (enc := enc) (C := Tryz.checked) false ⟨#[], #[.agg #[.slice none 0 0, .slice none 0 0], .int .u64 0, .agg #[.int .u32 0, .string ⟨#[]⟩, .string ⟨#[]⟩]], []⟩ 8 (by kernel_rfl) (by kernel_rfl) (by kernel_rfl) (by kernel_rfl)) ?_
  intro W base args ds gs before hval0 hW hcnd hsz0 _
  have hval : ∀ (j : Nat) t v, Tryz.f4.params[j]? = some t → args[j]? = some v → Value.okWide Tryz.prog W .any base t v := hval0
  have hsz : (DataW.weightsEach Tryz.prog (Tryz.f4.params.toList ++ Rows.workTellsSpec.plain.varTypes Tryz.prog) (ds ++ gs)).all (· ≤ reachBytes) = true := hsz0
  have hW' := hW
  obtain ⟨p, q, hA0, hV, rfl, hfz, hnd⟩ := hW
  have hA : DataW.TrodAll enc Tryz.prog W 0 (fun _ => true) true Tryz.f4.params.toList args.toList ds p := hA0
  rw [Tryz.params4] at hA hval hsz
  obtain ⟨v0, vs0, d0, ds0, p0, q0, hargs, rfl, rfl, h0, r0⟩ := trodAll_cons hA
  obtain ⟨v1, vs1, d1, ds1, p1, q1, rfl, rfl, rfl, h1, r1⟩ := trodAll_cons r0
  obtain ⟨v2, vs2, d2, ds2, p2, q2, rfl, rfl, rfl, h2, r2⟩ := trodAll_cons r1
  obtain ⟨rfl, rfl, rfl⟩ := trodAll_nil r2
  obtain rfl : args = #[v0, v1, v2] := by cases args; simp_all
  obtain ⟨rfl, rfl⟩ := trodVars_none hV
  have k0 := h0
  have lt0 : ∀ x ∈ p0, x.block < W.heap.size := by obtain ⟨m, hm⟩ := k0; exact DataW.trod_lt m _ _ _ hm
  have k1 := h1
  have lt1 : ∀ x ∈ p1, x.block < W.heap.size := by obtain ⟨m, hm⟩ := k1; exact DataW.trod_lt m _ _ _ hm
  have k2 := h2
  have lt2 : ∀ x ∈ p2, x.block < W.heap.size := by obtain ⟨m, hm⟩ := k2; exact DataW.trod_lt m _ _ _ hm
  obtain ⟨X0, rfl, sh0⟩ := open_work (hval 0 25 v0 rfl rfl) h0 hsz 0 rfl rfl
  obtain ⟨s1, rfl, rfl, rfl, ws1⟩ := open_int Tryz.underlying26 (hval 1 26 v1 rfl rfl) h1
  obtain ⟨s10, s11⟩ := u64_range ws1
  obtain ⟨S1, rfl⟩ := Int.eq_ofNat_of_zero_le s10
  obtain ⟨f2, g2, x2, rfl, xf2, xg2, xh2⟩ := open_xid (hval 2 55 v2 rfl rfl) h2 hsz 2 rfl rfl
  clear hA0 hval0
  refine (wtells_walk X0 S1 f2 g2 x2 W sh0 (by omega) xf2 xg2 xh2).mono fun e W' ⟨he, bel⟩ => ?_
  subst he
  exact ⟨_, rfl, _, _, _, [], _, [], hW', trodAll_mk1 (shut_bool Tryz.underlying4 _), (trodAll_cons_mk (Below.trod laidOut (by kernel_rfl) (of_decide_eq_true (by kernel_rfl)) k0 bel lt0) (trodAll_cons_mk (Below.trod laidOut (by kernel_rfl) (of_decide_eq_true (by kernel_rfl)) k1 bel lt1) (trodAll_cons_mk (Below.trod laidOut (by kernel_rfl) (of_decide_eq_true (by kernel_rfl)) k2 bel lt2) trodAll_mk0))), rfl, bel.frame _, fun h => by cases h⟩

theorem workTells_holds : Rows.WorkTellsSaid :=
  OpenClaim.holds_of_wide 4 Tryz.f4 rfl rfl rfl rfl rfl rfl rfl ⟨rfl, rfl, rfl, rfl, rfl⟩ rfl rfl rfl rfl rfl (by kernel_rfl) Tryz.func4 (by kernel_rfl)
    (of_decide_eq_true (by kernel_rfl)) (by unfold Func.isWrapper; first | (rw [if_pos (by decide +kernel)]; kernel_rfl) | (rw [if_neg (by decide +kernel)]; exact ⟨rfl, rfl⟩))
    (fun os started H enc _ => wtells_walk_lifted os started H enc)
#print axioms workTells_holds
end Go.Proofs.YtpmafabphlejeaaGreat
