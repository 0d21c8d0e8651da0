/-
  The contracts of frame.Put and of the document's own Put for frames.
  Conditions: none but sizes.
-/
import Derived.Test.YtlcggpobelbfcaaFrA
import Derived.Deep.RegionLaw
import Derived.Deep.CutRange
import Derived.Deep.CutBlock
import Derived.Deep.DeepCutAuto
import Derived.StillTailTactics
namespace Go.Proofs.Ytlcggpobelbfcaa
open Go.RowKit
set_option linter.unusedVariables false
set_option linter.unusedSimpArgs false

/-- 'append' of a string's bytes, at a step of a region that draws its order. -/
theorem step_append8s {P : Program} (w : World) {ops : Array Oper} {o : Oper} {a : Act} {K : Act → World → Prop} {Q : Exit → Act → World → Prop} {E : Prop} (hgd : o.guard = none) (sl x : Operand) (t u : TypeId)
    (ho : o.op = .call { callee := .builtin .append, args := #[sl, x], argTypes := #[t, u] })
    (base : Nat) (e : TypeId) (ht : P.underlying t = some (.slice e)) (hu : P.underlying u = some .string) (hi : (P.info? e).map (fun i => (i.zero, i.size, i.bytes)) = some (some (.int .u8 0), 1, 1))
    (v : Value) (l : List UInt8) (hs : a.eval sl = v) (hown : Own e w base v l) (s : ByteArray) (hx : a.eval x = .string s)
    (hb : l.length + s.size ≤ 140737488355328) (hbase : base ≤ w.heap.size)
    (h : ∀ v' w', Own e w' base v' (l ++ sb s) → w.grownBy w' v.ownBlock → K (a.put o.dst v') w') :
    if Region.wanted o (yielded ops a.tmps) = true then Oper.wp P o a w K Q else E := by
  have hw : Region.wanted o (yielded ops a.tmps) = true := by simp [Region.wanted, hgd]
  rw [if_pos hw]
  obtain ⟨i, hi0, hz, hs1, hb1⟩ := info_parts hi
  obtain ⟨v', w', hr, h2, h3, _⟩ := Lib.run_append_own_string (P := P) w base t u o.type e i ht hu hi0 hz hs1 hb1 v l.length (bs l) hown s (by simp only [maxLen]; omega) hb hbase
  unfold Oper.wp execOp
  simp only [ho, resolve, invoke, builtin, Sem.run_bind, Sem.run_pure, Result.andThen_ok, List.map_toArray, List.map_cons, List.map_nil, hs, hx, hr]
  refine h v' w' ?_ h3
  unfold Own
  rw [bs_append, List.length_append, sb_length]
  exact h2

theorem checkF_le {f : Fr} (h : checkF f = 0) : f.p.size ≤ 4084 := by
  unfold checkF at h
  split at h
  · exact absurd h (by decide)
  · omega
theorem checkF_no {f : Fr} (h : checkF f ≠ 0) : checkF f = 60 := by
  unfold checkF at h ⊢
  split
  · rfl
  · rename_i h1
    rw [if_neg h1] at h
    exact absurd rfl h

set_option maxRecDepth 100000 in
set_option maxHeartbeats 2000000 in
theorem fput_ok (f : Fr) (w : World) (hf : f.ok) (hc : checkF f = 0) :
    Calls Try.prog 19 #[.agg f.vs.toArray] w fun e w' => ∃ v, e = .returned (.tuple #[v, .int .i64 0]) ∧ Own 5 w' w.heap.size v (encF f) ∧ Below w.heap.size w w' := by
  have hp := checkF_le hc
  have HC := Lib.hid (fun w => fcheck_any f w hf.2.2.2)
  rw [hc] at HC
  have HH := Lib.hid (fun w => header_any f w hf hp)
  have HX := Lib.hid (BoxF.new w f)
  have HB0 := Lib.hid (below_box w (Obj.cells #[.bool f.a, .bool f.b, .bool f.c, .bool f.d, .int .u8 f.t, .int .u8 f.k, .int .u16 f.ch, .string f.p] 44))
  have hE : encF f = headB f ++ sb f.p := rfl
  have hhl := headB_length f
  generalize encF f = E at *
  generalize headB f = HB at *
  have HE := Lib.hid hE
  have HHL := Lib.hid hhl
  clear hc hf hE hhl
  obtain ⟨a, b, c, d, t, k, ch, p⟩ := f
  simp only [Fr.vs] at *
  go_enter Try.func19, Try.ntmps19
  go_wp2_with fail
  refine (HC.out _).mono ?_
  rintro e w1 ⟨rfl, hb1⟩
  have hX1 := HX.out.kept hb1 (Nat.le_refl _)
  have HB1 := Lib.hid (HB0.out.trans (hb1.mono HB0.out.size))
  have x0 := hX1.c0
  have x1 := hX1.c1
  have x2 := hX1.c2
  have x3 := hX1.c3
  have x4 := hX1.c4
  have x5 := hX1.c5
  have x6 := hX1.c6
  have x7 := hX1.c7
  have y0 : w1.drew.cell? ⟨w.heap.size, 0, none⟩ = _ := x0
  have y1 : w1.drew.cell? ⟨w.heap.size, 1, none⟩ = _ := x1
  have y2 : w1.drew.cell? ⟨w.heap.size, 2, none⟩ = _ := x2
  have y3 : w1.drew.cell? ⟨w.heap.size, 3, none⟩ = _ := x3
  have y4 : w1.drew.cell? ⟨w.heap.size, 4, none⟩ = _ := x4
  have y5 : w1.drew.cell? ⟨w.heap.size, 5, none⟩ = _ := x5
  have y6 : w1.drew.cell? ⟨w.heap.size, 6, none⟩ = _ := x6
  have y7 : w1.drew.cell? ⟨w.heap.size, 7, none⟩ = _ := x7
  have HX1 := Lib.hid hX1
  clear hX1 hb1
  go_upto_region 4 with fail
  go_region_law (first
    | (go_simp; go_at_call 44
       with_reducible refine (HH.out _).mono ?_
       rintro e w2 ⟨v2, rfl, ho2, hb2⟩
       have hbd : Below w1.heap.size w1 w1.drew := below_drew1 (Below.refl _ _)
       have hb12 : Below w1.heap.size w1 w2 := hbd.trans hb2
       have x7' := (HX1.out.kept hb12 (Nat.le_refl _)).c7)
    | (refine step_append8s _ rfl (.tmp 11) (.tmp 13) 22 9 rfl w1.heap.size 5 Try.underlying22 Try.underlying9 info5 v2 HB rfl ho2 p rfl (by rw [HHL.out]; omega) hb12.size ?_
       intro v3 w3 ho3 hg3))
  all_goals
    go_wp2_with fail
    go_ret2
    refine ⟨v3, rfl, ?_, ?_⟩
    · rw [HE.out]; exact ho3.mono HB1.out.size
    · exact HB1.out.trans ((hb12.grown hg3 hb12.size (fun k hk => (ho2.block k hk).1)).mono HB1.out.size)

set_option maxRecDepth 100000 in
set_option maxHeartbeats 2000000 in
theorem fput_no (f : Fr) (w : World) (hf : f.ok) (hc : checkF f ≠ 0) :
    Calls Try.prog 19 #[.agg f.vs.toArray] w fun e w' => e = .returned (.tuple #[.slice none 0 0, .int .i64 60]) ∧ Below w.heap.size w w' := by
  have hc6 := checkF_no hc
  have HC := Lib.hid (fun w => fcheck_any f w hf.2.2.2)
  rw [hc6] at HC
  have HB0 := Lib.hid (below_box w (Obj.cells #[.bool f.a, .bool f.b, .bool f.c, .bool f.d, .int .u8 f.t, .int .u8 f.k, .int .u16 f.ch, .string f.p] 44))
  clear hc hf hc6
  obtain ⟨a, b, c, d, t, k, ch, p⟩ := f
  simp only [Fr.vs] at *
  go_enter Try.func19, Try.ntmps19
  go_wp2_with fail
  refine (HC.out _).mono ?_
  rintro e w1 ⟨rfl, hb1⟩
  go_wp2_with fail
  go_ret2
  exact ⟨rfl, HB0.out.trans (hb1.mono HB0.out.size)⟩

/-! ### the document's own Put -/
theorem be_one (n : Nat) : be 1 n = [UInt8.ofNat n] := rfl
theorem u8c_ofNat (n : Nat) (h : n < 256) : u8c (UInt8.ofNat n) = .int .u8 n := by
  simp only [u8c, UInt8.toNat_ofNat']
  rw [Nat.mod_eq_of_lt h]
theorem Own.below {w w' : World} {e : TypeId} {base B : Nat} {v : Value} {l : List UInt8} (h : Own e w base v l) (hb : Below B w w') (hB : w.heap.size ≤ B) : Own e w' base v l := h.keep fun g hg => hb.block g (Nat.lt_of_lt_of_le (h.block g hg).2 hB)

theorem encF_list (f : Fr) : encF f = [UInt8.ofNat (flagsD f), UInt8.ofNat f.t] ++ be 2 (12 + f.p.size) ++ [UInt8.ofNat 0, UInt8.ofNat f.k] ++ be 2 f.ch ++ [UInt8.ofNat 0, UInt8.ofNat 0, UInt8.ofNat 0, UInt8.ofNat 0] ++ sb f.p := by
  simp [encF, headB, be]

set_option maxRecDepth 100000 in
set_option maxHeartbeats 4000000 in
theorem qfput_ok (f : Fr) (w : World) (hf : f.ok) (hc : checkF f = 0) :
    Calls Try.prog 20 #[.agg f.vs.toArray] w fun e w' => ∃ v, e = .returned (.tuple #[v, .int .i64 0]) ∧ Own 5 w' w.heap.size v (encF f) ∧ Below w.heap.size w w' := by
  have hp := checkF_le hc
  have HC := Lib.hid (fun w => qfcheck_any f w hf.2.2.2)
  rw [hc] at HC
  have HX := Lib.hid (BoxF.new w f)
  have HB0 := Lib.hid (below_box w (Obj.cells #[.bool f.a, .bool f.b, .bool f.c, .bool f.d, .int .u8 f.t, .int .u8 f.k, .int .u16 f.ch, .string f.p] 44))
  have HE := Lib.hid (encF_list f)
  have HN := Lib.hid (fun k N w hk hN => number_any k N w hk hN)
  have hfl : flagsD f = (if f.a = true then 8 else 0) + (if f.b = true then 4 else 0) + (if f.c = true then 2 else 0) + (if f.d = true then 1 else 0) := rfl
  obtain ⟨h1, h2, h3, h4⟩ := hf
  generalize encF f = E at *
  generalize flagsD f = fl at *
  clear hc
  obtain ⟨a, b, c, d, t, k, ch, p⟩ := f
  simp only [Fr.vs] at *
  obtain ⟨n1, e1⟩ : ∃ n, n = if a = true then 8 else 0 := ⟨_, rfl⟩
  obtain ⟨n2, e2⟩ : ∃ n, n = if b = true then 4 else 0 := ⟨_, rfl⟩
  obtain ⟨n3, e3⟩ : ∃ n, n = if c = true then 2 else 0 := ⟨_, rfl⟩
  obtain ⟨n4, e4⟩ : ∃ n, n = if d = true then 1 else 0 := ⟨_, rfl⟩
  have b1 : n1 ≤ 8 := by rw [e1]; split <;> omega
  have b2 : n2 ≤ 4 := by rw [e2]; split <;> omega
  have b3 : n3 ≤ 2 := by rw [e3]; split <;> omega
  have b4 : n4 ≤ 1 := by rw [e4]; split <;> omega
  have B1 := Lib.hid (fun w => bit_any a 8 w)
  have B2 := Lib.hid (fun w => bit_any b 4 w)
  have B3 := Lib.hid (fun w => bit_any c 2 w)
  have B4 := Lib.hid (fun w => bit_any d 1 w)
  rw [← e1] at B1
  rw [← e2] at B2
  rw [← e3] at B3
  rw [← e4] at B4
  rw [← e1, ← e2, ← e3, ← e4] at hfl
  have HFL := Lib.hid hfl
  clear e1 e2 e3 e4 hfl
  have w1 : IntKind.u8.wrap ((n1 : Int) + (n2 : Int)) = (n1 : Int) + (n2 : Int) := by rw [IntKind.wrap_u8]; omega
  have w2 : IntKind.u8.wrap ((n1 : Int) + (n2 : Int) + (n3 : Int)) = (n1 : Int) + (n2 : Int) + (n3 : Int) := by rw [IntKind.wrap_u8]; omega
  have w3 : IntKind.u8.wrap ((n1 : Int) + (n2 : Int) + (n3 : Int) + (n4 : Int)) = (n1 : Int) + (n2 : Int) + (n3 : Int) + (n4 : Int) := by rw [IntKind.wrap_u8]; omega
  have u4 : IntKind.u64.wrap (ch : Int) = (ch : Int) := by rw [IntKind.wrap_u64]; omega
  have u5 : IntKind.u64.wrap (12 + (p.size : Int)) = ((12 + p.size : Nat) : Int) := by rw [IntKind.wrap_u64]; omega
  obtain ⟨z, hz⟩ : ∃ z, z = 12 + p.size := ⟨_, rfl⟩
  have hzb : z ≤ 4096 := by omega
  rw [← hz] at u5 HE
  clear hz
  go_enter Try.func20, Try.ntmps20
  go_wp2_with fail
  refine (HC.out _).mono ?_
  rintro e wa ⟨rfl, hba⟩
  have hXa := HX.out.kept hba (Nat.le_refl _)
  have HBA := Lib.hid (HB0.out.trans (hba.mono HB0.out.size))
  have y0 : wa.drew.cell? ⟨w.heap.size, 0, none⟩ = _ := hXa.c0
  have y1 : wa.drew.cell? ⟨w.heap.size, 1, none⟩ = _ := hXa.c1
  have y2 : wa.drew.cell? ⟨w.heap.size, 2, none⟩ = _ := hXa.c2
  have y3 : wa.drew.cell? ⟨w.heap.size, 3, none⟩ = _ := hXa.c3
  have y4 : wa.drew.cell? ⟨w.heap.size, 4, none⟩ = _ := hXa.c4
  have HXA := Lib.hid hXa
  clear hXa hba
  go_upto_region 3 with fail
  refine wp_region_still_tail 17 (by kernel_rfl) (by kernel_rfl) ?_
  simp only [List.take_succ_cons, List.take_zero, List.drop_succ_cons, List.drop_zero]
  repeat still_step
  still_call ((B1.out _).mono fun _ _ h => ⟨h.1, h.2.symm⟩)
  repeat still_step
  still_call ((B2.out _).mono fun _ _ h => ⟨h.1, h.2.symm⟩)
  repeat still_step
  still_call ((B3.out _).mono fun _ _ h => ⟨h.1, h.2.symm⟩)
  repeat still_step
  still_call ((B4.out _).mono fun _ _ h => ⟨h.1, h.2.symm⟩)
  repeat still_step
  refine wpStill_nil ?_
  change wpList _ _ _ _ _ wa.drew
  clear y0 y1 y2 y3 y4
  have hcell : #[Value.int .u8 ((n1 : Int) + (n2 : Int) + (n3 : Int) + (n4 : Int)), .int .u8 (t : Int)] = (bs [UInt8.ofNat fl, UInt8.ofNat t]).toArray := by
    show _ = #[u8c (UInt8.ofNat fl), u8c (UInt8.ofNat t)]
    rw [u8c_ofNat fl (by have := HFL.out; omega), u8c_ofNat t h1, HFL.out]
    simp
  have ho1 := Own.lit (w := wa) (e := 5) (base := wa.heap.size) [UInt8.ofNat fl, UInt8.ofNat t] hcell (by simp [maxLen]) (Nat.le_refl _)
  obtain ⟨Wb, hWb⟩ : ∃ Wb, Wb = (wa.alloc (Obj.cells #[Value.int .u8 ((n1 : Int) + (n2 : Int) + (n3 : Int) + (n4 : Int)), .int .u8 (t : Int)] 5)).drew := ⟨_, rfl⟩
  have ho1 : Own 5 Wb wa.heap.size (.slice (some ⟨wa.heap.size, 0, none⟩) ([UInt8.ofNat fl, UInt8.ofNat t] : List UInt8).length ([UInt8.ofNat fl, UInt8.ofNat t] : List UInt8).length) [UInt8.ofNat fl, UInt8.ofNat t] := by rw [hWb]; exact ho1.keep fun _ _ => rfl
  have hbb : Below wa.heap.size wa Wb := by rw [hWb]; exact below_drew1 (below_box _ _)
  have hsl : Value.slice (some ⟨wa.heap.size, 0, none⟩) ([UInt8.ofNat fl, UInt8.ofNat t] : List UInt8).length ([UInt8.ofNat fl, UInt8.ofNat t] : List UInt8).length = .slice (some ⟨wa.heap.size, 0, none⟩) 2 2 := rfl
  rw [hsl] at ho1
  have hXb := HXA.out.kept hbb (Nat.le_refl _)
  have z7 := hXb.c7
  have HO1 := Lib.hid ho1
  have HXB := Lib.hid hXb
  have HBB := Lib.hid (HBA.out.trans (hbb.mono HBA.out.size))
  have hsb := hbb.size
  clear hcell hsl ho1 hXb
  go_upto_region 4 with fail
  rw [← hWb]
  have HWb := Lib.hid hWb
  clear hWb
  go_wp2_with fail
  refine (HN.out 2 z _ (by omega) (by omega)).mono ?_
  rintro e wc ⟨vc, rfl, hoc, hbc⟩
  obtain ⟨gc, _, hsc⟩ := hoc.shows
  have ho2 := HO1.out.below hbc (Nat.le_refl _)
  have hsc' := hbc.size
  have HBC := Lib.hid (HBB.out.trans (hbc.mono HBB.out.size))
  have HXC := Lib.hid (HXB.out.kept hbc (Nat.le_refl _))
  have hbl := be_length 2 z
  clear hoc z7 HO1 hbc
  have HXAlt := HXA.out.lt
  go_upto_region 5 with (at_builtin; refine wpList_append8 _ rfl (.tmp 26) (.tmp 32) 22 rfl wa.heap.size 5 Try.underlying22 info5 _ _ rfl ho2 gc vc _ rfl hsc (by simp [hbl]) (by omega) ?_; intro vd wd ho3 hg3)
  have hXd : BoxF wd w.heap.size ⟨a, b, c, d, t, k, ch, p⟩ := (hg3.block _ HXC.out.lt (fun e => by have := (ho2.block _ e.symm).1; omega)).trans HXC.out
  have HBD := Lib.hid (HBC.out.grown hg3 HBC.out.size (fun k hk => by have := (ho2.block k hk).1; omega))
  have z5 := hXd.c5
  have HXD := Lib.hid hXd
  have hszd := hg3.size
  -- the byte 0 and the track
  have hcell : #[Value.int .u8 0, .int .u8 (k : Int)] = (bs [UInt8.ofNat 0, UInt8.ofNat k]).toArray := by
    show _ = #[u8c (UInt8.ofNat 0), u8c (UInt8.ofNat k)]
    rw [u8c_ofNat 0 (by decide), u8c_ofNat k h2]
    rfl
  have ho4 := ho3.alloc_ (Obj.cells #[Value.int .u8 0, .int .u8 (k : Int)] 5)
  have hs4 := Shows.lit (w := wd) (e := 5) [UInt8.ofNat 0, UInt8.ofNat k] hcell (by simp [maxLen])
  have hb4 : Below wd.heap.size wd (wd.alloc (Obj.cells #[Value.int .u8 0, .int .u8 (k : Int)] 5)) := below_box _ _
  have HX4 := Lib.hid (HXD.out.kept hb4 (Nat.le_refl _))
  have HB4 := Lib.hid (HBD.out.trans (hb4.mono HBD.out.size))
  have hsz4 := hb4.size
  clear hXd hcell hb4 ho3 hg3 ho2 hsc HXC HBC
  go_upto_region 6 with (at_builtin; refine wpList_append8 _ rfl (.tmp 34) (.tmp 37) 22 rfl wa.heap.size 5 Try.underlying22 info5 _ _ rfl ho4 _ _ _ rfl hs4 (by simp [be_length]) (by omega) ?_; intro ve we ho5 hg5)
  have hXe : BoxF we w.heap.size ⟨a, b, c, d, t, k, ch, p⟩ := (hg5.block _ HX4.out.lt (fun e => by have := (ho4.block _ e.symm).1; omega)).trans HX4.out
  have HBE := Lib.hid (HB4.out.grown hg5 HB4.out.size (fun k hk => by have := (ho4.block k hk).1; omega))
  have z6 := hXe.c6
  have HXE := Lib.hid hXe
  have hsze := hg5.size
  clear hXe hg5 ho4 hs4 z5 HX4 HB4 HXD HBD
  go_wp2_with fail
  refine (HN.out 2 ch _ (by omega) (by omega)).mono ?_
  rintro e wf ⟨vf, rfl, hof, hbf⟩
  obtain ⟨gf, _, hsf⟩ := hof.shows
  have ho6 := ho5.below hbf (Nat.le_refl _)
  have hszf := hbf.size
  have HBF := Lib.hid (HBE.out.trans (hbf.mono HBE.out.size))
  have HXF := Lib.hid (HXE.out.kept hbf (Nat.le_refl _))
  clear hof z6 hbf ho5 HXE HBE
  go_upto_region 7 with (at_builtin; refine wpList_append8 _ rfl (.tmp 39) (.tmp 43) 22 rfl wa.heap.size 5 Try.underlying22 info5 _ _ rfl ho6 gf vf _ rfl hsf (by simp [be_length]) (by omega) ?_; intro vg wg ho7 hg7)
  have hXg : BoxF wg w.heap.size ⟨a, b, c, d, t, k, ch, p⟩ := (hg7.block _ HXF.out.lt (fun e => by have := (ho6.block _ e.symm).1; omega)).trans HXF.out
  have HBG := Lib.hid (HBF.out.grown hg7 HBF.out.size (fun k hk => by have := (ho6.block k hk).1; omega))
  have hszg := hg7.size
  have hcell : #[Value.int .u8 0, .int .u8 0, .int .u8 0, .int .u8 0] = (bs [UInt8.ofNat 0, UInt8.ofNat 0, UInt8.ofNat 0, UInt8.ofNat 0]).toArray := rfl
  have ho8 := ho7.alloc_ (Obj.cells #[Value.int .u8 0, .int .u8 0, .int .u8 0, .int .u8 0] 5)
  have hs8 := Shows.lit (w := wg) (e := 5) [UInt8.ofNat 0, UInt8.ofNat 0, UInt8.ofNat 0, UInt8.ofNat 0] hcell (by simp [maxLen])
  have hb8 : Below wg.heap.size wg (wg.alloc (Obj.cells #[Value.int .u8 0, .int .u8 0, .int .u8 0, .int .u8 0] 5)) := below_box _ _
  have HX8 := Lib.hid (hXg.kept hb8 (Nat.le_refl _))
  have HB8 := Lib.hid (HBG.out.trans (hb8.mono HBG.out.size))
  have hsz8 := hb8.size
  clear hXg hcell hb8 ho7 hg7 ho6 hsf HXF HBF
  go_upto_region 8 with (at_builtin; refine wpList_append8 _ rfl (.tmp 45) (.tmp 46) 22 rfl wa.heap.size 5 Try.underlying22 info5 _ _ rfl ho8 _ _ _ rfl hs8 (by simp [be_length]) (by omega) ?_; intro vh wh ho9 hg9)
  have hXh : BoxF wh w.heap.size ⟨a, b, c, d, t, k, ch, p⟩ := (hg9.block _ HX8.out.lt (fun e => by have := (ho8.block _ e.symm).1; omega)).trans HX8.out
  have HBH := Lib.hid (HB8.out.grown hg9 HB8.out.size (fun k hk => by have := (ho8.block k hk).1; omega))
  have hszh := hg9.size
  have z7 := hXh.c7
  clear hXh hg9 ho8 hs8 HX8 HB8
  go_wp2_with (at_builtin; refine wpList_append8s _ rfl (.tmp 48) (.tmp 50) 22 9 rfl wa.heap.size 5 Try.underlying22 Try.underlying9 info5 _ _ rfl ho9 p rfl (by simp [be_length]; omega) (by omega) ?_; intro vi wi ho10 hg10)
  go_ret2
  refine ⟨_, rfl, ?_, HBH.out.grown hg10 HBH.out.size (fun k hk => by have := (ho9.block k hk).1; omega)⟩
  rw [HE.out]
  exact ho10.mono (by omega)

set_option maxRecDepth 100000 in
set_option maxHeartbeats 2000000 in
theorem qfput_no (f : Fr) (w : World) (hf : f.ok) (hc : checkF f ≠ 0) :
    Calls Try.prog 20 #[.agg f.vs.toArray] w fun e w' => e = .returned (.tuple #[.slice none 0 0, .int .i64 60]) ∧ Below w.heap.size w w' := by
  have hc6 := checkF_no hc
  have HC := Lib.hid (fun w => qfcheck_any f w hf.2.2.2)
  rw [hc6] at HC
  have HB0 := Lib.hid (below_box w (Obj.cells #[.bool f.a, .bool f.b, .bool f.c, .bool f.d, .int .u8 f.t, .int .u8 f.k, .int .u16 f.ch, .string f.p] 44))
  clear hc hf hc6
  obtain ⟨a, b, c, d, t, k, ch, p⟩ := f
  simp only [Fr.vs] at *
  go_enter Try.func20, Try.ntmps20
  go_wp2_with fail
  refine (HC.out _).mono ?_
  rintro e w1 ⟨rfl, hb1⟩
  go_wp2_with fail
  go_ret2
  exact ⟨rfl, HB0.out.trans (hb1.mono HB0.out.size)⟩

end Go.Proofs.Ytlcggpobelbfcaa
