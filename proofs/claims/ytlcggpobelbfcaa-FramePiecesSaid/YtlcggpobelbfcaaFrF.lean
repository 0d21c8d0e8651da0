/-
  The contract of the document's own One.
  Conditions: none but sizes.
-/
import Derived.Test.YtlcggpobelbfcaaFrP
import Derived.RegionTactic
import Derived.BigRegion
import Derived.ChangeAlike
namespace Go.Proofs.Ytlcggpobelbfcaa
open Go.RowKit
set_option linter.unusedVariables false
set_option linter.unusedSimpArgs false

theorem results_cell_one {P : Program} {fn : Func} {p u : Tmp} {ty : TypeId} (h : fn.results = #[.cell p ty, .tmp u]) (tmps : Array Value) (w : World) (g : Nat) (t : TypeId) (cs : Array Value) (fr : Nat × Nat) (d : TypeDesc)
    (hp : tmps.getD p undef = .pointer (some ⟨g, 0, none⟩)) (hg : w.heap[g]? = some (.cells cs t fr))
    (hu : P.underlying ty = some d) (hd : (match d with | .struct _ | .array _ _ => true | _ => false) = true) (hi : (P.info? ty).map (·.size) = some cs.size) :
    (results fn tmps).run P w = .ok (.tuple #[.agg cs, tmps.getD u undef]) w := by
  have hp' : tmps[p]?.getD undef = .pointer (some ⟨g, 0, none⟩) := by simpa using hp
  simp [results, h, hp', asAddr, run_loadVar_row w g t ty cs fr d hg hu hd hi]

set_option maxRecDepth 100000 in
set_option maxHeartbeats 4000000 in
theorem one_no (A : Option Addr) (c d : Nat) (l : List UInt8) (w : World) (h : Shows w d (.slice A l.length c) l) (hl : l.length ≤ 140737488355328) (hn : isOne l = false) :
    Calls Try.prog 52 #[.slice A l.length c] w fun e w' => e = .returned (.tuple #[.agg zF.vs.toArray, .int .i64 0]) ∧ Below w.heap.size w w' := by
  obtain ⟨hl1, hlc, hcm⟩ := h.lens
  obtain ⟨W0, hW0⟩ : ∃ W0, W0 = w.alloc (Obj.cells #[.bool false, .bool false, .bool false, .bool false, .int .u8 0, .int .u8 0, .int .u16 0, .string ⟨#[]⟩] 44) := ⟨_, rfl⟩
  have hB0 : Below w.heap.size w W0 := by rw [hW0]; exact below_box _ _
  have hR0 : BoxF W0 w.heap.size zF := by rw [hW0]; exact BoxF.new w zF
  have hS0 : Shows W0 d (.slice A l.length c) l := h.keep hB0.size (fun hp => hB0.block _ (h.lt hp))
  have HWE := Lib.hid (well_any A c d l W0 hS0 hl)
  have HS0 := Lib.hid hS0
  have fz := hR0.fr
  have r0 := hR0.c0
  have r1 := hR0.c1
  have r2 := hR0.c2
  have r3 := hR0.c3
  have r4 := hR0.c4
  have r5 := hR0.c5
  have r6 := hR0.c6
  have r7 := hR0.c7
  have HB0 := Lib.hid hB0
  have HR0 := Lib.hid hR0
  clear hR0 hB0 h hS0
  by_cases h12 : l.length < 12
  · have hi : (l.length : Int) < 12 := by omega
    clear hn
    go_enter Try.func52, Try.ntmps52
    go_upto_region 1 with fail
    rw [← hW0]
    clear hW0
    go_wp2_with fail
    exact bodyPost_ret (results_cell_one rfl _ _ w.heap.size 44 _ (0, 0) _ rfl (HR0.out.setAll zF) Try.underlying44 rfl (by kernel_rfl)) rfl ⟨rfl, below_setAll HB0.out (Nat.le_refl _) _ _ _ _ _ _ _ _⟩
  · have hi : ¬ (l.length : Int) < 12 := by omega
    have HNO := Lib.hid hn
    clear hn
    cases hw : wellD l with
    | false =>
      rw [hw] at HWE
      clear hw
      go_enter Try.func52, Try.ntmps52
      go_upto_region 1 with fail
      rw [← hW0]
      clear hW0
      go_wp2_with fail
      refine HWE.out.mono ?_
      rintro e w1 ⟨rfl, q, rfl⟩
      have HRq : Hid (BoxF (W0.drewN q) w.heap.size zF) := HR0
      go_wp2_with fail
      exact bodyPost_ret (results_cell_one rfl _ _ w.heap.size 44 _ (0, 0) _ rfl (HRq.out.setAll zF) Try.underlying44 rfl (by kernel_rfl)) rfl ⟨rfl, below_setAll (below_drewN HB0.out _) (Nat.le_refl _) _ _ _ _ _ _ _ _⟩
    | true =>
      rw [hw] at HWE
      have hsz : ¬ sizeAt l ≤ l.length := fun hh => by
        have := HNO.out
        rw [(isOne_iff l).2 ⟨by omega, hw, hh⟩] at this
        cases this
      obtain ⟨o, rfl, _, hcl⟩ := HS0.out.at_ (by omega)
      have hc2 : W0.cell? ⟨d, o + 2, none⟩ = some (.int .u8 (byteAt l 2)) := shows_byte hcl (k := 2) (by omega)
      have hc3 : W0.cell? ⟨d, o + 3, none⟩ = some (.int .u8 (byteAt l 3)) := shows_byte hcl (k := 3) (by omega)
      have hb2 := byteAt_lt l 2
      have hb3 := byteAt_lt l 3
      have hz : sizeAt l = 256 * byteAt l 2 + byteAt l 3 := rfl
      have hl2 : (2 : Int) < (l.length : Int) := by omega
      have hl3 : (3 : Int) < (l.length : Int) := by omega
      clear hcl hw
      generalize sizeAt l = z at *
      generalize byteAt l 2 = x at *
      generalize byteAt l 3 = y at *
      have hzb : z < 65536 := by omega
      have WR := Lib.hid (wraps_two x y z hb2 hb3 hz)
      have hlz : l.length < z := by omega
      clear hz hsz
      go_enter Try.func52, Try.ntmps52
      go_upto_region 1 with fail
      rw [← hW0]
      clear hW0
      go_wp2_with fail
      refine HWE.out.mono ?_
      rintro e w1 ⟨rfl, q, rfl⟩
      have HRq : Hid (BoxF (W0.drewN q) w.heap.size zF) := HR0
      have HBq : Hid (Below w.heap.size w (W0.drewN q)) := Lib.hid (below_drewN HB0.out q)
      have fzq := HRq.out.fr
      have r0q := HRq.out.c0
      have r1q := HRq.out.c1
      have r2q := HRq.out.c2
      have r3q := HRq.out.c3
      have r4q := HRq.out.c4
      have r5q := HRq.out.c5
      have r6q := HRq.out.c6
      have r7q := HRq.out.c7
      have hc2q : (W0.drewN q).cell? ⟨d, o + 2, none⟩ = some (.int .u8 x) := hc2
      have hc3q : (W0.drewN q).cell? ⟨d, o + 3, none⟩ = some (.int .u8 y) := hc3
      clear r0 r1 r2 r3 r4 r5 r6 r7 fz hc2 hc3
      generalize W0.drewN q = W1 at *
      go_wp2_with fail
      obtain ⟨e1, e2, e3, e4, f1, f2, f3, f4⟩ := WR.out
      go_quiet (fail)
      clear e1 e2 e3 e4 f1 f2 f3 f4
      have HRn : Hid (BoxF (W1.drewN nq) w.heap.size zF) := HRq
      go_wp2_with fail
      exact bodyPost_ret (results_cell_one rfl _ _ w.heap.size 44 _ (0, 0) _ rfl (HRn.out.setAll zF) Try.underlying44 rfl (by kernel_rfl)) rfl ⟨rfl, below_setAll (below_drewN HBq.out _) (Nat.le_refl _) _ _ _ _ _ _ _ _⟩

set_option maxRecDepth 100000 in
set_option maxHeartbeats 8000000 in
theorem one_ok (A : Option Addr) (c d : Nat) (l : List UInt8) (w : World) (h : Shows w d (.slice A l.length c) l) (hl : l.length ≤ 140737488355328) (hn : isOne l = true) :
    Calls Try.prog 52 #[.slice A l.length c] w fun e w' => e = .returned (.tuple #[.agg (oneF l).vs.toArray, .int .i64 (sizeAt l)]) ∧ Below w.heap.size w w' := by
  obtain ⟨h12, hw, hsz⟩ := (isOne_iff l).1 hn
  obtain ⟨hs12, hs4096⟩ := well_size hw (by omega)
  obtain ⟨hl1, hlc, hcm⟩ := h.lens
  have hOF : oneF l = decD (l.take (sizeAt l)) := by unfold oneF; rw [if_pos hn]
  have hDD : decD (l.take (sizeAt l)) = { a := byteAt l 0 / 8 % 2 == 1, b := byteAt l 0 / 4 % 2 == 1, c := byteAt l 0 / 2 % 2 == 1, d := byteAt l 0 % 2 == 1, t := byteAt l 1, k := byteAt l 5, ch := 256 * byteAt l 6 + byteAt l 7, p := str8 ((l.take (sizeAt l)).drop 12) } := by
    unfold decD
    rw [byteAt_take l _ 0 (by omega), byteAt_take l _ 1 (by omega), byteAt_take l _ 5 (by omega), byteAt_take l _ 6 (by omega), byteAt_take l _ 7 (by omega)]
  have HOF := Lib.hid (hOF.trans hDD)
  clear hOF hDD
  obtain ⟨W0, hW0⟩ : ∃ W0, W0 = w.alloc (Obj.cells #[.bool false, .bool false, .bool false, .bool false, .int .u8 0, .int .u8 0, .int .u16 0, .string ⟨#[]⟩] 44) := ⟨_, rfl⟩
  have hB0 : Below w.heap.size w W0 := by rw [hW0]; exact below_box _ _
  have hR0 : BoxF W0 w.heap.size zF := by rw [hW0]; exact BoxF.new w zF
  have hS0 : Shows W0 d (.slice A l.length c) l := h.keep hB0.size (fun hp => hB0.block _ (h.lt hp))
  have HWE := Lib.hid (well_any A c d l W0 hS0 hl)
  rw [hw] at HWE
  have HB0 := Lib.hid hB0
  have HR0 := Lib.hid hR0
  have HS0 := Lib.hid hS0
  have hdlt := h.lt (by omega)
  obtain ⟨o, rfl, _, hcl⟩ := hS0.at_ (by omega)
  have hc0 : W0.cell? ⟨d, o, none⟩ = some (.int .u8 (byteAt l 0)) := shows_byte hcl (k := 0) (by omega)
  have hc1 : W0.cell? ⟨d, o + 1, none⟩ = some (.int .u8 (byteAt l 1)) := shows_byte hcl (k := 1) (by omega)
  have hc2 : W0.cell? ⟨d, o + 2, none⟩ = some (.int .u8 (byteAt l 2)) := shows_byte hcl (k := 2) (by omega)
  have hc3 : W0.cell? ⟨d, o + 3, none⟩ = some (.int .u8 (byteAt l 3)) := shows_byte hcl (k := 3) (by omega)
  have hc5 : W0.cell? ⟨d, o + 5, none⟩ = some (.int .u8 (byteAt l 5)) := shows_byte hcl (k := 5) (by omega)
  have hc6 : W0.cell? ⟨d, o + 6, none⟩ = some (.int .u8 (byteAt l 6)) := shows_byte hcl (k := 6) (by omega)
  have hc7 : W0.cell? ⟨d, o + 7, none⟩ = some (.int .u8 (byteAt l 7)) := shows_byte hcl (k := 7) (by omega)
  have b0 := byteAt_lt l 0
  have b1 := byteAt_lt l 1
  have b2 := byteAt_lt l 2
  have b3 := byteAt_lt l 3
  have b5 := byteAt_lt l 5
  have b6 := byteAt_lt l 6
  have b7 := byteAt_lt l 7
  have hz : sizeAt l = 256 * byteAt l 2 + byteAt l 3 := rfl
  have i0 : (0 : Int) < (l.length : Int) := by omega
  have i1 : (1 : Int) < (l.length : Int) := by omega
  have i2 : (2 : Int) < (l.length : Int) := by omega
  have i3 : (3 : Int) < (l.length : Int) := by omega
  have i5 : (5 : Int) < (l.length : Int) := by omega
  have i6 : (6 : Int) < (l.length : Int) := by omega
  have i7 : (7 : Int) < (l.length : Int) := by omega
  have hi : ¬ (l.length : Int) < 12 := by omega
  clear hcl hw hB0 hR0 hS0 hn h
  generalize sizeAt l = z at *
  generalize byteAt l 0 = x0 at *
  generalize byteAt l 1 = x1 at *
  generalize byteAt l 2 = x2 at *
  generalize byteAt l 3 = x3 at *
  generalize byteAt l 5 = x5 at *
  generalize byteAt l 6 = x6 at *
  generalize byteAt l 7 = x7 at *
  have WR := Lib.hid (wraps_two x2 x3 z b2 b3 hz)
  have hlz : ¬ l.length < z := by omega
  clear hz
  go_enter Try.func52, Try.ntmps52
  go_upto_region 1 with fail
  rw [← hW0]
  clear hW0
  go_wp2_with fail
  refine HWE.out.mono ?_
  rintro e w1 ⟨rfl, q, rfl⟩
  obtain ⟨W1, hW1⟩ : ∃ W1, W1 = W0.drewN q := ⟨_, rfl⟩
  have HRq : Hid (BoxF W1 w.heap.size zF) := by rw [hW1]; exact HR0
  have HBq : Hid (Below w.heap.size w W1) := by rw [hW1]; exact Lib.hid (below_drewN HB0.out q)
  have HSq : Hid (Shows W1 d (.slice (some ⟨d, o, none⟩) l.length c) l) := by rw [hW1]; exact HS0
  have c0 : W1.cell? ⟨d, o, none⟩ = some (.int .u8 x0) := by rw [hW1]; exact hc0
  have c1 : W1.cell? ⟨d, o + 1, none⟩ = some (.int .u8 x1) := by rw [hW1]; exact hc1
  have c2 : W1.cell? ⟨d, o + 2, none⟩ = some (.int .u8 x2) := by rw [hW1]; exact hc2
  have c3 : W1.cell? ⟨d, o + 3, none⟩ = some (.int .u8 x3) := by rw [hW1]; exact hc3
  have c5 : W1.cell? ⟨d, o + 5, none⟩ = some (.int .u8 x5) := by rw [hW1]; exact hc5
  have c6 : W1.cell? ⟨d, o + 6, none⟩ = some (.int .u8 x6) := by rw [hW1]; exact hc6
  have c7 : W1.cell? ⟨d, o + 7, none⟩ = some (.int .u8 x7) := by rw [hW1]; exact hc7
  rw [← hW1]
  clear hW1 hc0 hc1 hc2 hc3 hc5 hc6 hc7 HS0 HR0 HB0 HWE
  go_wp2_with fail
  obtain ⟨e1, e2, e3, e4, f1, f2, f3, f4⟩ := WR.out
  go_quiet (fail)
  clear e1 e2 e3 e4 f1 f2 f3 f4
  go_upto_region 6 with fail
  obtain ⟨W2, hW2⟩ : ∃ W2, W2 = W1.drewN nq := ⟨_, rfl⟩
  have HRq2 : Hid (BoxF W2 w.heap.size zF) := by rw [hW2]; exact HRq
  have HBq2 : Hid (Below w.heap.size w W2) := by rw [hW2]; exact Lib.hid (below_drewN HBq.out _)
  have HSq2 : Hid (Shows W2 d (.slice (some ⟨d, o, none⟩) l.length c) l) := by rw [hW2]; exact HSq
  have k0 : W2.cell? ⟨d, o, none⟩ = some (.int .u8 x0) := by rw [hW2]; exact c0
  have k1 : W2.drew.cell? ⟨d, o + 1, none⟩ = some (.int .u8 x1) := by rw [hW2]; exact c1
  have k5 : W2.drew.cell? ⟨d, o + 5, none⟩ = some (.int .u8 x5) := by rw [hW2]; exact c5
  have k6 : W2.drew.cell? ⟨d, o + 6, none⟩ = some (.int .u8 x6) := by rw [hW2]; exact c6
  have k7 : W2.drew.cell? ⟨d, o + 7, none⟩ = some (.int .u8 x7) := by rw [hW2]; exact c7
  rw [← hW2]
  clear hW2 c0 c1 c2 c3 c5 c6 c7
  have v6 : IntKind.u16.wrap (x6 : Int) = (x6 : Int) := by rw [IntKind.wrap_u16]; omega
  have v7 : IntKind.u16.wrap (x7 : Int) = (x7 : Int) := by rw [IntKind.wrap_u16]; omega
  have v8 : IntKind.u16.wrap ((x6 : Int) * 256) = (x6 : Int) * 256 := by rw [IntKind.wrap_u16]; omega
  have v9 := orJoin16 x6 x7 b6 b7
  have hsl : ∀ w', Shows w' d (.slice (some ⟨d, o, none⟩) l.length c) l → (convert 22 9 (.slice (if c = 12 then some ⟨d, o, none⟩ else some ⟨d, o + 12, none⟩) (z - 12) (c - 12))).run Try.prog w' = .ok (.string (str8 ((l.take z).drop 12))) w' := fun w' h' => by
    have h1 := h'.head (k := z) hsz
    exact conv_at (h1.tail (k := 12) (by simp; omega) (if c = 12 then some ⟨d, o, none⟩ else some ⟨d, o + 12, none⟩) (fun hne => by rw [if_neg hne]; simp [add_plain']))
  have hcv1 := hsl W2.drew HSq2.out.drew
  obtain ⟨W3, hW3⟩ : ∃ W3, W3 = W2.alloc (Obj.cells #[.bool false, .bool false, .bool false, .bool false, .int .u8 0, .int .u8 0, .int .u16 0, .string ⟨#[]⟩] 44) := ⟨_, rfl⟩
  have hb23 : Below W2.heap.size W2 W3 := by rw [hW3]; exact below_box _ _
  have hS3 : Shows W3 d (.slice (some ⟨d, o, none⟩) l.length c) l := HSq2.out.keep hb23.size (fun hp => hb23.block _ (HSq2.out.lt hp))
  have hcv2 := hsl W3.drew hS3.drew
  have hk3 : ∀ i v, W2.drew.cell? ⟨d, o + i, none⟩ = some v → W3.drew.cell? ⟨d, o + i, none⟩ = some v := fun i v hv => (World.cell?_of_block (w := W2) (hb23.block d (HSq2.out.lt (by omega)))).trans hv
  have m1 := hk3 1 _ k1
  have m5 := hk3 5 _ k5
  have m6 := hk3 6 _ k6
  have m7 := hk3 7 _ k7
  rw [hW3] at hcv2 m1 m5 m6 m7
  clear hk3 hsl
  have HW3 := Lib.hid hW3
  clear hW3
  generalize str8 ((l.take z).drop 12) = py at *
  have ga : (((x0 : Int) / 8 % 2) == 1) = (x0 / 8 % 2 == 1) := by rw [Bool.eq_iff_iff]; simp; omega
  have gb : (((x0 : Int) / 4 % 2) == 1) = (x0 / 4 % 2 == 1) := by rw [Bool.eq_iff_iff]; simp; omega
  have gc : (((x0 : Int) / 2 % 2) == 1) = (x0 / 2 % 2 == 1) := by rw [Bool.eq_iff_iff]; simp; omega
  have gd : (((x0 : Int) % 2) == 1) = (x0 % 2 == 1) := by rw [Bool.eq_iff_iff]; simp; omega
  generalize (x0 / 8 % 2 == 1) = qa at *
  generalize (x0 / 4 % 2 == 1) = qb at *
  generalize (x0 / 2 % 2 == 1) = qc at *
  generalize (x0 % 2 == 1) = qd at *
  have GA := Lib.hid ga
  have GB := Lib.hid gb
  have GC := Lib.hid gc
  have GD := Lib.hid gd
  clear ga gb gc gd
  obtain ⟨z6, hz6⟩ : ∃ z6, z6 = 256 * x6 + x7 := ⟨_, rfl⟩
  rw [← hz6] at HOF v9
  have HZ6 := Lib.hid hz6
  clear hz6
  go_cut [5] from 30 to 51 (fun x wx => x = .pointer (some ⟨W2.heap.size, 0, none⟩) ∧ wx = (W2.alloc (Obj.cells #[.bool false, .bool false, .bool false, .bool false, .int .u8 x1, .int .u8 x5, .int .u16 z6, .string py] 44)).drew)
  case first =>
    go_region
    all_goals
      generalize (if c = 12 then (some ⟨d, o, none⟩ : Option Addr) else some ⟨d, o + 12, none⟩) = A12 at *
      go_wp2_with fail
      go_meet
      exact ⟨rfl, rfl⟩
  case rest =>
    obtain ⟨rfl, hW4⟩ := hcut
    rename World => W4
    clear k1 k5 k6 k7 m1 m5 m6 m7 v6 v7 v8 v9 hcv1 hcv2
    have hb24 : Below W2.heap.size W2 W4 := by rw [hW4]; exact below_drew1 (below_box _ _)
    have hF4 : BoxF W4 W2.heap.size ⟨false, false, false, false, x1, x5, z6, py⟩ := by rw [hW4]; exact BoxF.new W2 ⟨false, false, false, false, x1, x5, z6, py⟩
    have h40 : W4.cell? ⟨d, o, none⟩ = some (.int .u8 x0) := (World.cell?_of_block (w := W2) (hb24.block d (HSq2.out.lt (by omega)))).trans k0
    have HR4 := Lib.hid (HRq2.out.kept hb24 (Nat.le_refl _))
    have HB4 := Lib.hid (HBq2.out.trans (hb24.mono HBq2.out.size))
    have hdW : d < W2.heap.size := HSq2.out.lt (by omega)
    have HBOX := Lib.hid hF4
    have HR5 : Hid (∀ (w' : World), (∀ k, k ≠ W2.heap.size → w'.heap[k]? = W4.heap[k]?) → BoxF w' w.heap.size zF) := Lib.hid (fun w' hw' => (hw' _ (by have := HRq2.out.lt; omega)).trans HR4.out)
    have hne : d ≠ W2.heap.size := by omega
    have HC0 : Hid (∀ (w' : World), (∀ k, k ≠ W2.heap.size → w'.heap[k]? = W4.heap[k]?) → w'.cell? ⟨d, o, none⟩ = some (.int .u8 x0)) := Lib.hid (fun w' hw' => (World.cell?_of_block (w := W4) (hw' d hne)).trans h40)
    clear hW4 hF4 hb24 hb23 hS3 k0 HSq HBq HRq HW3 h40 hne b1 b2 b3 b5 b6 b7 i1 i2 i3 i5 i6 i7 hlz hsz hs12 hs4096
    have k0 := HC0.out W4 (fun _ _ => rfl)
    have f0 := HBOX.out.fr 0
    have q0 := HBOX.out.c0
    have g0 := GA.out
    go_upto_region 8 with fail
    have HBOX1 := Lib.hid (HBOX.out.set0 qa)
    have HB5 := Lib.hid (below_set (j := 0) HB4.out (by have := HBq2.out.size; omega : w.heap.size ≤ W2.heap.size) (.bool qa))
    have HK1 : Hid (∀ k, k ≠ W2.heap.size → (W4.setCell ⟨W2.heap.size, 0, none⟩ (.bool qa)).heap[k]? = W4.heap[k]?) := Lib.hid (fun k hk => (heap_setCell_other _ _ _ _ hk).trans rfl)
    clear k0 f0 q0 g0
    generalize W4.setCell ⟨W2.heap.size, 0, none⟩ (.bool qa) = W5 at *
    have k0 := HC0.out W5 HK1.out
    have f1 := HBOX1.out.fr 1
    have q1 := HBOX1.out.c1
    have g1 := GB.out
    go_upto_region 9 with fail
    have HBOX2 := Lib.hid (HBOX1.out.set1 qb)
    have HB6 := Lib.hid (below_set (j := 1) HB5.out (by have := HBq2.out.size; omega : w.heap.size ≤ W2.heap.size) (.bool qb))
    have HK2 : Hid (∀ k, k ≠ W2.heap.size → (W5.setCell ⟨W2.heap.size, 1, none⟩ (.bool qb)).heap[k]? = W4.heap[k]?) := Lib.hid (fun k hk => (heap_setCell_other _ _ _ _ hk).trans (HK1.out k hk))
    clear k0 f1 q1 g1
    generalize W5.setCell ⟨W2.heap.size, 1, none⟩ (.bool qb) = W6 at *
    have k0 := HC0.out W6 HK2.out
    have f2 := HBOX2.out.fr 2
    have q2 := HBOX2.out.c2
    have g2 := GC.out
    go_upto_region 10 with fail
    have HBOX3 := Lib.hid (HBOX2.out.set2 qc)
    have HB7 := Lib.hid (below_set (j := 2) HB6.out (by have := HBq2.out.size; omega : w.heap.size ≤ W2.heap.size) (.bool qc))
    have HK3 : Hid (∀ k, k ≠ W2.heap.size → (W6.setCell ⟨W2.heap.size, 2, none⟩ (.bool qc)).heap[k]? = W4.heap[k]?) := Lib.hid (fun k hk => (heap_setCell_other _ _ _ _ hk).trans (HK2.out k hk))
    clear k0 f2 q2 g2
    generalize W6.setCell ⟨W2.heap.size, 2, none⟩ (.bool qc) = W7 at *
    have k0 := HC0.out W7 HK3.out
    have f3 := HBOX3.out.fr 3
    have q3 := HBOX3.out.c3
    have g3 := GD.out
    go_upto_region 11 with fail
    have HBOX4 := Lib.hid (HBOX3.out.set3 qd)
    have HB8 := Lib.hid (below_set (j := 3) HB7.out (by have := HBq2.out.size; omega : w.heap.size ≤ W2.heap.size) (.bool qd))
    have HK4 : Hid (∀ k, k ≠ W2.heap.size → (W7.setCell ⟨W2.heap.size, 3, none⟩ (.bool qd)).heap[k]? = W4.heap[k]?) := Lib.hid (fun k hk => (heap_setCell_other _ _ _ _ hk).trans (HK3.out k hk))
    clear k0 f3 q3 g3
    generalize W7.setCell ⟨W2.heap.size, 3, none⟩ (.bool qd) = W8 at *
    have HRW := Lib.hid (HR5.out W8 HK4.out)
    have y0 := HBOX4.out.c0
    have y1 := HBOX4.out.c1
    have y2 := HBOX4.out.c2
    have y3 := HBOX4.out.c3
    have y4 := HBOX4.out.c4
    have y5 := HBOX4.out.c5
    have y6 := HBOX4.out.c6
    have y7 := HBOX4.out.c7
    have fz := HRW.out.fr
    have r0 := HRW.out.c0
    have r1 := HRW.out.c1
    have r2 := HRW.out.c2
    have r3 := HRW.out.c3
    have r4 := HRW.out.c4
    have r5 := HRW.out.c5
    have r6 := HRW.out.c6
    have r7 := HRW.out.c7
    go_wp2_with fail
    refine bodyPost_ret (results_cell_one rfl _ _ w.heap.size 44 _ (0, 0) _ rfl (HRW.out.setAll ⟨qa, qb, qc, qd, x1, x5, z6, py⟩) Try.underlying44 rfl (by kernel_rfl)) rfl ⟨?_, ?_⟩
    · rw [HOF.out]; rfl
    · exact below_setAll HB8.out (Nat.le_refl _) _ _ _ _ _ _ _ _

end Go.Proofs.Ytlcggpobelbfcaa
