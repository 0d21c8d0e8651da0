/-
  For all values and keys: Same and Find of package value answer as the document's own; what Find tells lies in new memory.
  Conditions: none.
-/
import Derived.Test.YtlcggpobelbfcaaValZd
import Derived.Test.YtlcggpobelbfcaaValQ
import Derived.Test.YtlcggpobelbfcaaValO
import Derived.Deep.RegionHeld3
import Derived.Deep.RegionWith
import Derived.Deep.CutRange
import Derived.Deep.CutBlock
import Derived.Deep.DeepCutAuto
import Derived.RegionTactic
import Derived.BigRegion
namespace Go.Proofs.Ytlcggpobelbfcaa
open Go.ChangeShapes Go.WideShapes Go.ChangeAt Go.RowKit
open Go.ChangeMaps (open_string shut_string)
set_option linter.unusedVariables false
set_option linter.unusedSimpArgs false

/-- Five values in boxes. -/
structure FiveV (w0 : World) (ba bb bo bx b_y : Nat) (t u xt : Tree) (A B O X Y : List Value) (w : World) : Prop where
  a : w.heap[ba]? = some (.cells A.toArray 29 (0, 0))
  b : w.heap[bb]? = some (.cells B.toArray 29 (0, 0))
  o : w.heap[bo]? = some (.cells O.toArray 29 (0, 0))
  x : w.heap[bx]? = some (.cells X.toArray 29 (0, 0))
  y : w.heap[b_y]? = some (.cells Y.toArray 29 (0, 0))
  ta : ShowsT w t A
  tb : ShowsT w u B
  to_ : ShowsT w t O
  tx : ShowsT w xt X
  ty : ShowsT w xt Y
  bel : Below w0.heap.size w0 w
section
variable {w0 w w' : World} {ba bb bo bx b_y : Nat} {t u xt : Tree} {A B O X Y : List Value}
theorem FiveV.step (h : FiveV w0 ba bb bo bx b_y t u xt A B O X Y w) (hb : Below w.heap.size w w') : FiveV w0 ba bb bo bx b_y t u xt A B O X Y w' := by
  have hk : ∀ k o, w.heap[k]? = some o → w'.heap[k]? = some o := fun k o h => (hb.block k (Array.getElem?_eq_some_iff.1 h).1).trans h
  exact ⟨hk _ _ h.a, hk _ _ h.b, hk _ _ h.o, hk _ _ h.x, hk _ _ h.y, h.ta.kept hb (Nat.le_refl _), h.tb.kept hb (Nat.le_refl _), h.to_.kept hb (Nat.le_refl _), h.tx.kept hb (Nat.le_refl _), h.ty.kept hb (Nat.le_refl _), h.bel.trans (hb.mono h.bel.size)⟩
theorem FiveV.drew (h : FiveV w0 ba bb bo bx b_y t u xt A B O X Y w) : FiveV w0 ba bb bo bx b_y t u xt A B O X Y w.drew :=
  h.step (below_drew1 (Below.refl _ _))
end
section
variable {w0 w : World} {ba bb bo bx b_y : Nat} {t u xt : Tree} {A B O X Y : List Value}
theorem FiveV.same_ob (h : FiveV w0 ba bb bo bx b_y t u xt A B O X Y w) (hc : cntT t ≤ 1000000) : Calls Try.prog 18 #[.agg O.toArray, .agg B.toArray] w fun e w' => e = .returned (.bool (sameT t u)) ∧ FiveV w0 ba bb bo bx b_y t u xt A B O X Y w' :=
  (same_any t u O B w h.to_ h.tb hc).mono fun e w' he => ⟨he.1, h.step he.2⟩
theorem FiveV.same_ao (h : FiveV w0 ba bb bo bx b_y t u xt A B O X Y w) (hc : cntT t ≤ 1000000) : Calls Try.prog 18 #[.agg A.toArray, .agg O.toArray] w fun e w' => e = .returned (.bool true) ∧ FiveV w0 ba bb bo bx b_y t u xt A B O X Y w' :=
  (same_any t t A O w h.ta h.to_ hc).mono fun e w' he => ⟨by rw [he.1, sameT_refl], h.step he.2⟩
theorem FiveV.same_ab (h : FiveV w0 ba bb bo bx b_y t u xt A B O X Y w) : Calls Try.prog 13 #[.agg A.toArray, .agg B.toArray] w fun e w' => e = .returned (.bool (sameT t u)) ∧ FiveV w0 ba bb bo bx b_y t u xt A B O X Y w' :=
  (qsame_main _ t u A B w rfl h.ta h.tb).mono fun e w' he => ⟨he.1, h.step he.2⟩
theorem FiveV.same_xy (h : FiveV w0 ba bb bo bx b_y t u xt A B O X Y w) : Calls Try.prog 13 #[.agg X.toArray, .agg Y.toArray] w fun e w' => e = .returned (.bool true) ∧ FiveV w0 ba bb bo bx b_y t u xt A B O X Y w' :=
  (qsame_main _ xt xt X Y w rfl h.tx h.ty).mono fun e w' he => ⟨by rw [he.1, sameT_refl], h.step he.2⟩
end
theorem box_cells {w : World} {b : Nat} {v0 v1 v2 v3 v4 : Value} (h : w.heap[b]? = some (.cells #[v0, v1, v2, v3, v4] 29 (0, 0))) : w.cell? ⟨b, 0, none⟩ = some v0 ∧ w.cell? ⟨b, 1, none⟩ = some v1 ∧ w.cell? ⟨b, 2, none⟩ = some v2 ∧ w.cell? ⟨b, 3, none⟩ = some v3 ∧ w.cell? ⟨b, 4, none⟩ = some v4 :=
  have h' : BoxV w b v0 v1 v2 v3 v4 := h
  ⟨h'.c0, h'.c1, h'.c2, h'.c3, h'.c4⟩

set_option maxRecDepth 100000 in
set_option maxHeartbeats 8000000 in
theorem vsame_walk (t : Tree) (vs : List Value) (u : Tree) (us : List Value) (s : ByteArray) (w : World) (h : ShowsT w t vs) (hu : ShowsT w u us) (hsz : s.size ≤ 140737488351232) :
    Calls Try.prog 4 #[.agg vs.toArray, .agg us.toArray, .string s] w fun e w' => e = .returned (.bool true) ∧ Below w.heap.size w w' := by
  have HSM := Lib.hid (fun w' (hw' : Below w.heap.size w w') => small_any t vs w' (h.kept hw' (Nat.le_refl _)))
  have HSU := Lib.hid (fun w' (hw' : Below w.heap.size w w') => small_any u us w' (hu.kept hw' (Nat.le_refl _)))
  have HH := Lib.hid head_any
  have HCO := Lib.hid (fun (hc : cntT t ≤ 400) w' (hw' : Below w.heap.size w w') => copy_any _ t vs w' rfl (h.kept hw' (Nat.le_refl _)) (by omega))
  have HFV := Lib.hid (fun vs w h hc => vfind_any t vs s w h hc)
  have HFQ := Lib.hid (fun w' (hw' : Below w.heap.size w w') => qfind_any t vs s w' (h.kept hw' (Nat.le_refl _)))
  have HTA := Lib.hid (fun w' (hw' : Below w.heap.size w w') => h.kept hw' (Nat.le_refl _))
  have HTB := Lib.hid (fun w' (hw' : Below w.heap.size w w') => hu.kept hw' (Nat.le_refl _))
  obtain ⟨k0, n0, s0, a3, n3, c3, a4, n4, c4, rfl⟩ := h.cells5
  obtain ⟨k1, n1, s1, b3, m3, d3, b4, m4, d4, rfl⟩ := hu.cells5
  obtain ⟨W2, hW2⟩ : ∃ W2, W2 = (w.alloc (Obj.cells #[.int .u8 k0, .int .u64 n0, .string s0, .slice a3 n3 c3, .slice a4 n4 c4] 29)).alloc (Obj.cells #[.int .u8 k1, .int .u64 n1, .string s1, .slice b3 m3 d3, .slice b4 m4 d4] 29) := ⟨_, rfl⟩
  have hB2 : Below w.heap.size w W2 := by rw [hW2]; exact (below_boxV _ _).alloc (by simp) _
  have hX2 : BoxV W2 w.heap.size (.int .u8 k0) (.int .u64 n0) (.string s0) (.slice a3 n3 c3) (.slice a4 n4 c4) := by rw [hW2]; exact (BoxV.new w).kept ((Below.refl _ _).alloc (Nat.le_refl _) _) (Nat.le_refl _)
  have hZ2 : BoxV W2 (w.heap.size + 1) (.int .u8 k1) (.int .u64 n1) (.string s1) (.slice b3 m3 d3) (.slice b4 m4 d4) := by
    rw [hW2]
    have := BoxV.new (v0 := .int .u8 k1) (v1 := .int .u64 n1) (v2 := .string s1) (v3 := .slice b3 m3 d3) (v4 := .slice b4 m4 d4) (w.alloc (Obj.cells #[.int .u8 k0, .int .u64 n0, .string s0, .slice a3 n3 c3, .slice a4 n4 c4] 29))
    rw [World.size_alloc] at this
    exact this
  have HB2 := Lib.hid hB2
  have HX2 := Lib.hid hX2
  have HZ2 := Lib.hid hZ2
  have x0 := hX2.c0
  have x1 := hX2.c1
  have x2 := hX2.c2
  have x3 := hX2.c3
  have x4 := hX2.c4
  have HS1 := Lib.hid (HSM.out W2 hB2)
  clear h hu hB2 hX2 hZ2
  go_enter Try.func4, Try.ntmps4
  go_upto_region 1 with fail
  rw [← hW2]
  have HW2 := Lib.hid hW2
  clear hW2
  go_wp2_with fail
  refine HS1.out.mono ?_
  rintro e w3 ⟨r1, rfl, hr1, hb3⟩
  have HR1 := Lib.hid hr1
  have HB3 := Lib.hid (HB2.out.trans (hb3.mono HB2.out.size))
  have HX3 := Lib.hid (HX2.out.kept hb3 (Nat.le_refl _))
  have HZ3 := Lib.hid (HZ2.out.kept hb3 (Nat.le_refl _))
  clear hr1 hb3 x0 x1 x2 x3 x4
  cases r1 with
  | false =>
    go_wp2_with fail
    refine (HH.out _).mono ?_
    rintro e w4 ⟨rfl, hb4⟩
    go_wp2_with fail
    go_ret
    exact ⟨rfl, HB3.out.trans (hb4.mono HB3.out.size)⟩
  | true =>
  have z0 := HZ3.out.c0
  have z1 := HZ3.out.c1
  have z2 := HZ3.out.c2
  have z3 := HZ3.out.c3
  have z4 := HZ3.out.c4
  have HS2 := Lib.hid (HSU.out w3 HB3.out)
  go_wp2_with fail
  refine HS2.out.mono ?_
  rintro e w4 ⟨r2, rfl, hr2, hb4⟩
  have HR2 := Lib.hid hr2
  have HB4 := Lib.hid (HB3.out.trans (hb4.mono HB3.out.size))
  have HX4 := Lib.hid (HX3.out.kept hb4 (Nat.le_refl _))
  have HZ4 := Lib.hid (HZ3.out.kept hb4 (Nat.le_refl _))
  clear hr2 hb4 z0 z1 z2 z3 z4
  cases r2 with
  | false =>
    go_wp2_with fail
    refine (HH.out _).mono ?_
    rintro e w4 ⟨rfl, hb4⟩
    go_wp2_with fail
    go_ret
    exact ⟨rfl, HB4.out.trans (hb4.mono HB4.out.size)⟩
  | true =>
  have hct := (HR1.out (by first | rfl | trivial)).1
  have hcu := (HR2.out (by first | rfl | trivial)).1
  have HCT := Lib.hid (And.intro hct hcu)
  have HC4 := Lib.hid (HCO.out hct w4 HB4.out)
  unfold CopySaid at HC4
  have x0 := HX4.out.c0
  have x1 := HX4.out.c1
  have x2 := HX4.out.c2
  have x3 := HX4.out.c3
  have x4 := HX4.out.c4
  clear hct hcu
  go_wp2_with fail
  refine HC4.out.mono ?_
  rintro e w5 ⟨vs5, rfl, hsh5, hb5⟩
  obtain ⟨ko, no, so, o3, p3, q3, o4, p4, q4, rfl⟩ := hsh5.cells5
  have HB5 := Lib.hid (HB4.out.trans (hb5.mono HB4.out.size))
  have hTO := hsh5.sub (low_out _ _)
  obtain ⟨W5, hW5⟩ : ∃ W5, W5 = w5.alloc (Obj.cells #[.int .u8 ko, .int .u64 no, .string so, .slice o3 p3 q3, .slice o4 p4 q4] 29) := ⟨_, rfl⟩
  have hbA5 : Below w5.heap.size w5 W5 := by rw [hW5]; exact below_boxV _ _
  have HO5 : Hid (BoxV W5 w5.heap.size (.int .u8 ko) (.int .u64 no) (.string so) (.slice o3 p3 q3) (.slice o4 p4 q4)) := Lib.hid (by rw [hW5]; exact BoxV.new w5)
  have HB5A := Lib.hid (HB5.out.trans (hbA5.mono HB5.out.size))
  have HX5 := Lib.hid ((HX4.out.kept hb5 (Nat.le_refl _)).kept hbA5 (Nat.le_refl _))
  have HZ5 := Lib.hid ((HZ4.out.kept hb5 (Nat.le_refl _)).kept hbA5 (Nat.le_refl _))
  have HTO5 := Lib.hid (hTO.kept hbA5 (Nat.le_refl _))
  have HF5 := Lib.hid (HFV.out _ W5 HTO5.out (by have := HCT.out.1; omega))
  clear x0 x1 x2 x3 x4 hsh5 hTO hbA5 hb5
  go_upto_region 4 with fail
  rw [← hW5]
  have HW5 := Lib.hid hW5
  clear hW5
  have o0 := HO5.out.c0
  have o1 := HO5.out.c1
  have o2 := HO5.out.c2
  have o3' := HO5.out.c3
  have o4' := HO5.out.c4
  go_wp2_with fail
  refine HF5.out.mono ?_
  rintro e w6 ⟨kx, nx, sx, kvx, lvx, xs, isx, rfl, hshx, hox, hxl, hix, hb6⟩
  obtain ⟨kx', nx', sx', x3, y3, z3, x4, y4, z4, hvx⟩ := hshx.cells5
  simp only [List.cons.injEq, and_true] at hvx
  obtain ⟨_, _, _, hx3, hx4⟩ := hvx
  subst hx3
  subst hx4
  have HIX := Lib.hid hix
  have HXL := Lib.hid hxl
  have HOX := Lib.hid hox
  have HB56 := Lib.hid hb6
  have HB6 := Lib.hid (HB5A.out.trans (hb6.mono HB5A.out.size))
  have hTX := hshx.sub (low_out _ _)
  obtain ⟨W6, hW6⟩ : ∃ W6, W6 = w6.alloc (Obj.cells #[.int .u8 kx, .int .u64 nx, .string sx, .slice x3 y3 z3, .slice x4 y4 z4] 29) := ⟨_, rfl⟩
  have hbA6 : Below w6.heap.size w6 W6 := by rw [hW6]; exact below_boxV _ _
  have HXB6 : Hid (BoxV W6 w6.heap.size (.int .u8 kx) (.int .u64 nx) (.string sx) (.slice x3 y3 z3) (.slice x4 y4 z4)) := Lib.hid (by rw [hW6]; exact BoxV.new w6)
  have hb56A := hb6.trans (hbA6.mono hb6.size)
  have HB56A := Lib.hid hb56A
  have HB6A := Lib.hid (HB6.out.trans (hbA6.mono HB6.out.size))
  have HX6 := Lib.hid (HX5.out.kept hb56A (Nat.le_refl _))
  have HZ6 := Lib.hid (HZ5.out.kept hb56A (Nat.le_refl _))
  have HO6 := Lib.hid (HO5.out.kept hb56A (Nat.le_refl _))
  have HTX6 := Lib.hid (hTX.kept hbA6 (Nat.le_refl _))
  have HOX6 := Lib.hid (hox.below hbA6 (Nat.le_refl _))
  have HF6 := Lib.hid (HFQ.out W6 HB6A.out)
  unfold FindSaid at HF6
  generalize hX : (findD t s).getD tz = XT at *
  generalize hI : (findD t s).isSome = IS at *
  have HXX := Lib.hid hX
  clear o0 o1 o2 o3' o4' hshx hTX hbA6 hb6 hb56A hix hxl hox hX hI
  go_upto_region 5 with fail
  rw [← hW6]
  have HW6 := Lib.hid hW6
  clear hW6
  have x0 := HX6.out.c0
  have x1 := HX6.out.c1
  have x2 := HX6.out.c2
  have x3' := HX6.out.c3
  have x4' := HX6.out.c4
  go_wp2_with fail
  refine HF6.out.mono ?_
  rintro e w7 ⟨vsy, isy, rfl, hshy, hiy, hb7⟩
  obtain ⟨ky, ny, sy, e3, f3, g3, e4, f4, g4, rfl⟩ := hshy.cells5
  obtain rfl : isx = isy := by rw [HIX.out, hiy]
  have HB7 := Lib.hid (HB6A.out.trans (hb7.mono HB6A.out.size))
  obtain ⟨W7, hW7⟩ : ∃ W7, W7 = w7.alloc (Obj.cells #[.int .u8 ky, .int .u64 ny, .string sy, .slice e3 f3 g3, .slice e4 f4 g4] 29) := ⟨_, rfl⟩
  have hbA7 : Below w7.heap.size w7 W7 := by rw [hW7]; exact below_boxV _ _
  have hb67 := hb7.trans (hbA7.mono hb7.size)
  have HB7A := Lib.hid (HB7.out.trans (hbA7.mono HB7.out.size))
  have HB57 := Lib.hid (HB56A.out.trans (hb67.mono HB56A.out.size))
  have HOX7 := Lib.hid (HOX6.out.below hb67 (Nat.le_refl _))
  have HF7 : Hid (FiveV W7 w.heap.size (w.heap.size + 1) w5.heap.size w6.heap.size w7.heap.size t u XT [.int .u8 k0, .int .u64 n0, .string s0, .slice a3 n3 c3, .slice a4 n4 c4] [.int .u8 k1, .int .u64 n1, .string s1, .slice b3 m3 d3, .slice b4 m4 d4] [.int .u8 ko, .int .u64 no, .string so, .slice o3 p3 q3, .slice o4 p4 q4] [.int .u8 kx, .int .u64 nx, .string sx, .slice x3 y3 z3, .slice x4 y4 z4] [.int .u8 ky, .int .u64 ny, .string sy, .slice e3 f3 g3, .slice e4 f4 g4] W7) :=
    Lib.hid ⟨HX6.out.kept hb67 (Nat.le_refl _), HZ6.out.kept hb67 (Nat.le_refl _), HO6.out.kept hb67 (Nat.le_refl _), HXB6.out.kept hb67 (Nat.le_refl _), by rw [hW7]; exact BoxV.new w7, HTA.out _ HB7A.out, HTB.out _ HB7A.out, HTO5.out.kept HB57.out (Nat.le_refl _), HTX6.out.kept hb67 (Nat.le_refl _), hshy.kept hbA7 (Nat.le_refl _), Below.refl _ _⟩
  clear x0 x1 x2 x3' x4' hshy hbA7 hb7 hb67 hiy
  go_upto_region 6 with fail
  rw [← hW7]
  have HW7 := Lib.hid hW7
  clear hW7
  have hcnt : cntT t ≤ 1000000 := by have := HCT.out.1; omega
  have hFd := HF7.out.drew
  generalize sameT t u = r at *
  have HTA5 := Lib.hid (HTA.out W5 HB5A.out)
  clear HSM HSU HCO HFV HFQ HTA HTB HS1 HS2 HC4 HF5 HF6 HB2 HX2 HZ2 HW2 HB3 HX3 HZ3 HB4 HX4 HZ4 HR1 HR2
  go_cut [59] from 36 to 60 (fun q wx => q = .bool false ∧ Hid (Below W7.heap.size W7 wx))
  case first =>
    go_region_held3 (fun w' => (w'.cell? ⟨w.heap.size, 0, none⟩ = some (.int .u8 k0) ∧ w'.cell? ⟨w.heap.size, 1, none⟩ = some (.int .u64 n0) ∧ w'.cell? ⟨w.heap.size, 2, none⟩ = some (.string s0) ∧ w'.cell? ⟨w.heap.size, 3, none⟩ = some (.slice a3 n3 c3) ∧ w'.cell? ⟨w.heap.size, 4, none⟩ = some (.slice a4 n4 c4)) ∧ (w'.cell? ⟨w.heap.size + 1, 0, none⟩ = some (.int .u8 k1) ∧ w'.cell? ⟨w.heap.size + 1, 1, none⟩ = some (.int .u64 n1) ∧ w'.cell? ⟨w.heap.size + 1, 2, none⟩ = some (.string s1) ∧ w'.cell? ⟨w.heap.size + 1, 3, none⟩ = some (.slice b3 m3 d3) ∧ w'.cell? ⟨w.heap.size + 1, 4, none⟩ = some (.slice b4 m4 d4)) ∧ (w'.cell? ⟨w5.heap.size, 0, none⟩ = some (.int .u8 ko) ∧ w'.cell? ⟨w5.heap.size, 1, none⟩ = some (.int .u64 no) ∧ w'.cell? ⟨w5.heap.size, 2, none⟩ = some (.string so) ∧ w'.cell? ⟨w5.heap.size, 3, none⟩ = some (.slice o3 p3 q3) ∧ w'.cell? ⟨w5.heap.size, 4, none⟩ = some (.slice o4 p4 q4)) ∧ (w'.cell? ⟨w6.heap.size, 0, none⟩ = some (.int .u8 kx) ∧ w'.cell? ⟨w6.heap.size, 1, none⟩ = some (.int .u64 nx) ∧ w'.cell? ⟨w6.heap.size, 2, none⟩ = some (.string sx) ∧ w'.cell? ⟨w6.heap.size, 3, none⟩ = some (.slice x3 y3 z3) ∧ w'.cell? ⟨w6.heap.size, 4, none⟩ = some (.slice x4 y4 z4)) ∧ (w'.cell? ⟨w7.heap.size, 0, none⟩ = some (.int .u8 ky) ∧ w'.cell? ⟨w7.heap.size, 1, none⟩ = some (.int .u64 ny) ∧ w'.cell? ⟨w7.heap.size, 2, none⟩ = some (.string sy) ∧ w'.cell? ⟨w7.heap.size, 3, none⟩ = some (.slice e3 f3 g3) ∧ w'.cell? ⟨w7.heap.size, 4, none⟩ = some (.slice e4 f4 g4))) (exact ⟨box_cells (FiveV.a (by assumption)), box_cells (FiveV.b (by assumption)), box_cells (FiveV.o (by assumption)), box_cells (FiveV.x (by assumption)), box_cells (FiveV.y (by assumption))⟩)
      (first
        | (go_at_call_of 18 (Value.agg #[.int .u8 k1, .int .u64 n1, .string s1, .slice b3 m3 d3, .slice b4 m4 d4]); refine (FiveV.same_ob (by assumption) hcnt).mono ?_; rintro e wx ⟨rfl, hx⟩)
        | (go_at_call_of 18 (Value.agg #[.int .u8 k0, .int .u64 n0, .string s0, .slice a3 n3 c3, .slice a4 n4 c4]); refine (FiveV.same_ao (by assumption) hcnt).mono ?_; rintro e wx ⟨rfl, hx⟩)
        | (go_at_call_of 13 (Value.agg #[.int .u8 k1, .int .u64 n1, .string s1, .slice b3 m3 d3, .slice b4 m4 d4]); refine (FiveV.same_ab (by assumption)).mono ?_; rintro e wx ⟨rfl, hx⟩)
        | (go_at_call_of 13 (Value.agg #[.int .u8 kx, .int .u64 nx, .string sx, .slice x3 y3 z3, .slice x4 y4 z4]); refine (FiveV.same_xy (by assumption)).mono ?_; rintro e wx ⟨rfl, hx⟩))
    all_goals
      go_wp2_with fail
      go_meet
      exact ⟨rfl, Lib.hid hx.bel⟩
  case rest =>
    obtain ⟨rfl, HBC⟩ := hcut
    rename World => w8
    have hF8 := HF7.out.step HBC.out
    have HO8 := Lib.hid (HOX7.out.below HBC.out (Nat.le_refl _))
    have HB58 := Lib.hid (HB57.out.trans (HBC.out.mono HB57.out.size))
    have HF8 := Lib.hid hF8
    have hXb : BoxV w8 w6.heap.size (.int .u8 kx) (.int .u64 nx) (.string sx) (.slice x3 y3 z3) (.slice x4 y4 z4) := hF8.x
    have HXB8 := Lib.hid hXb
    obtain ⟨hyl, hyc, hcm4⟩ := HO8.out.len_
    have h62 := HB56.out.size
    have hy63 : y4 ≤ 9223372036854775807 := by simp only [maxLen] at hcm4; omega
    clear hF8 hXb hFd
    go_wp2_with fail
    go_loopw [12] (fun i wr => ∃ (j : Nat) (ys : List Cell5), j ≤ y4 ∧ i = .int .i64 j ∧ ys.length = y4 ∧ OwnG valC 29 wr W5.heap.size (.slice x4 y4 z4) ys ∧ BoxV wr w6.heap.size (.int .u8 kx) (.int .u64 nx) (.string sx) (.slice x3 y3 z3) (.slice x4 y4 z4) ∧ Hid (Below W5.heap.size W5 wr)) (fun i _ => y4 - (intOf i).toNat)
    case atStart => exact ⟨0, xs, Nat.zero_le _, rfl, hyl, HO8.out, HXB8.out, HB58⟩
    case round =>
      obtain ⟨j, ys, hj, rfl, hyl2, ho, hX, HB⟩ := hrel
      rename World => wr
      have q4 := hX.c4
      by_cases hlt : j < y4
      · have hjl : (j : Int) < (y4 : Int) := by omega
        have hjy : j < ys.length := by omega
        obtain ⟨b, hbA, hb2, hbl, hfr, hcl⟩ := ho.at_ (by omega)
        subst hbA
        have hN : wr.cell? ⟨b, j * 5 + 1, none⟩ = some (.int .u64 (ys[j]'hjy).n) := hcl j hjy 1 (by decide)
        have hN' : wr.drew.cell? ⟨b, j * 5 + 1, none⟩ = some (.int .u64 (ys[j]'hjy).n) := hN
        have q4' : wr.drew.cell? ⟨w6.heap.size, 4, none⟩ = _ := q4
        have hfr' : ∀ i, wr.drew.frozen? ⟨b, i, none⟩ = false := hfr
        have HST := Lib.hid (ho.set_ j 1 hjy (by decide) { (ys[j]'hjy) with n := ((ys[j]'hjy).n + 1) % 18446744073709551616 } (.int .u64 (((ys[j]'hjy).n + 1) % 18446744073709551616 : Nat)) (by simp [valC, Cell5.vs]))
        have hwr : IntKind.u64.wrap (((ys[j]'hjy).n : Int) + 1) = (((ys[j]'hjy).n + 1) % 18446744073709551616 : Nat) := by rw [IntKind.wrap_u64]; omega
        have hb6' : b < w6.heap.size := (HOX.out.block b rfl).2
        have HBX := Lib.hid (show Below W5.heap.size W5 (wr.setCell ⟨b, j * 5 + 1, none⟩ (.int .u64 (((ys[j]'hjy).n + 1) % 18446744073709551616 : Nat))) from below_set HB.out hb2 _)
        have HXK := Lib.hid (show BoxV (wr.setCell ⟨b, j * 5 + 1, none⟩ (.int .u64 (((ys[j]'hjy).n + 1) % 18446744073709551616 : Nat))) w6.heap.size _ _ _ _ _ from (heap_setCell_other _ _ _ _ (by show w6.heap.size ≠ b; omega)).trans hX)
        clear hcl ho hX
        obtain ⟨nj, hnj⟩ : ∃ nj, nj = (ys[j]'hjy).n := ⟨_, rfl⟩
        obtain ⟨nk, hnk⟩ : ∃ nk, nk = ((ys[j]'hjy).n + 1) % 18446744073709551616 := ⟨_, rfl⟩
        rw [← hnk] at HST HBX HXK hwr
        rw [← hnj] at hN hN' hwr
        have HNJ := Lib.hid hnj
        have HNK := Lib.hid hnk
        have HOW : Hid (OwnG valC 29 (wr.setCell ⟨b, j * 5 + 1, none⟩ (.int .u64 nk)).drew W5.heap.size (.slice (some ⟨b, 0, none⟩) y4 z4) (ys.set j { (ys[j]'hjy) with n := nk })) := Lib.hid (HST.out.keep fun _ _ => rfl)
        have HXW : Hid (BoxV (wr.setCell ⟨b, j * 5 + 1, none⟩ (.int .u64 nk)).drew w6.heap.size (.int .u8 kx) (.int .u64 nx) (.string sx) (.slice x3 y3 z3) (.slice (some ⟨b, 0, none⟩) y4 z4)) := HXK
        have HBW : Hid (Below W5.heap.size W5 (wr.setCell ⟨b, j * 5 + 1, none⟩ (.int .u64 nk)).drew) := Lib.hid (below_drew1 HBX.out)
        have HYL : Hid ((ys.set j { (ys[j]'hjy) with n := nk }).length = y4) := Lib.hid (by rw [List.length_set]; exact hyl2)
        clear hnj hnk
        go_upto_region 11 with fail
        go_region
        all_goals
          clear hN hN' q4 q4' hfr hfr' hwr
          go_wp2_with fail
          go_roundw
          case rel => exact ⟨j + 1, _, by omega, by go_num, HYL.out, HOW.out, HXW.out, HBW⟩
          case measure => simp [intOf]; omega
      · have hjl : ¬ (j : Int) < (y4 : Int) := by omega
        have hO := HO5.out.kept HB.out (Nat.le_refl _)
        have hA := HX5.out.kept HB.out (Nat.le_refl _)
        have HSA := Lib.hid (qsame_main _ t t _ _ wr rfl (HTO5.out.kept HB.out (Nat.le_refl _)) (HTA5.out.kept HB.out (Nat.le_refl _)))
        rw [sameT_refl] at HSA
        have HBE := Lib.hid (HB5A.out.trans (HB.out.mono HB5A.out.size))
        have o0 := hO.c0
        have o1 := hO.c1
        have o2 := hO.c2
        have o3' := hO.c3
        have o4' := hO.c4
        have a0 := hA.c0
        have a1 := hA.c1
        have a2 := hA.c2
        have a3' := hA.c3
        have a4' := hA.c4
        clear hO hA ho hX
        go_wp2_with fail
        refine HSA.out.mono ?_
        rintro e w9 ⟨rfl, hb9⟩
        have HB9 := Lib.hid (HBE.out.trans (hb9.mono HBE.out.size))
        clear o0 o1 o2 o3' o4' a0 a1 a2 a3' a4' hb9
        go_wp2_with fail
        refine (HH.out _).mono ?_
        rintro e w10 ⟨rfl, hb10⟩
        go_wp2_with fail
        go_ret
        exact ⟨rfl, HB9.out.trans (hb10.mono HB9.out.size)⟩

set_option maxRecDepth 100000 in
set_option maxHeartbeats 1000000 in
theorem vsame_walk_lifted (os : Os) (started : os.Started) (H : Type) (enc : TypeId × Value → H) :
    ReturnsInHanded {} Try.checked os 4 .any (Rows.valueSameSpec.pre6 enc Try.prog Try.f4 Rows.valueSameRow.domain false) (Rows.valueSameSpec.post enc Try.prog Try.f4 false true false false) := by
  refine returnsInHanded_of_change_sized (C := Try.checked) own started (by kernel_rfl) Try.func4
    (ChangeSpec.witness6 (enc := enc) (C := Try.checked) false ⟨#[], #[.agg #[.int .u8 0, .int .u64 0, .string ⟨#[]⟩, .slice none 0 0, .slice none 0 0], .agg #[.int .u8 0, .int .u64 0, .string ⟨#[]⟩, .slice none 0 0, .slice none 0 0], .string ⟨#[]⟩], []⟩ 8 (by kernel_rfl) (by kernel_rfl) (by kernel_rfl) (by kernel_rfl)) ?_
  intro W base args ds gs before hval0 hW hcnd hsz0 _
  have hval : ∀ (j : Nat) t v, Try.f4.params[j]? = some t → args[j]? = some v → Value.okWide Try.prog W .any base t v := hval0
  have hsz : (DataW.weightsEach Try.prog (Try.f4.params.toList ++ Rows.valueSameSpec.plain.varTypes Try.prog) (ds ++ gs)).all (· ≤ reachBytes) = true := hsz0
  have hW' := hW
  obtain ⟨p, q, hA0, hV, rfl, hfz, hnd⟩ := hW
  have hA : DataW.TrodAll enc Try.prog W 0 (fun _ => true) true Try.f4.params.toList args.toList ds p := hA0
  rw [Try.params4] at hA hval hsz
  obtain ⟨v0, vs0, d0, ds0, p0, q0, hargs, rfl, rfl, h0, r0⟩ := trodAll_cons hA
  obtain ⟨v1, vs1, d1, ds1, p1, q1, rfl, rfl, rfl, h1, r1⟩ := trodAll_cons r0
  obtain ⟨v2, vs2, d2, ds2, p2, q2, rfl, rfl, rfl, h2, r2⟩ := trodAll_cons r1
  obtain ⟨rfl, rfl, rfl⟩ := trodAll_nil r2
  obtain rfl : args = #[v0, v1, v2] := by cases args; simp_all
  obtain ⟨rfl, rfl⟩ := trodVars_none hV
  have k0 := h0
  have lt0 : ∀ x ∈ p0, x.block < W.heap.size := by obtain ⟨m, hm⟩ := k0; exact DataW.trod_lt m _ _ _ hm
  have k1 := h1
  have lt1 : ∀ x ∈ p1, x.block < W.heap.size := by obtain ⟨m, hm⟩ := k1; exact DataW.trod_lt m _ _ _ hm
  have k2 := h2
  have lt2 : ∀ x ∈ p2, x.block < W.heap.size := by obtain ⟨m, hm⟩ := k2; exact DataW.trod_lt m _ _ _ hm
  obtain ⟨T0, C0, rfl, sh0⟩ := open_value (hval 0 29 v0 rfl rfl) h0 hsz 0 rfl rfl
  obtain ⟨T1, C1, rfl, sh1⟩ := open_value (hval 1 29 v1 rfl rfl) h1 hsz 1 rfl rfl
  obtain ⟨s2, rfl, rfl, rfl, _⟩ := open_string Try.underlying9 (hval 2 9 v2 rfl rfl) h2
  have zs2 := sized_string hsz (j := 2) (t := 9) rfl rfl
  have zt2 : s2.size ≤ 140737488351232 := by rw [← sb_length]; exact zs2
  clear hA0 hval0
  refine (vsame_walk T0 C0 T1 C1 s2 W sh0 sh1 zt2).mono fun e W' ⟨he, bel⟩ => ?_
  subst he
  exact ⟨_, rfl, _, _, _, [], _, [], hW', trodAll_mk1 (shut_bool Try.underlying4 _), (trodAll_cons_mk (Below.trod laidOut (by kernel_rfl) (of_decide_eq_true (by kernel_rfl)) k0 bel lt0) (trodAll_cons_mk (Below.trod laidOut (by kernel_rfl) (of_decide_eq_true (by kernel_rfl)) k1 bel lt1) (trodAll_cons_mk (Below.trod laidOut (by kernel_rfl) (of_decide_eq_true (by kernel_rfl)) k2 bel lt2) trodAll_mk0))), rfl, bel.frame _, fun h => by cases h⟩

theorem valueSame_holds : Rows.ValueSameSaid :=
  OpenClaim.holds_of_wide 4 Try.f4 rfl rfl rfl rfl rfl rfl rfl ⟨rfl, rfl, rfl, rfl, rfl⟩ rfl rfl rfl rfl rfl (by kernel_rfl) Try.func4 (by kernel_rfl)
    (of_decide_eq_true (by kernel_rfl)) (by unfold Func.isWrapper; first | (rw [if_pos (by decide +kernel)]; kernel_rfl) | (rw [if_neg (by decide +kernel)]; exact ⟨rfl, rfl⟩))
    (fun os started H enc _ => vsame_walk_lifted os started H enc)
#print axioms valueSame_holds
end Go.Proofs.Ytlcggpobelbfcaa
