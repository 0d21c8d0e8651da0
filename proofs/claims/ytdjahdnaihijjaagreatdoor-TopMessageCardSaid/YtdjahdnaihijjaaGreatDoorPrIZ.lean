/-
  Texts, together: PrI, PrJ, PrQ.
  Conditions: none but sizes.
-/
import Derived.Test.YtdjahdnaihijjaaGreatDoorPrGZ
import Derived.Test.YtdjahdnaihijjaaGreatDoorPrDZ
/-
  The contracts of props.decoded and of props.Get.
  Conditions: none but sizes.
-/
namespace Go.Proofs.YtdjahdnaihijjaaGreatDoor
open Go.RowKit
set_option linter.unusedVariables false
set_option linter.unusedSimpArgs false

abbrev zbox : Obj := Obj.cells #[.string ⟨#[]⟩, .bool false, .bool false, .string ⟨#[]⟩, .int .u8 0, .int .u64 0, .string ⟨#[]⟩, .slice none 0 0, .slice none 0 0] 29
def BoxZP (w : World) (b : Nat) (p : PropP) : Prop := BoxPr w b p (.int .u8 0) (.int .u64 0) (.string ⟨#[]⟩) (.slice none 0 0) (.slice none 0 0)
theorem BoxZP.dur {w : World} {b : Nat} {p : PropP} (h : BoxZP w b p) (x : Bool) : BoxZP (w.setCell ⟨b, 1, none⟩ (.bool x)) b { p with dur := x } := heap_setCell_same w b 1 _ 29 (.bool x) h
theorem BoxZP.red {w : World} {b : Nat} {p : PropP} (h : BoxZP w b p) (x : Bool) : BoxZP (w.setCell ⟨b, 2, none⟩ (.bool x)) b { p with red := x } := heap_setCell_same w b 2 _ 29 (.bool x) h
theorem BoxZP.key {w : World} {b : Nat} {p : PropP} (h : BoxZP w b p) (x : ByteArray) : BoxZP (w.setCell ⟨b, 0, none⟩ (.string x)) b { p with key := x } := heap_setCell_same w b 0 _ 29 (.string x) h
theorem BoxZP.id {w : World} {b : Nat} {p : PropP} (h : BoxZP w b p) (x : ByteArray) : BoxZP (w.setCell ⟨b, 3, none⟩ (.string x)) b { p with id := x } := heap_setCell_same w b 3 _ 29 (.string x) h
theorem BoxZP.fr {w : World} {b : Nat} {p : PropP} (h : BoxZP w b p) (i : Nat) : w.frozen? ⟨b, i, none⟩ = false := frozen_of_row w b i _ 29 h

/-- The stores of nine cells. -/
def set9 (w : World) (b : Nat) (x0 x1 x2 x3 x4 x5 x6 x7 x8 : Value) : World :=
  ((((((((w.setCell ⟨b, 0, none⟩ x0).setCell ⟨b, 1, none⟩ x1).setCell ⟨b, 2, none⟩ x2).setCell ⟨b, 3, none⟩ x3).setCell ⟨b, 4, none⟩ x4).setCell ⟨b, 5, none⟩ x5).setCell ⟨b, 6, none⟩ x6).setCell ⟨b, 7, none⟩ x7).setCell ⟨b, 8, none⟩ x8
theorem set9_row {w : World} {b : Nat} (x0 x1 x2 x3 x4 x5 x6 x7 x8 : Value) {y0 y1 y2 y3 y4 y5 y6 y7 y8 : Value} (h : w.heap[b]? = some (.cells #[y0, y1, y2, y3, y4, y5, y6, y7, y8] 29 (0, 0))) :
    (set9 w b x0 x1 x2 x3 x4 x5 x6 x7 x8).heap[b]? = some (.cells #[x0, x1, x2, x3, x4, x5, x6, x7, x8] 29 (0, 0)) := by
  have r1 : (w.setCell ⟨b, 0, none⟩ x0).heap[b]? = some (.cells #[x0, y1, y2, y3, y4, y5, y6, y7, y8] 29 (0, 0)) := heap_setCell_same _ b 0 _ 29 x0 h
  have r2 : ((w.setCell ⟨b, 0, none⟩ x0).setCell ⟨b, 1, none⟩ x1).heap[b]? = some (.cells #[x0, x1, y2, y3, y4, y5, y6, y7, y8] 29 (0, 0)) := heap_setCell_same _ b 1 _ 29 x1 r1
  have r3 : (((w.setCell ⟨b, 0, none⟩ x0).setCell ⟨b, 1, none⟩ x1).setCell ⟨b, 2, none⟩ x2).heap[b]? = some (.cells #[x0, x1, x2, y3, y4, y5, y6, y7, y8] 29 (0, 0)) := heap_setCell_same _ b 2 _ 29 x2 r2
  have r4 : ((((w.setCell ⟨b, 0, none⟩ x0).setCell ⟨b, 1, none⟩ x1).setCell ⟨b, 2, none⟩ x2).setCell ⟨b, 3, none⟩ x3).heap[b]? = some (.cells #[x0, x1, x2, x3, y4, y5, y6, y7, y8] 29 (0, 0)) := heap_setCell_same _ b 3 _ 29 x3 r3
  have r5 : (((((w.setCell ⟨b, 0, none⟩ x0).setCell ⟨b, 1, none⟩ x1).setCell ⟨b, 2, none⟩ x2).setCell ⟨b, 3, none⟩ x3).setCell ⟨b, 4, none⟩ x4).heap[b]? = some (.cells #[x0, x1, x2, x3, x4, y5, y6, y7, y8] 29 (0, 0)) := heap_setCell_same _ b 4 _ 29 x4 r4
  have r6 : ((((((w.setCell ⟨b, 0, none⟩ x0).setCell ⟨b, 1, none⟩ x1).setCell ⟨b, 2, none⟩ x2).setCell ⟨b, 3, none⟩ x3).setCell ⟨b, 4, none⟩ x4).setCell ⟨b, 5, none⟩ x5).heap[b]? = some (.cells #[x0, x1, x2, x3, x4, x5, y6, y7, y8] 29 (0, 0)) := heap_setCell_same _ b 5 _ 29 x5 r5
  have r7 : (((((((w.setCell ⟨b, 0, none⟩ x0).setCell ⟨b, 1, none⟩ x1).setCell ⟨b, 2, none⟩ x2).setCell ⟨b, 3, none⟩ x3).setCell ⟨b, 4, none⟩ x4).setCell ⟨b, 5, none⟩ x5).setCell ⟨b, 6, none⟩ x6).heap[b]? = some (.cells #[x0, x1, x2, x3, x4, x5, x6, y7, y8] 29 (0, 0)) := heap_setCell_same _ b 6 _ 29 x6 r6
  have r8 : ((((((((w.setCell ⟨b, 0, none⟩ x0).setCell ⟨b, 1, none⟩ x1).setCell ⟨b, 2, none⟩ x2).setCell ⟨b, 3, none⟩ x3).setCell ⟨b, 4, none⟩ x4).setCell ⟨b, 5, none⟩ x5).setCell ⟨b, 6, none⟩ x6).setCell ⟨b, 7, none⟩ x7).heap[b]? = some (.cells #[x0, x1, x2, x3, x4, x5, x6, x7, y8] 29 (0, 0)) := heap_setCell_same _ b 7 _ 29 x7 r7
  have r9 : (((((((((w.setCell ⟨b, 0, none⟩ x0).setCell ⟨b, 1, none⟩ x1).setCell ⟨b, 2, none⟩ x2).setCell ⟨b, 3, none⟩ x3).setCell ⟨b, 4, none⟩ x4).setCell ⟨b, 5, none⟩ x5).setCell ⟨b, 6, none⟩ x6).setCell ⟨b, 7, none⟩ x7).setCell ⟨b, 8, none⟩ x8).heap[b]? = some (.cells #[x0, x1, x2, x3, x4, x5, x6, x7, x8] 29 (0, 0)) := heap_setCell_same _ b 8 _ 29 x8 r8
  unfold set9
  exact r9
theorem set9_below {B b : Nat} {w0 w : World} (h : Below B w0 w) (hb : B ≤ b) (x0 x1 x2 x3 x4 x5 x6 x7 x8 : Value) : Below B w0 (set9 w b x0 x1 x2 x3 x4 x5 x6 x7 x8) := by
  unfold set9
  have h0 := below_set h (j := 0) hb x0
  have h1 := below_set h0 (j := 1) hb x1
  have h2 := below_set h1 (j := 2) hb x2
  have h3 := below_set h2 (j := 3) hb x3
  have h4 := below_set h3 (j := 4) hb x4
  have h5 := below_set h4 (j := 5) hb x5
  have h6 := below_set h5 (j := 6) hb x6
  have h7 := below_set h6 (j := 7) hb x7
  exact below_set h7 (j := 8) hb x8
theorem set9_aft {B b : Nat} {w7 w : World} (h : Aft B w7 w) (hb : b < B) (x0 x1 x2 x3 x4 x5 x6 x7 x8 : Value) : Aft B w7 (set9 w b x0 x1 x2 x3 x4 x5 x6 x7 x8) := by
  unfold set9
  have h0 := Aft.set h (p := b) (.inl hb) 0 x0
  have h1 := Aft.set h0 (p := b) (.inl hb) 1 x1
  have h2 := Aft.set h1 (p := b) (.inl hb) 2 x2
  have h3 := Aft.set h2 (p := b) (.inl hb) 3 x3
  have h4 := Aft.set h3 (p := b) (.inl hb) 4 x4
  have h5 := Aft.set h4 (p := b) (.inl hb) 5 x5
  have h6 := Aft.set h5 (p := b) (.inl hb) 6 x6
  have h7 := Aft.set h6 (p := b) (.inl hb) 7 x7
  exact Aft.set h7 (p := b) (.inl hb) 8 x8
/-- The reader of the whole, and the properties' box. -/
structure D0 (w : World) (g d : Nat) (s : St) (bp : Nat) (p : PropP) (wx : World) : Prop where
  rs : RS wx g d s
  bel : Below w.heap.size w wx
  res : wx.heap[w.heap.size]? = some zbox
  box : BoxZP wx bp p
  a1 : w.heap.size < d
  a2 : d ≤ g
  a3 : g < bp
  a4 : bp < wx.heap.size
/-- And a part. -/
structure D1 (w : World) (g d : Nat) (s : St) (bp : Nat) (p : PropP) (g1 d1 : Nat) (s1 : St) (b1 f1 : Nat) (wx : World) : Prop where
  d0 : D0 w g d s bp p wx
  rs1 : RS wx g1 d1 s1
  row : wx.heap[b1]? = some (.cells #[.pointer (some ⟨g1, 0, none⟩), .int .u64 f1] 126 (0, 0))
  a5 : bp < d1
  a6 : d1 ≤ g1
  a7 : g1 < b1
section
variable {w wx wy : World} {g d : Nat} {s : St} {bp : Nat} {p : PropP} {g1 d1 : Nat} {s1 : St} {b1 f1 : Nat}
theorem D0.below (h : D0 w g d s bp p wx) (hb : Below wx.heap.size wx wy) : D0 w g d s bp p wy :=
  ⟨h.rs.below hb, h.bel.trans (hb.mono h.bel.size), (hb.block _ (Array.getElem?_eq_some_iff.1 h.res).1).trans h.res, h.box.kept hb (Nat.le_refl _), h.a1, h.a2, h.a3, Nat.lt_of_lt_of_le h.a4 hb.size⟩
theorem D1.below (h : D1 w g d s bp p g1 d1 s1 b1 f1 wx) (hb : Below wx.heap.size wx wy) : D1 w g d s bp p g1 d1 s1 b1 f1 wy :=
  ⟨h.d0.below hb, h.rs1.below hb, (hb.block _ (Array.getElem?_eq_some_iff.1 h.row).1).trans h.row, h.a5, h.a6, h.a7⟩
theorem D1.set (h : D1 w g d s bp p g1 d1 s1 b1 f1 wx) (i : Nat) (u : Value) {q : PropP} (hq : BoxZP (wx.setCell ⟨bp, i, none⟩ u) bp q) : D1 w g d s bp q g1 d1 s1 b1 f1 (wx.setCell ⟨bp, i, none⟩ u) := by
  have := h.a5; have := h.a6; have := h.a7; have := h.d0.a1; have := h.d0.a2; have := h.d0.a3
  have hbs := h.d0.bel.size
  exact ⟨⟨h.d0.rs.set (by omega) (by omega) i u, below_set h.d0.bel (by omega) u, (Below.heap_setCell _ _ _ _ (by show w.heap.size ≠ bp; omega)).trans h.d0.res, hq, h.d0.a1, h.d0.a2, h.d0.a3, by simpa using h.d0.a4⟩,
    h.rs1.set (by omega) (by omega) i u, (Below.heap_setCell _ _ _ _ (by show b1 ≠ bp; omega)).trans h.row, h.a5, h.a6, h.a7⟩
theorem D1.text (h : D1 w g d s bp p g1 d1 s1 b1 f1 wx) (hg : wx.grownBy wy (some g1)) {s1' : St} (hr : RS wy g1 d1 s1') : D1 w g d s bp p g1 d1 s1' b1 f1 wy := by
  have := h.a5; have := h.a6; have := h.a7; have := h.d0.a1; have := h.d0.a2; have := h.d0.a3
  exact ⟨⟨h.d0.rs.grown hg (by omega) (by omega), h.d0.bel.grown hg h.d0.bel.size (fun k hk => by cases hk; omega), (hg.block _ (Array.getElem?_eq_some_iff.1 h.d0.res).1 (fun e => by have := Option.some.inj e; omega)).trans h.d0.res,
    (hg.block _ h.d0.box.lt (fun e => by have := Option.some.inj e; omega)).trans h.d0.box, h.d0.a1, h.d0.a2, h.d0.a3, Nat.lt_of_lt_of_le h.d0.a4 hg.size⟩, hr,
    (hg.block _ (Array.getElem?_eq_some_iff.1 h.row).1 (fun e => by have := Option.some.inj e; omega)).trans h.row, h.a5, h.a6, h.a7⟩
theorem D0.next (h : D0 w g d s bp p wx) (hr1 : RS wy g1 d1 s1) {s' : St} (hr : RS wy g d s') (h1 : wx.heap.size ≤ d1) (h2 : d1 ≤ g1) (hg : wx.grownBy wy (some g)) :
    D1 w g d s' bp p g1 d1 s1 wy.heap.size f1 (wy.alloc (.cells #[.pointer (some ⟨g1, 0, none⟩), .int .u64 f1] 126)) := by
  have hA := below_boxV wy (.cells #[.pointer (some ⟨g1, 0, none⟩), .int .u64 f1] 126)
  have := h.a1; have := h.a2; have := h.a3; have := h.a4; have := hr1.lt; have := hg.size
  have hk : D0 w g d s' bp p wy := ⟨hr, h.bel.grown hg h.bel.size (fun k hk => by cases hk; omega), (hg.block _ (Array.getElem?_eq_some_iff.1 h.res).1 (fun e => by have := Option.some.inj e; omega)).trans h.res,
    (hg.block _ h.box.lt (fun e => by have := Option.some.inj e; omega)).trans h.box, h.a1, h.a2, h.a3, Nat.lt_of_lt_of_le h.a4 hg.size⟩
  exact ⟨hk.below hA, hr1.below hA, heap_alloc_new _ _, by omega, h2, by omega⟩
theorem D1.cells (h : D1 w g d s bp p g1 d1 s1 b1 f1 wx) : wx.cell? ⟨b1, 0, none⟩ = some (.pointer (some ⟨g1, 0, none⟩)) ∧ wx.cell? ⟨b1, 1, none⟩ = some (.int .u64 f1) :=
  ⟨cell_of_row wx b1 0 _ 126 (0, 0) h.row, cell_of_row wx b1 1 _ 126 (0, 0) h.row⟩
end

/-- What decoded tells. -/
def DecSaidP (l : List UInt8) (w : World) (e : Ending) (w' : World) : Prop :=
  ∃ (k n : Nat) (ss : ByteArray) (a3 : Option Addr) (n3 c3 : Nat) (a4 : Option Addr) (n4 c4 : Nat), e = .returned (propV (decPr l) (.int .u8 k) (.int .u64 n) (.string ss) (.slice a3 n3 c3) (.slice a4 n4 c4)) ∧ ShowsT (lowm w.heap.size w') (decPr l).app [.int .u8 k, .int .u64 n, .string ss, .slice a3 n3 c3, .slice a4 n4 c4] ∧ Below w.heap.size w w'
theorem lenS_next (s : St) : lenS (nextPr s).1.2 ≤ lenS s ∧ lenS (nextPr s).2 ≤ lenS s := by
  have h1 : (textS 4 (lenS s) s).1.length ≤ lenS s := textS_fst_le _ _ _
  refine ⟨?_, textS_lenS _ _ _⟩
  show lenS (numS 2 (numS 2 (some (textS 4 (lenS s) s).1)).2).2 ≤ _
  exact Nat.le_trans (numS_lenS _ _) (Nat.le_trans (numS_lenS _ _) h1)
theorem lenS_txtR (f b : Nat) (s : St) : lenS (txtR f b s).2 ≤ lenS s := by
  unfold txtR
  split
  · exact textS_lenS _ _ _
  · exact Nat.le_refl _

set_option maxRecDepth 100000 in
set_option maxHeartbeats 16000000 in
theorem p_decoded_any (s : ByteArray) (w : World) (hs : s.size ≤ 140737488351232) : Calls Tryz.prog 35 #[.string s] w (DecSaidP (sb s) w) := by
  have hB0 := below_boxV w zbox
  obtain ⟨v1, w1, hcv, hs1, hb1⟩ := conv_tobytes (w.alloc zbox) s (by omega)
  have hl : (sb s).length ≤ 140737488351232 := by rw [sb_length]; exact hs
  have HO := Lib.hid (open_any v1 (sb s) _ w1 hs1 (by omega))
  have hb01 := hB0.trans (hb1.mono hB0.size)
  have hres1 := (hb1.block w.heap.size (by simp)).trans (heap_alloc_new w zbox)
  have hsz1 := hb1.size
  simp at hsz1
  have HB01 := Lib.hid hb01
  have HRES := Lib.hid hres1
  have HL := Lib.hid hl
  have hdec : decPr (sb s) = ⟨str8 (txtR (nextPr (some (sb s))).1.1 4 (nextPr (some (sb s))).1.2).1, bitB (nextPr (some (sb s))).1.1 1, bitB (nextPr (some (sb s))).1.1 2, str8 (txtR (nextPr (nextPr (some (sb s))).2).1.1 1 (nextPr (nextPr (some (sb s))).2).1.2).1, appR (nextPr (nextPr (some (sb s))).2).1.1 2 (txtR (nextPr (nextPr (some (sb s))).2).1.1 1 (nextPr (nextPr (some (sb s))).2).1.2).2⟩ := rfl
  unfold DecSaidP
  rw [hdec]
  clear hb1 hs1 hB0 hb01 hres1 hl hdec
  generalize sb s = l at *
  have hf1 := nextPr_flag (some l)
  have hf2 := nextPr_flag (nextPr (some l)).2
  have hl1 := lenS_next (some l)
  have hl2 := lenS_next (nextPr (some l)).2
  have hl3 := lenS_txtR (nextPr (nextPr (some l)).2).1.1 1 (nextPr (nextPr (some l)).2).1.2
  have hll : lenS (some l) = l.length := rfl
  have hl0 := HL.out
  have HN1 := Lib.hid (fun g d w' (hr : RS w' g d (some l)) (hd : d < w'.heap.size) => pnext_any g d (some l) w' hr (by omega) hd)
  have HN2 := Lib.hid (fun g d w' (hr : RS w' g d (nextPr (some l)).2) (hd : d < w'.heap.size) => pnext_any g d (nextPr (some l)).2 w' hr (by omega) hd)
  unfold NextSaid at HN1 HN2
  have HT1 := Lib.hid (fun g1 d1 w' (hr : RS w' g1 d1 (nextPr (some l)).1.2) => ptextR_any g1 d1 (nextPr (some l)).1.1 4 4 (nextPr (some l)).1.2 w' hr (by omega) hf1 (by omega) rfl)
  have HT2 := Lib.hid (fun g1 d1 w' (hr : RS w' g1 d1 (nextPr (nextPr (some l)).2).1.2) => ptextR_any g1 d1 (nextPr (nextPr (some l)).2).1.1 1 1 (nextPr (nextPr (some l)).2).1.2 w' hr (by omega) hf2 (by omega) rfl)
  have HV := Lib.hid (fun g1 d1 w' (hr : RS w' g1 d1 (txtR (nextPr (nextPr (some l)).2).1.1 1 (nextPr (nextPr (some l)).2).1.2).2) => pvalR_any g1 d1 (nextPr (nextPr (some l)).2).1.1 2 2 _ w' hr (by omega) hf2 (by omega) rfl)
  unfold AppSaid at HV
  have HH1 := Lib.hid (fun g1 w' => phas_any g1 (nextPr (some l)).1.1 1 1 w' hf1 (by omega) rfl)
  have HH2 := Lib.hid (fun g1 w' => phas_any g1 (nextPr (some l)).1.1 2 2 w' hf1 (by omega) rfl)
  clear hl1 hl2 hl3 hll hl0 hf1 hf2
  generalize bitB (nextPr (some l)).1.1 1 = D1' at *
  generalize bitB (nextPr (some l)).1.1 2 = D2' at *
  generalize appR (nextPr (nextPr (some l)).2).1.1 2 (txtR (nextPr (nextPr (some l)).2).1.1 1 (nextPr (nextPr (some l)).2).1.2).2 = T at *
  generalize (txtR (nextPr (nextPr (some l)).2).1.1 1 (nextPr (nextPr (some l)).2).1.2).2 = s6 at *
  generalize (txtR (nextPr (nextPr (some l)).2).1.1 1 (nextPr (nextPr (some l)).2).1.2).1 = t2 at *
  generalize (txtR (nextPr (some l)).1.1 4 (nextPr (some l)).1.2).2 = s3 at *
  generalize (txtR (nextPr (some l)).1.1 4 (nextPr (some l)).1.2).1 = t1 at *
  generalize (nextPr (nextPr (some l)).2).1.1 = f2 at *
  generalize (nextPr (nextPr (some l)).2).1.2 = s5 at *
  generalize (nextPr (nextPr (some l)).2).2 = s7 at *
  generalize (nextPr (some l)).1.1 = f1 at *
  generalize (nextPr (some l)).1.2 = s2 at *
  generalize (nextPr (some l)).2 = s4 at *
  unfold partV at HN1 HN2 HT1 HT2 HV HH1 HH2
  go_enter Tryz.func35, Tryz.ntmps35
  go_wp2_with fail
  refine HO.out.mono ?_
  rintro e w3 ⟨g, d, rfl, hr3, hg3, ⟨hd31, hd32⟩, hb3⟩
  have hsz3 := hb3.size
  have hglt := hr3.lt
  have hA4 := below_boxV w3 zbox
  have hD0 : D0 w g d (some l) w3.heap.size zPr (w3.alloc zbox) := ⟨hr3.below hA4, (HB01.out.trans (hb3.mono HB01.out.size)).trans (hA4.mono (by have := HB01.out.size; omega)), ((hA4.block _ (by omega)).trans (hb3.block _ (by omega))).trans HRES.out, BoxPr.new (p := zPr) w3, by omega, hd32, hglt, by simp⟩
  have HD := Lib.hid hD0
  have HN := Lib.hid (HN1.out g d _ hD0.rs (by simp; omega))
  clear hD0 hA4 hb3 hr3 hcv
  go_wp2_with fail
  refine HN.out.mono ?_
  rintro e w4 ⟨g1, d1, rfl, hr4, hrw4, hg4, ⟨hd41, hd42⟩, hgr4⟩
  have HE := Lib.hid (HD.out.next (f1 := f1) hr4 hrw4 hd41 hd42 hgr4)
  clear hr4 hrw4 hgr4
  have hne : w4.heap.size ≠ w3.heap.size := by have := HE.out.a5; have := HE.out.a6; have := HE.out.a7; omega
  go_wp2_with fail
  refine (HH1.out g1 _).mono ?_
  rintro e w5 ⟨rfl, hb5⟩
  have HE5 := Lib.hid (HE.out.below hb5)
  obtain ⟨y0, y1⟩ := HE5.out.cells
  have c1 := HE5.out.d0.box.cells.1.2.1
  have f1' := HE5.out.d0.box.fr 1
  have HE6 := Lib.hid (HE5.out.set 1 (.bool D1') (HE5.out.d0.box.dur D1'))
  clear hb5
  go_wp2_with fail
  refine (HH2.out g1 _).mono ?_
  rintro e w7 ⟨rfl, hb7⟩
  have HE7 := Lib.hid (HE6.out.below hb7)
  clear y0 y1 c1 f1' hb7
  obtain ⟨y0, y1⟩ := HE7.out.cells
  have c2 := HE7.out.d0.box.cells.1.2.2.1
  have f2' := HE7.out.d0.box.fr 2
  have HE8 := Lib.hid (HE7.out.set 2 (.bool D2') (HE7.out.d0.box.red D2'))
  have HTX := Lib.hid (HT1.out g1 d1 _ HE8.out.rs1)
  go_wp2_with fail
  refine HTX.out.mono ?_
  rintro e w9 ⟨rfl, hr9, hg9⟩
  have HE9 := Lib.hid (HE8.out.text hg9 hr9)
  clear y0 y1 c2 f2' hr9 hg9
  have c0 := HE9.out.d0.box.cells.1.1
  have f0' := HE9.out.d0.box.fr 0
  have HE10 := Lib.hid (HE9.out.set 0 (.string (str8 t1)) (HE9.out.d0.box.key (str8 t1)))
  have HNX := Lib.hid (HN2.out g d _ HE10.out.d0.rs (by have := HE10.out.d0.a1; have := HE10.out.d0.a2; have := HE10.out.d0.a3; have := HE10.out.d0.a4; omega))
  have HZ10 := Lib.hid (show w3.heap.size ≠ w3.heap.size + 0 ∨ True from .inr trivial)
  go_wp2_with fail
  refine HNX.out.mono ?_
  rintro e w11 ⟨g2, d2, rfl, hr11, hrw11, hg11, ⟨hd111, hd112⟩, hgr11⟩
  have HF := Lib.hid (HE10.out.d0.next (f1 := f2) hr11 hrw11 hd111 hd112 hgr11)
  have hne2 : w11.heap.size ≠ w3.heap.size := by have := HF.out.a5; have := HF.out.a6; have := HF.out.a7; omega
  have HTY := Lib.hid (HT2.out g2 d2 _ HF.out.rs1)
  clear hr11 hrw11 hgr11 c0 f0'
  go_wp2_with fail
  refine HTY.out.mono ?_
  rintro e w12 ⟨rfl, hr12, hg12⟩
  have HF12 := Lib.hid (HF.out.text hg12 hr12)
  obtain ⟨y0, y1⟩ := HF12.out.cells
  have c3 := HF12.out.d0.box.cells.1.2.2.2
  have f3' := HF12.out.d0.box.fr 3
  have HF13 := Lib.hid (HF12.out.set 3 (.string (str8 t2)) (HF12.out.d0.box.id (str8 t2)))
  have HVX := Lib.hid (HV.out g2 d2 _ HF13.out.rs1)
  clear hr12 hg12
  go_wp2_with fail
  refine HVX.out.mono ?_
  rintro e w14 ⟨vs, rfl, hsh14, hgr14⟩
  obtain ⟨k, n, ss, a3, n3, c3', a4, n4, c4, rfl⟩ := hsh14.cells5
  have hbx := (hgr14.block _ HF13.out.d0.box.lt (fun e => by have := Option.some.inj e; have := HF13.out.a5; have := HF13.out.a6; omega)).trans HF13.out.d0.box
  have hrs := (hgr14.block _ (Array.getElem?_eq_some_iff.1 HF13.out.d0.res).1 (fun e => by have := Option.some.inj e; have := HF13.out.a5; have := HF13.out.a6; have := HF13.out.d0.a1; have := HF13.out.d0.a2; have := HF13.out.d0.a3; omega)).trans HF13.out.d0.res
  have HBX := Lib.hid hbx
  have HRS := Lib.hid hrs
  have HSH := Lib.hid hsh14
  have HB14 := Lib.hid (HF13.out.d0.bel.grown hgr14 HF13.out.d0.bel.size (fun k hk => by cases hk; have := HF13.out.a5; have := HF13.out.a6; have := HF13.out.d0.a1; have := HF13.out.d0.a2; have := HF13.out.d0.a3; omega))
  clear y0 y1 c3 f3' hsh14 hgr14 hbx hrs
  obtain ⟨⟨e0, e1, e2, e3⟩, e4, e5, e6, e7, e8⟩ := BoxPr.cells HBX.out
  have fb := fun i => BoxPr.fr HBX.out i
  have g4 := fb 4
  have g5 := fb 5
  have g6 := fb 6
  have g7 := fb 7
  have g8 := fb 8
  have hq : ∀ i, w14.cell? ⟨w.heap.size, i, none⟩ = (#[Value.string ⟨#[]⟩, .bool false, .bool false, .string ⟨#[]⟩, .int .u8 0, .int .u64 0, .string ⟨#[]⟩, .slice none 0 0, .slice none 0 0] : Array Value)[i]? := fun i => cell_of_row w14 w.heap.size i _ 29 (0, 0) HRS.out
  have q0 := hq 0
  have q1 := hq 1
  have q2 := hq 2
  have q3 := hq 3
  have q4 := hq 4
  have q5 := hq 5
  have q6 := hq 6
  have q7 := hq 7
  have q8 := hq 8
  have fq := fun i => frozen_of_row w14 w.heap.size i _ 29 HRS.out
  have l0 := fq 0
  have l1 := fq 1
  have l2 := fq 2
  have l3 := fq 3
  have l4 := fq 4
  have l5 := fq 5
  have l6 := fq 6
  have l7 := fq 7
  have l8 := fq 8
  have hnr : w.heap.size ≠ w3.heap.size := by have := HD.out.a1; have := HD.out.a2; have := HD.out.a3; omega
  clear fb hq fq
  have r0 : w14.heap[w.heap.size]? = some zbox := HRS.out
  have s0 := (Below.heap_setCell w14 ⟨w3.heap.size, 4, none⟩ (.int .u8 k) w.heap.size (by show w.heap.size ≠ w3.heap.size; exact hnr)).trans r0
  have s1 := (Below.heap_setCell _ ⟨w3.heap.size, 5, none⟩ (.int .u64 n) w.heap.size (by show w.heap.size ≠ w3.heap.size; exact hnr)).trans s0
  have s2 := (Below.heap_setCell _ ⟨w3.heap.size, 6, none⟩ (.string ss) w.heap.size (by show w.heap.size ≠ w3.heap.size; exact hnr)).trans s1
  have s3 := (Below.heap_setCell _ ⟨w3.heap.size, 7, none⟩ (.slice a3 n3 c3') w.heap.size (by show w.heap.size ≠ w3.heap.size; exact hnr)).trans s2
  have s4 := (Below.heap_setCell _ ⟨w3.heap.size, 8, none⟩ (.slice a4 n4 c4) w.heap.size (by show w.heap.size ≠ w3.heap.size; exact hnr)).trans s3
  have r9 := set9_row (.string (str8 t1)) (.bool D1') (.bool D2') (.string (str8 t2)) (.int .u8 k) (.int .u64 n) (.string ss) (.slice a3 n3 c3') (.slice a4 n4 c4) s4
  unfold set9 at r9
  have R9 := Lib.hid r9
  clear r0 s0 s1 s2 s3 s4 r9
  go_wp2_with fail
  have hbp : w3.heap.size < (w12.setCell ⟨w3.heap.size, 3, none⟩ (.string (str8 t2))).heap.size := HF13.out.d0.a4
  have hwp : w.heap.size < w3.heap.size := by have := HD.out.a1; have := HD.out.a2; have := HD.out.a3; omega
  refine bodyPost_ret (results_cell_row rfl _ _ w.heap.size 29 _ (0, 0) _ rfl R9.out Tryz.underlying29 rfl (by kernel_rfl)) rfl ⟨k, n, ss, a3, n3, c3', a4, n4, c4, rfl, ?_, ?_⟩
  · refine Aft.shows ?_ HSH.out (by omega)
    have hW : w.heap.size < (w12.setCell ⟨w3.heap.size, 3, none⟩ (.string (str8 t2))).heap.size := by omega
    have q0 := Aft.set (Aft.refl (w12.setCell ⟨w3.heap.size, 3, none⟩ (.string (str8 t2))).heap.size w14) (p := w3.heap.size) (.inl hbp) 4 (.int .u8 k)
    have q1 := Aft.set q0 (p := w3.heap.size) (.inl hbp) 5 (.int .u64 n)
    have q2 := Aft.set q1 (p := w3.heap.size) (.inl hbp) 6 (.string ss)
    have q3 := Aft.set q2 (p := w3.heap.size) (.inl hbp) 7 (.slice a3 n3 c3')
    have q4 := Aft.set q3 (p := w3.heap.size) (.inl hbp) 8 (.slice a4 n4 c4)
    have q5 := set9_aft q4 hW (.string (str8 t1)) (.bool D1') (.bool D2') (.string (str8 t2)) (.int .u8 k) (.int .u64 n) (.string ss) (.slice a3 n3 c3') (.slice a4 n4 c4)
    unfold set9 at q5
    exact q5
  · have h1 := Nat.le_of_lt hwp
    have h2 := Nat.le_refl w.heap.size
    have q0 := below_set HB14.out (j := 4) h1 (.int .u8 k)
    have q1 := below_set q0 (j := 5) h1 (.int .u64 n)
    have q2 := below_set q1 (j := 6) h1 (.string ss)
    have q3 := below_set q2 (j := 7) h1 (.slice a3 n3 c3')
    have q4 := below_set q3 (j := 8) h1 (.slice a4 n4 c4)
    have q5 := set9_below q4 h2 (.string (str8 t1)) (.bool D1') (.bool D2') (.string (str8 t2)) (.int .u8 k) (.int .u64 n) (.string ss) (.slice a3 n3 c3') (.slice a4 n4 c4)
    unfold set9 at q5
    exact q5

/-- What Get tells. -/
def PGetSaid (l : List UInt8) (w : World) (e : Ending) (w' : World) : Prop :=
  Below w.heap.size w w' ∧ match getPr l with
    | none => e = .returned (.tuple #[propV zPr (.int .u8 (0 : Nat)) (.int .u64 (0 : Nat)) (.string ⟨#[]⟩) (.slice none 0 0) (.slice none 0 0), .int .i64 90])
    | some p => ∃ v0 v1 v2 v3 v4, e = .returned (.tuple #[propV p v0 v1 v2 v3 v4, .int .i64 0]) ∧ ShowsP (lowm w.heap.size w') p v0 v1 v2 v3 v4

end Go.Proofs.YtdjahdnaihijjaaGreatDoor
/-
  The contract of props.Get.
  Conditions: none but sizes.
-/
namespace Go.Proofs.YtdjahdnaihijjaaGreatDoor
open Go.RowKit
set_option linter.unusedVariables false
set_option linter.unusedSimpArgs false

theorem results_cell_tmp {P : Program} {fn : Func} {p u : Tmp} {ty : TypeId} (h : fn.results = #[.cell p ty, .tmp u]) (tmps : Array Value) (w : World) (g : Nat) (t : TypeId) (cs : Array Value) (fr : Nat × Nat) (d : TypeDesc)
    (hp : tmps.getD p undef = .pointer (some ⟨g, 0, none⟩)) (hg : w.heap[g]? = some (.cells cs t fr))
    (hu : P.underlying ty = some d) (hd : (match d with | .struct _ | .array _ _ => true | _ => false) = true) (hi : (P.info? ty).map (·.size) = some cs.size) :
    (results fn tmps).run P w = .ok (.tuple #[.agg cs, tmps.getD u undef]) w := by
  have hp' : tmps[p]?.getD undef = .pointer (some ⟨g, 0, none⟩) := by simpa using hp
  simp [results, h, hp', asAddr, run_loadVar_row w g t ty cs fr d hg hu hd hi]
theorem aft_below {B : Nat} {w w' : World} (hb : Below w.heap.size w w') : Aft B w w' := ⟨hb.size, fun k _ hk => hb.block k hk⟩
theorem Aft.trans {B : Nat} {a b c : World} (h : Aft B a b) (k : Aft B b c) : Aft B a c := ⟨Nat.le_trans h.size k.size, fun i h1 h2 => (k.block i h1 (Nat.lt_of_lt_of_le h2 h.size)).trans (h.block i h1 h2)⟩

theorem get_said_no {l : List UInt8} {w w' : World} {e : Ending} (h : getPr l = none) (hb : Below w.heap.size w w') (he : e = .returned (.tuple #[propV zPr (.int .u8 (0 : Nat)) (.int .u64 (0 : Nat)) (.string ⟨#[]⟩) (.slice none 0 0) (.slice none 0 0), .int .i64 90])) : PGetSaid l w e w' := by
  unfold PGetSaid; rw [h]; exact ⟨hb, he⟩
theorem get_said_ok {l : List UInt8} {p : PropP} {v0 v1 v2 v3 v4 : Value} {w w' : World} {e : Ending} (h : getPr l = some p) (hb : Below w.heap.size w w') (he : e = .returned (.tuple #[propV p v0 v1 v2 v3 v4, .int .i64 0])) (hs : ShowsP (lowm w.heap.size w') p v0 v1 v2 v3 v4) : PGetSaid l w e w' := by
  unfold PGetSaid; rw [h]; exact ⟨hb, v0, v1, v2, v3, v4, he, hs⟩
theorem dec_sizes (l : List UInt8) (hl : l.length ≤ 140737488351232) : (decPr l).key.size ≤ 140737488351232 ∧ (decPr l).id.size ≤ 140737488351232 := by
  have h1 := lenS_next (some l)
  have h2 := lenS_next (nextPr (some l)).2
  have hll : lenS (some l) = l.length := rfl
  have hx : ∀ f b s, (txtR f b s).1.length ≤ lenS s := fun f b s => by
    unfold txtR
    split
    · exact textS_fst_le _ _ _
    · simp
  constructor
  · show (str8 _).size ≤ _
    rw [str8_size]
    exact Nat.le_trans (hx _ _ _) (by omega)
  · show (str8 _).size ≤ _
    rw [str8_size]
    exact Nat.le_trans (hx _ _ _) (by omega)
theorem getPr_yes {l : List UInt8} (h : validPr (decPr l)) (h2 : encPr (decPr l) = l) : getPr l = some (decPr l) := by
  unfold getPr; rw [if_pos ⟨h, h2⟩]
theorem getPr_no {l : List UInt8} (h : ¬ (validPr (decPr l) ∧ encPr (decPr l) = l)) : getPr l = none := by
  unfold getPr; rw [if_neg h]

theorem pcheck_cnt {t : Tree} (h : checkT t = 0) : cntT t ≤ 200 := by
  unfold checkT at h
  split at h
  · cases h
  · split at h
    · cases h
    · omega
theorem appR_cnt (f b : Nat) (s : St) : cntT (appR f b s) ≤ 1000000 := by
  unfold appR
  split
  · cases hg : getP (takeS (lenS s) s).1 with
    | none => simp only []; decide
    | some y =>
      obtain ⟨t, n⟩ := y
      simp only []
      have := pcheck_cnt (put_get hg).1
      omega
  · decide
theorem decPr_cnt (l : List UInt8) : cntT (decPr l).app ≤ 1000000 := appR_cnt _ _ _
theorem errno_ne (e : Nat) (h : e ≠ 0) : ((e : Int) != 0) = true := by simp; omega

set_option maxRecDepth 100000 in
set_option maxHeartbeats 8000000 in
theorem pget_any (s : ByteArray) (w : World) (hs : s.size ≤ 140737488351232) : Calls Tryz.prog 11 #[.string s] w (PGetSaid (sb s) w) := by
  have hB0 := below_boxV w zbox
  have HD := Lib.hid (p_decoded_any s (w.alloc zbox) hs)
  have hrow := heap_alloc_new w zbox
  have hl : (sb s).length ≤ 140737488351232 := by rw [sb_length]; exact hs
  obtain ⟨hz1, hz2⟩ := dec_sizes (sb s) hl
  have hcnt := decPr_cnt (sb s)
  have hst : s.toList = sb s := sb_toList s
  have HPO := Lib.hid (fun (hv : validPr (decPr (sb s))) v0 v1 v2 v3 v4 w' (h : ShowsP w' (decPr (sb s)) v0 v1 v2 v3 v4) => pput_ok (decPr (sb s)) v0 v1 v2 v3 v4 w' h trivial hv)
  have HPN := Lib.hid (fun (hv : ¬ validPr (decPr (sb s))) v0 v1 v2 v3 v4 w' (h : ShowsP w' (decPr (sb s)) v0 v1 v2 v3 v4) => pput_no (decPr (sb s)) v0 v1 v2 v3 v4 w' h trivial hv)
  have HY := Lib.hid (fun (hv : validPr (decPr (sb s))) (he : encPr (decPr (sb s)) = sb s) => getPr_yes hv he)
  have HN := Lib.hid (fun h => getPr_no (l := sb s) h)
  unfold DecSaidP at HD
  have HSZ := Lib.hid (And.intro hz1 hz2)
  have HB0 := Lib.hid hB0
  have HROW := Lib.hid hrow
  have hfin : ∀ (v : Bool), (validPr (decPr (sb s)) ↔ v = true) → True := fun _ _ => trivial
  clear hfin hcnt hz1 hz2 hB0 hrow
  by_cases hv : validPr (decPr (sb s))
  · have HP := Lib.hid (HPO.out hv)
    obtain ⟨eb, heb⟩ : ∃ eb : Bool, eb = ((str8 (encPr (decPr (sb s)))).toList == s.toList) := ⟨_, rfl⟩
    have heq : eb = true ↔ encPr (decPr (sb s)) = sb s := by rw [heb, str8_toList, hst]; simp
    have HEQ := Lib.hid heq
    replace heb := heb.symm
    generalize encPr (decPr (sb s)) = E at *
    generalize decPr (sb s) = p at *
    obtain ⟨key, dur, red, id, app⟩ := p
    unfold propV at HD HP
    simp only [] at HD HP
    clear HPO HPN heq hst
    go_enter Tryz.func11, Tryz.ntmps11
    go_wp2_with fail
    refine HD.out.mono ?_
    rintro e w2 ⟨k, n, ss, a3, n3, c3, a4, n4, c4, rfl, hsh2, hb2⟩
    have hA3 := below_boxV w2 (Obj.cells #[.string key, .bool dur, .bool red, .string id, .int .u8 k, .int .u64 n, .string ss, .slice a3 n3 c3, .slice a4 n4 c4] 29)
    have hX3 := BoxPr.new (p := ⟨key, dur, red, id, app⟩) (v0 := .int .u8 k) (v1 := .int .u64 n) (v2 := .string ss) (v3 := .slice a3 n3 c3) (v4 := .slice a4 n4 c4) w2
    have HSH := Lib.hid hsh2
    have HB2 := Lib.hid hb2
    have HA3 := Lib.hid hA3
    have HX3 := Lib.hid hX3
    have HPX := Lib.hid (HP.out _ _ _ _ _ _ ⟨HSZ.out.1, HSZ.out.2, (hsh2.sub (low_out _ _)).kept hA3 (Nat.le_refl _)⟩)
    obtain ⟨⟨e0, e1, e2, e3⟩, e4, e5, e6, e7, e8⟩ := hX3.cells
    simp only [] at e0 e1 e2 e3
    clear hsh2 hb2 hA3 hX3
    go_wp2_with fail
    refine HPX.out.mono ?_
    rintro e w4 ⟨rfl, hb4⟩
    have hrow4 := (hb4.block w.heap.size (by have := HB2.out.size; simp at this ⊢; omega)).trans ((HA3.out.block w.heap.size (by have := HB2.out.size; simp at this; omega)).trans ((HB2.out.block w.heap.size (by simp)).trans HROW.out))
    have hbox4 := HX3.out.kept hb4 (Nat.le_refl _)
    have hbel4 := ((HB0.out.trans (HB2.out.mono HB0.out.size)).trans (HA3.out.mono (by have := HB2.out.size; simp at this; omega))).trans (hb4.mono (by have := HB2.out.size; simp at this ⊢; omega))
    have haft : Aft (w.heap.size + 1) w2 w4 := (aft_below HA3.out).trans (aft_below hb4)
    have hne : w.heap.size ≠ w2.heap.size := by have := HB2.out.size; simp at this; omega
    have HROW4 := Lib.hid hrow4
    have HBOX4 := Lib.hid hbox4
    have HBEL4 := Lib.hid hbel4
    have HAFT := Lib.hid haft
    clear e0 e1 e2 e3 e4 e5 e6 e7 e8 hb4 hrow4 hbox4 hbel4 haft
    obtain ⟨⟨e0, e1, e2, e3⟩, e4, e5, e6, e7, e8⟩ := HBOX4.out.cells
    simp only [] at e0 e1 e2 e3
    have hq : ∀ i, w4.cell? ⟨w.heap.size, i, none⟩ = (#[Value.string ⟨#[]⟩, .bool false, .bool false, .string ⟨#[]⟩, .int .u8 0, .int .u64 0, .string ⟨#[]⟩, .slice none 0 0, .slice none 0 0] : Array Value)[i]? := fun i => cell_of_row w4 w.heap.size i _ 29 (0, 0) HROW4.out
    have q0 := hq 0
    have q1 := hq 1
    have q2 := hq 2
    have q3 := hq 3
    have q4 := hq 4
    have q5 := hq 5
    have q6 := hq 6
    have q7 := hq 7
    have q8 := hq 8
    have fq := fun i => frozen_of_row w4 w.heap.size i _ 29 HROW4.out
    have l0 := fq 0
    have l1 := fq 1
    have l2 := fq 2
    have l3 := fq 3
    have l4 := fq 4
    have l5 := fq 5
    have l6 := fq 6
    have l7 := fq 7
    have l8 := fq 8
    clear hq fq
    cases eb with
    | true =>
      have hs9 := set9_row (.string key) (.bool dur) (.bool red) (.string id) (.int .u8 k) (.int .u64 n) (.string ss) (.slice a3 n3 c3) (.slice a4 n4 c4) HROW4.out
      have hb9 := set9_below HBEL4.out (Nat.le_refl w.heap.size) (.string key) (.bool dur) (.bool red) (.string id) (.int .u8 k) (.int .u64 n) (.string ss) (.slice a3 n3 c3) (.slice a4 n4 c4)
      have ha9 := set9_aft HAFT.out (Nat.lt_succ_self w.heap.size) (.string key) (.bool dur) (.bool red) (.string id) (.int .u8 k) (.int .u64 n) (.string ss) (.slice a3 n3 c3) (.slice a4 n4 c4)
      unfold set9 at hs9 hb9 ha9
      have HS9 := Lib.hid hs9
      have HB9 := Lib.hid hb9
      have HA9 := Lib.hid ha9
      clear hs9 hb9 ha9
      go_wp2_with fail
      refine bodyPost_ret (results_cell_tmp rfl _ _ w.heap.size 29 _ (0, 0) _ rfl HS9.out Tryz.underlying29 rfl (by kernel_rfl)) rfl ?_
      have hsh := HSH.out
      rw [World.size_alloc] at hsh
      exact get_said_ok (HY.out hv (HEQ.out.1 trivial)) HB9.out rfl ⟨HSZ.out.1, HSZ.out.2, HA9.out.shows hsh (Nat.le_succ _)⟩
    | false =>
      have hs9 := set9_row (.string ⟨#[]⟩) (.bool false) (.bool false) (.string ⟨#[]⟩) (.int .u8 0) (.int .u64 0) (.string ⟨#[]⟩) (.slice none 0 0) (.slice none 0 0) HROW4.out
      have hb9 := set9_below HBEL4.out (Nat.le_refl w.heap.size) (.string ⟨#[]⟩) (.bool false) (.bool false) (.string ⟨#[]⟩) (.int .u8 0) (.int .u64 0) (.string ⟨#[]⟩) (.slice none 0 0) (.slice none 0 0)
      unfold set9 at hs9 hb9
      have HS9 := Lib.hid hs9
      have HB9 := Lib.hid hb9
      clear hs9 hb9
      go_wp2_with fail
      refine bodyPost_ret (results_cell_tmp rfl _ _ w.heap.size 29 _ (0, 0) _ rfl HS9.out Tryz.underlying29 rfl (by kernel_rfl)) rfl ?_
      exact get_said_no (HN.out (fun h => by have := HEQ.out.2 h.2; cases this)) HB9.out rfl
  · have HP := Lib.hid (HPN.out hv)
    have HNN := Lib.hid (HN.out (fun h => hv h.1))
    generalize decPr (sb s) = p at *
    obtain ⟨key, dur, red, id, app⟩ := p
    unfold propV at HD HP
    simp only [] at HD HP
    clear HPO HPN hst HN HY
    go_enter Tryz.func11, Tryz.ntmps11
    go_wp2_with fail
    refine HD.out.mono ?_
    rintro e w2 ⟨k, n, ss, a3, n3, c3, a4, n4, c4, rfl, hsh2, hb2⟩
    have hA3 := below_boxV w2 (Obj.cells #[.string key, .bool dur, .bool red, .string id, .int .u8 k, .int .u64 n, .string ss, .slice a3 n3 c3, .slice a4 n4 c4] 29)
    have hX3 := BoxPr.new (p := ⟨key, dur, red, id, app⟩) (v0 := .int .u8 k) (v1 := .int .u64 n) (v2 := .string ss) (v3 := .slice a3 n3 c3) (v4 := .slice a4 n4 c4) w2
    have HB2 := Lib.hid hb2
    have HA3 := Lib.hid hA3
    have HPX := Lib.hid (HP.out _ _ _ _ _ _ ⟨HSZ.out.1, HSZ.out.2, (hsh2.sub (low_out _ _)).kept hA3 (Nat.le_refl _)⟩)
    obtain ⟨⟨e0, e1, e2, e3⟩, e4, e5, e6, e7, e8⟩ := hX3.cells
    simp only [] at e0 e1 e2 e3
    clear hsh2 hb2 hA3 hX3
    go_wp2_with fail
    refine HPX.out.mono ?_
    rintro e w4 ⟨rfl, hb4⟩
    have hrow4 := (hb4.block w.heap.size (by have := HB2.out.size; simp at this ⊢; omega)).trans ((HA3.out.block w.heap.size (by have := HB2.out.size; simp at this; omega)).trans ((HB2.out.block w.heap.size (by simp)).trans HROW.out))
    have hbel4 := ((HB0.out.trans (HB2.out.mono HB0.out.size)).trans (HA3.out.mono (by have := HB2.out.size; simp at this; omega))).trans (hb4.mono (by have := HB2.out.size; simp at this ⊢; omega))
    have HROW4 := Lib.hid hrow4
    have HBEL4 := Lib.hid hbel4
    clear e0 e1 e2 e3 e4 e5 e6 e7 e8 hb4 hrow4 hbel4
    have hq : ∀ i, w4.cell? ⟨w.heap.size, i, none⟩ = (#[Value.string ⟨#[]⟩, .bool false, .bool false, .string ⟨#[]⟩, .int .u8 0, .int .u64 0, .string ⟨#[]⟩, .slice none 0 0, .slice none 0 0] : Array Value)[i]? := fun i => cell_of_row w4 w.heap.size i _ 29 (0, 0) HROW4.out
    have q0 := hq 0
    have q1 := hq 1
    have q2 := hq 2
    have q3 := hq 3
    have q4 := hq 4
    have q5 := hq 5
    have q6 := hq 6
    have q7 := hq 7
    have q8 := hq 8
    have fq := fun i => frozen_of_row w4 w.heap.size i _ 29 HROW4.out
    have l0 := fq 0
    have l1 := fq 1
    have l2 := fq 2
    have l3 := fq 3
    have l4 := fq 4
    have l5 := fq 5
    have l6 := fq 6
    have l7 := fq 7
    have l8 := fq 8
    clear hq fq
    have hs9 := set9_row (.string ⟨#[]⟩) (.bool false) (.bool false) (.string ⟨#[]⟩) (.int .u8 0) (.int .u64 0) (.string ⟨#[]⟩) (.slice none 0 0) (.slice none 0 0) HROW4.out
    have hb9 := set9_below HBEL4.out (Nat.le_refl w.heap.size) (.string ⟨#[]⟩) (.bool false) (.bool false) (.string ⟨#[]⟩) (.int .u8 0) (.int .u64 0) (.string ⟨#[]⟩) (.slice none 0 0) (.slice none 0 0)
    unfold set9 at hs9 hb9
    have HS9 := Lib.hid hs9
    have HB9 := Lib.hid hb9
    clear hs9 hb9
    go_wp2_with fail
    refine bodyPost_ret (results_cell_tmp rfl _ _ w.heap.size 29 _ (0, 0) _ rfl HS9.out Tryz.underlying29 rfl (by kernel_rfl)) rfl ?_
    exact get_said_no HNN.out HB9.out rfl

end Go.Proofs.YtdjahdnaihijjaaGreatDoor
/-
  The contract of the law's own head.
  Conditions: none.
-/
namespace Go.Proofs.YtdjahdnaihijjaaGreatDoor
open Go.RowKit
set_option linter.unusedVariables false
set_option linter.unusedSimpArgs false

def pH1 : PropP := ⟨⟨#[113]⟩, true, false, ⟨#[]⟩, prZ⟩
def pH2 : PropP := ⟨⟨#[]⟩, false, true, ⟨#[]⟩, prZ⟩
theorem valid_pH1 : validPr pH1 := ⟨by decide, by decide, .inr rfl⟩
theorem valid_pH2 : validPr pH2 := ⟨by decide, by decide, .inr rfl⟩
theorem enc_pH1 : encPr pH1 = [0, 0, 0, 6, 4, 1, 0, 5, 1, 113] := by decide +kernel
theorem enc_pH2 : encPr pH2 = [0, 0, 0, 4, 4, 1, 0, 2] := by decide +kernel
theorem get_pH2 : getPr (sb ⟨#[0, 0, 0, 4, 4, 1, 0, 2]⟩) = some pH2 := by
  have := get_enc valid_pH2
  rw [enc_pH2] at this
  exact this
theorem get_nil9 : getPr (sb ⟨#[]⟩) = none := by
  cases h : getPr (sb ⟨#[]⟩) with
  | none => rfl
  | some p =>
    obtain ⟨_, h2⟩ := get_some h
    have h3 := congrArg List.length h2
    have h4 : (encPr p).length ≥ 8 := by
      unfold encPr
      rw [List.length_append, partB_len]
      omega
    rw [h3] at h4
    exact absurd h4 (by decide)

/-- Properties in two boxes of the call's own. -/
structure TwoP (w0 : World) (p q : PropP) (a0 a1 a2 a3 a4 b0 b1 b2 b3 b4 : Value) (w : World) : Prop where
  a : BoxPr w w0.heap.size p a0 a1 a2 a3 a4
  b : BoxPr w (w0.heap.size + 1) q b0 b1 b2 b3 b4
  bel : Below w0.heap.size w0 w
section
variable {w0 w w' : World} {p q : PropP} {a0 a1 a2 a3 a4 b0 b1 b2 b3 b4 : Value}
theorem TwoP.new (w0 : World) (p q : PropP) (a0 a1 a2 a3 a4 b0 b1 b2 b3 b4 : Value) : TwoP w0 p q a0 a1 a2 a3 a4 b0 b1 b2 b3 b4 ((w0.alloc (Obj.cells #[.string p.key, .bool p.dur, .bool p.red, .string p.id, a0, a1, a2, a3, a4] 29)).alloc (Obj.cells #[.string q.key, .bool q.dur, .bool q.red, .string q.id, b0, b1, b2, b3, b4] 29)) := by
  have hB1 := below_boxV w0 (Obj.cells #[.string p.key, .bool p.dur, .bool p.red, .string p.id, a0, a1, a2, a3, a4] 29)
  have hB2 := below_boxV (w0.alloc (Obj.cells #[.string p.key, .bool p.dur, .bool p.red, .string p.id, a0, a1, a2, a3, a4] 29)) (Obj.cells #[.string q.key, .bool q.dur, .bool q.red, .string q.id, b0, b1, b2, b3, b4] 29)
  have hX2 := BoxPr.new (p := q) (v0 := b0) (v1 := b1) (v2 := b2) (v3 := b3) (v4 := b4) (w0.alloc (Obj.cells #[.string p.key, .bool p.dur, .bool p.red, .string p.id, a0, a1, a2, a3, a4] 29))
  rw [World.size_alloc] at hX2
  exact ⟨BoxPr.kept (BoxPr.new w0) hB2 (Nat.le_refl _), hX2, hB1.trans (hB2.mono hB1.size)⟩
theorem TwoP.step (h : TwoP w0 p q a0 a1 a2 a3 a4 b0 b1 b2 b3 b4 w) (hb : Below w.heap.size w w') : TwoP w0 p q a0 a1 a2 a3 a4 b0 b1 b2 b3 b4 w' :=
  ⟨h.a.kept hb (Nat.le_refl _), h.b.kept hb (Nat.le_refl _), h.bel.trans (hb.mono h.bel.size)⟩
theorem TwoP.drew (h : TwoP w0 p q a0 a1 a2 a3 a4 b0 b1 b2 b3 b4 w) : TwoP w0 p q a0 a1 a2 a3 a4 b0 b1 b2 b3 b4 w.drew := h.step (below_drew1 (Below.refl _ _))
theorem TwoP.cells (h : TwoP w0 p q a0 a1 a2 a3 a4 b0 b1 b2 b3 b4 w) :
    ((w.cell? ⟨w0.heap.size, 0, none⟩ = some (.string p.key) ∧ w.cell? ⟨w0.heap.size, 1, none⟩ = some (.bool p.dur) ∧ w.cell? ⟨w0.heap.size, 2, none⟩ = some (.bool p.red) ∧ w.cell? ⟨w0.heap.size, 3, none⟩ = some (.string p.id)) ∧
      (w.cell? ⟨w0.heap.size, 4, none⟩ = some a0 ∧ w.cell? ⟨w0.heap.size, 5, none⟩ = some a1 ∧ w.cell? ⟨w0.heap.size, 6, none⟩ = some a2 ∧ w.cell? ⟨w0.heap.size, 7, none⟩ = some a3 ∧ w.cell? ⟨w0.heap.size, 8, none⟩ = some a4)) ∧
    ((w.cell? ⟨w0.heap.size + 1, 0, none⟩ = some (.string q.key) ∧ w.cell? ⟨w0.heap.size + 1, 1, none⟩ = some (.bool q.dur) ∧ w.cell? ⟨w0.heap.size + 1, 2, none⟩ = some (.bool q.red) ∧ w.cell? ⟨w0.heap.size + 1, 3, none⟩ = some (.string q.id)) ∧
      (w.cell? ⟨w0.heap.size + 1, 4, none⟩ = some b0 ∧ w.cell? ⟨w0.heap.size + 1, 5, none⟩ = some b1 ∧ w.cell? ⟨w0.heap.size + 1, 6, none⟩ = some b2 ∧ w.cell? ⟨w0.heap.size + 1, 7, none⟩ = some b3 ∧ w.cell? ⟨w0.heap.size + 1, 8, none⟩ = some b4)) := ⟨h.a.cells, h.b.cells⟩
theorem TwoP.calls {f : FuncId} {args : Array Value} {r : Ending} (hc : ∀ w, TwoP w0 p q a0 a1 a2 a3 a4 b0 b1 b2 b3 b4 w → Calls Tryz.prog f args w fun e w' => e = r ∧ Below w.heap.size w w') :
    ∀ w, TwoP w0 p q a0 a1 a2 a3 a4 b0 b1 b2 b3 b4 w → Calls Tryz.prog f args w fun e w' => e = r ∧ TwoP w0 p q a0 a1 a2 a3 a4 b0 b1 b2 b3 b4 w' :=
  fun w h => (hc w h).mono fun e w' he => ⟨he.1, h.step he.2⟩
end
/-- What Put tells, properties that may be or not. -/
noncomputable def putPr (p : PropP) : ByteArray := by classical exact if validPr p then str8 (encPr p) else ⟨#[]⟩
theorem pput_any (p : PropP) (v0 v1 v2 v3 v4 : Value) (w : World) (h : ShowsP w p v0 v1 v2 v3 v4) (hc : True) :
    Calls Tryz.prog 4 #[propV p v0 v1 v2 v3 v4] w fun e w' => e = .returned (.tuple #[.string (putPr p), .int .i64 (errP p)]) ∧ Below w.heap.size w w' := by
  by_cases hv : validPr p
  · have := pput_ok p v0 v1 v2 v3 v4 w h hc hv
    rw [errP_ok hv]
    unfold putPr
    rw [if_pos hv]
    exact this
  · have := pput_no p v0 v1 v2 v3 v4 w h hc hv
    rw [errP_no hv]
    unfold putPr
    rw [if_neg hv]
    exact this

end Go.Proofs.YtdjahdnaihijjaaGreatDoor
