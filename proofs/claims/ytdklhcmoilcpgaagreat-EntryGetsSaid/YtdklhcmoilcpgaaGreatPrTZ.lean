/-
  The document's own Get of properties tells what Get tells.
  Conditions: at most 40000 bytes.
-/
import Derived.Test.YtdklhcmoilcpgaaGreatVgCZ
import Derived.Test.YtdklhcmoilcpgaaGreatPrRZ
namespace Go.Proofs.YtdklhcmoilcpgaaGreat
open Go.RowKit
set_option linter.unusedVariables false
set_option linter.unusedSimpArgs false
structure QD (w : World) (g d bp : Nat) (p : PropP) (s : St) (wx : World) : Prop where
  r : BoxZP wx w.heap.size zPr
  b : BoxZP wx bp p
  rd : QS wx g d s
  bel : Below w.heap.size w wx
  gw : w.heap.size < g
  dg : d ≤ g
  dw : w.heap.size < d
  gb : g < bp
section
variable {w wx wy : World} {g d bp : Nat} {p : PropP} {s s' : St}
theorem QD.read (h : QD w g d bp p s wx) (hq : QS wy g d s') (hg : wx.grownBy wy (some g)) : QD w g d bp p s' wy := by
 have := h.gw; have := h.gb
 exact ⟨(hg.block _ h.r.lt (fun e => by have := Option.some.inj e; omega)).trans h.r, (hg.block _ h.b.lt (fun e => by have := Option.some.inj e; omega)).trans h.b, hq, below_grown h.bel hg (by omega), h.gw, h.dg, h.dw, h.gb⟩
theorem QD.step (h : QD w g d bp p s wx) (hb : Below wx.heap.size wx wy) : QD w g d bp p s wy :=
 ⟨h.r.kept hb (Nat.le_refl _), h.b.kept hb (Nat.le_refl _), h.rd.keep hb.size (hb.block g h.rd.lt) (fun hd => hb.block d hd), h.bel.trans (hb.mono h.bel.size), h.gw, h.dg, h.dw, h.gb⟩
theorem QD.set (h : QD w g d bp p s wx) (i : Nat) (u : Value) {q : PropP} (hq : BoxZP (wx.setCell ⟨bp, i, none⟩ u) bp q) : QD w g d bp q s (wx.setCell ⟨bp, i, none⟩ u) := by
 have := h.gw; have := h.gb; have := h.dg
 exact ⟨(Below.heap_setCell _ _ _ _ (by show w.heap.size ≠ bp; omega)).trans h.r, hq, h.rd.keep (by simp) (Below.heap_setCell _ _ _ _ (by show g ≠ bp; omega)) (fun _ => Below.heap_setCell _ _ _ _ (by show d ≠ bp; omega)), below_set h.bel (by omega) u, h.gw, h.dg, h.dw, h.gb⟩
end
theorem BoxZP.c {w : World} {b : Nat} {p : PropP} (h : BoxZP w b p) : (w.cell? ⟨b, 0, none⟩ = some (.string p.key) ∧ w.cell? ⟨b, 1, none⟩ = some (.bool p.dur) ∧ w.cell? ⟨b, 2, none⟩ = some (.bool p.red) ∧ w.cell? ⟨b, 3, none⟩ = some (.string p.id)) ∧
  w.cell? ⟨b, 4, none⟩ = some (.int .u8 0) ∧ w.cell? ⟨b, 5, none⟩ = some (.int .u64 0) ∧ w.cell? ⟨b, 6, none⟩ = some (.string ⟨#[]⟩) ∧ w.cell? ⟨b, 7, none⟩ = some (.slice none 0 0) ∧ w.cell? ⟨b, 8, none⟩ = some (.slice none 0 0) := BoxPr.cells h
theorem GetSaid.low {l : List UInt8} {w w' : World} {e : Ending} (h : GetSaid l w (getP l) e w') :
  ∃ (x : Cell5) (N E : Int), e = .returned (.tuple #[.agg x.vs.toArray, .int .i64 N, .int .i64 E]) ∧ ShowsT (lowm w.heap.size w') (qapp true l) x.vs ∧ Below w.heap.size w w' := by
 obtain ⟨hb, h⟩ := h
 unfold qapp
 rw [if_pos rfl]
 generalize getP l = r at *
 cases r with
 | none => exact ⟨⟨0, 0, ⟨#[]⟩, none, 0, 0, none, 0, 0⟩, 0, 5, h.trans rfl, zero_shows _, hb⟩
 | some p =>
  obtain ⟨t, n⟩ := p
  obtain ⟨vs, he, hs⟩ := h
  obtain ⟨x, rfl⟩ := hs.cell5
  exact ⟨x, n, 0, he, hs, hb⟩
theorem QS.c0 {w : World} {g d : Nat} {s : St} (h : QS w g d s) : ∃ A c, w.cell? ⟨g, 0, none⟩ = some (.slice A (leftB s).length c) ∧ Shows w d (.slice A (leftB s).length c) (leftB s) := by
 cases s with
 | none => exact ⟨none, 0, by rw [cell_of_row w g 0 _ 85 (0, 0) h]; rfl, Shows.nil_ _ _⟩
 | some l => obtain ⟨A, c, h1, h2⟩ := h; exact ⟨A, c, by rw [cell_of_row w g 0 _ 85 (0, 0) h1]; rfl, h2⟩
structure QF (w : World) (bp : Nat) (p : PropP) (k n : Nat) (ss : ByteArray) (a3 : Option Addr) (n3 c3 : Nat) (a4 : Option Addr) (n4 c4 : Nat) (wx : World) : Prop where
  r : BoxZP wx w.heap.size zPr
  b : BoxPr wx bp p (.int .u8 k) (.int .u64 n) (.string ss) (.slice a3 n3 c3) (.slice a4 n4 c4)
  sh : ShowsT (lowm (w.heap.size + 1) wx) p.app [.int .u8 k, .int .u64 n, .string ss, .slice a3 n3 c3, .slice a4 n4 c4]
  bel : Below w.heap.size w wx
  wb : w.heap.size < bp
theorem zero_low (B : Nat) (w : World) : ShowsT (lowm B w) prZ [.int .u8 (0 : Nat), .int .u64 (0 : Nat), .string ⟨#[]⟩, .slice none 0 0, .slice none 0 0] := zero_shows _
theorem QD.fin {w wx : World} {g d bp : Nat} {p : PropP} {s : St} (h : QD w g d bp p s wx) (ha : p.app = prZ) : QF w bp p 0 0 ⟨#[]⟩ none 0 0 none 0 0 wx :=
 ⟨h.r, h.b, by rw [ha]; exact zero_low _ _, h.bel, by have := h.gw; have := h.gb; omega⟩
theorem QF.step {w wx wy : World} {bp : Nat} {p : PropP} {k n : Nat} {ss : ByteArray} {a3 : Option Addr} {n3 c3 : Nat} {a4 : Option Addr} {n4 c4 : Nat} (h : QF w bp p k n ss a3 n3 c3 a4 n4 c4 wx) (hb : Below wx.heap.size wx wy) : QF w bp p k n ss a3 n3 c3 a4 n4 c4 wy :=
 ⟨h.r.kept hb (Nat.le_refl _), h.b.kept hb (Nat.le_refl _), h.sh.sub (low_sub hb.size fun k _ hk => hb.block k hk), h.bel.trans (hb.mono h.bel.size), h.wb⟩
theorem low_set9 (w : World) (b : Nat) {B : Nat} (hB : b < B) (x0 x1 x2 x3 x4 x5 x6 x7 x8 : Value) : Sub (lowm B w) (lowm B (set9 w b x0 x1 x2 x3 x4 x5 x6 x7 x8)) :=
 ((((((((low_set hB 0 x0).trans (low_set hB 1 x1)).trans (low_set hB 2 x2)).trans (low_set hB 3 x3)).trans (low_set hB 4 x4)).trans (low_set hB 5 x5)).trans (low_set hB 6 x6)).trans (low_set hB 7 x7)).trans (low_set hB 8 x8)
theorem qtxt_fst (b : Bool) (s : St) : (qtxt b s).1.length ≤ lenS s := by
 unfold qtxt
 split
 ·exact textS_fst_le _ _ _
 ·exact Nat.zero_le _
theorem qtxt_snd (b : Bool) (s : St) : lenS (qtxt b s).2 ≤ lenS s := by
 unfold qtxt
 split
 ·exact textS_lenS _ _ _
 ·exact Nat.le_refl _
theorem qdec_sizes (l : List UInt8) : (qdec l).key.size ≤ l.length ∧ (qdec l).id.size ≤ l.length := by
 have h1 : lenS (numS 1 (takeS 7 (some l)).2).2 ≤ l.length := Nat.le_trans (numS_lenS 1 _) (takeS_lenS 7 _)
 have hk : ∀ b, (qtxt b (numS 1 (takeS 7 (some l)).2).2).1.length ≤ l.length := fun b => Nat.le_trans (qtxt_fst _ _) h1
 have h3 : ∀ b, lenS (qtxt b (numS 1 (takeS 7 (some l)).2).2).2 ≤ l.length := fun b => Nat.le_trans (qtxt_snd _ _) h1
 unfold qdec
 simp only []
 split
 ·exact ⟨by rw [str8_size]; exact hk _, Nat.zero_le _⟩
 ·exact ⟨by rw [str8_size]; exact hk _, by rw [str8_size]; exact Nat.le_trans (qtxt_fst _ _) (Nat.le_trans (numS_lenS 1 _) (Nat.le_trans (takeS_lenS 7 _) (h3 _)))⟩
theorem QD.finV {w wx wy : World} {g d bp : Nat} {p : PropP} {s : St} {t : Tree} {k n : Nat} {ss : ByteArray} {a3 : Option Addr} {n3 c3 : Nat} {a4 : Option Addr} {n4 c4 : Nat} (h : QD w g d bp p s wx) (hb : Below wx.heap.size wx wy)
  (hs : ShowsT (lowm wx.heap.size wy) t [.int .u8 k, .int .u64 n, .string ss, .slice a3 n3 c3, .slice a4 n4 c4]) :
  QF w bp { p with app := t } k n ss a3 n3 c3 a4 n4 c4 (((((wy.setCell ⟨bp, 4, none⟩ (.int .u8 k)).setCell ⟨bp, 5, none⟩ (.int .u64 n)).setCell ⟨bp, 6, none⟩ (.string ss)).setCell ⟨bp, 7, none⟩ (.slice a3 n3 c3)).setCell ⟨bp, 8, none⟩ (.slice a4 n4 c4)) := by
 have hD := h.step hb
 have := h.gw; have := h.gb
 have hlt : bp < wx.heap.size := h.b.lt
 have r1 := heap_setCell_same wy bp 4 _ 65 (.int .u8 k) hD.b
 have r2 := heap_setCell_same _ bp 5 _ 65 (.int .u64 n) r1
 have r3 := heap_setCell_same _ bp 6 _ 65 (.string ss) r2
 have r4 := heap_setCell_same _ bp 7 _ 65 (.slice a3 n3 c3) r3
 have r5 := heap_setCell_same _ bp 8 _ 65 (.slice a4 n4 c4) r4
 have hset : ∀ (W : World) (i : Nat) (u : Value), (W.setCell ⟨bp, i, none⟩ u).heap[w.heap.size]? = W.heap[w.heap.size]? := fun W i u => Below.heap_setCell _ _ _ _ (by show w.heap.size ≠ bp; omega)
 refine ⟨?_, r5, ?_, ?_, by omega⟩
 ·exact ((hset _ _ _).trans ((hset _ _ _).trans ((hset _ _ _).trans ((hset _ _ _).trans (hset _ _ _))))).trans hD.r
 ·exact (hs.sub (((((low_set hlt 4 _).trans (low_set hlt 5 _)).trans (low_set hlt 6 _)).trans (low_set hlt 7 _)).trans (low_set hlt 8 _))).sub (low_anti (by have := h.r.lt; omega))
 ·exact below_set (below_set (below_set (below_set (below_set hD.bel (by omega) _) (by omega) _) (by omega) _) (by omega) _) (by omega) _
set_option maxRecDepth 100000 in
set_option maxHeartbeats 8000000 in
theorem qpget_any (s : ByteArray) (w : World) (hs : s.size ≤ 40000) : Calls Tryz.prog 42 #[.string s] w (PGetSaid (sb s) w) := by
 have hl : (sb s).length ≤ 40000 := by rw [sb_length]; exact hs
 obtain ⟨v1, w1, hcv, hs1, hb1⟩ := conv_tobytes (w.alloc zbox) s (by omega)
 have hB1 : Below w.heap.size w w1 := (below_boxV w zbox).trans (hb1.mono (below_boxV w zbox).size)
 have hX1 : BoxZP w1 w.heap.size zPr := (hb1.block w.heap.size (by simp)).trans (heap_alloc_new w zbox)
 have HO := Lib.hid (qopen_any v1 (sb s) _ w1 hs1 (by omega))
 have HX1 := Lib.hid hX1
 have HB1 := Lib.hid hB1
 have HE := Lib.hid (qget_eq (sb s))
 clear hX1 hb1 hs1 hB1
 go_enter Tryz.func42, Tryz.ntmps42
 go_wp2_with fail
 refine HO.out.mono ?_
 rintro e w2 ⟨g, d, rfl, hq2, hg2, ⟨hd1, hd2⟩, hb2⟩
 have hx1 : w.heap.size < w1.heap.size := HX1.out.lt
 have hs2 := hb2.size
 clear hcv
 go_upto_region 3 with fail
 obtain ⟨W3, hW3⟩ : ∃ W3, W3 = w2.alloc zbox := ⟨_, rfl⟩
 have hA3 : Below w2.heap.size w2 W3 := by rw [hW3]; exact below_boxV w2 zbox
 have hD3 : QD w g d w2.heap.size zPr (some (sb s)) W3 :=
  ⟨(HX1.out.kept hb2 (Nat.le_refl _)).kept hA3 (Nat.le_refl _), by rw [hW3]; exact heap_alloc_new w2 zbox, hq2.keep hA3.size (hA3.block g hq2.lt) (fun hd => hA3.block d hd), (HB1.out.trans (hb2.mono HB1.out.size)).trans (hA3.mono (HB1.out.trans (hb2.mono HB1.out.size)).size), by omega, hd2, by omega, hq2.lt⟩
 rw [← hW3]
 generalize w2.heap.size = bp at *
 have HTK := Lib.hid (qtake_any g d (some (sb s)) 7 W3 hD3.rd (by show (sb s).length ≤ _; omega))
 have hl1 : lenS (takeS 7 (some (sb s))).2 ≤ 40000 := Nat.le_trans (takeS_lenS 7 _) hl
 clear hW3 hA3 hq2 hb2 hs2 hd1 hd2 hg2
 generalize hz1 : (takeS 7 (some (sb s))).2 = z1 at *
 go_wp2_with fail
 refine HTK.out.mono ?_
 rintro e w4 ⟨vt, rfl, _, hq4, hg4⟩
 have hD4 := hD3.read hq4 hg4
 have HNM := Lib.hid (qnum_any g d z1 1 w4 hq4 (by omega))
 have hk := numS1_lt z1
 have hl2 : lenS (numS 1 z1).2 ≤ 40000 := Nat.le_trans (numS_lenS 1 _) hl1
 generalize hz2 : (numS 1 z1).2 = z2 at *
 generalize hk1 : (numS 1 z1).1 = b1 at *
 clear hD3 hq4 hg4 HTK
 go_wp2_with fail
 refine HNM.out.mono ?_
 rintro e w5 ⟨rfl, hq5, hg5⟩
 have hD5 := hD4.read hq5 hg5
 clear hD4 hq5 hg5 HNM
 go_upto_region 5 with fail
 obtain ⟨⟨x0, x1, x2, x3⟩, x4, x5, x6, x7, x8⟩ := hD5.b.c
 have fz := hD5.b.fr
 obtain ⟨P1, hP1⟩ : ∃ P1, P1 = decide (b1 % 2 = 1) := ⟨_, rfl⟩
 obtain ⟨P2, hP2⟩ : ∃ P2, P2 = decide (b1 / 2 % 2 = 1) := ⟨_, rfl⟩
 obtain ⟨P4, hP4⟩ : ∃ P4, P4 = decide (b1 / 4 % 2 = 1) := ⟨_, rfl⟩
 have t5 : ((b1 : Int) % 2 == 1) = P1 := by rw [hP1, Bool.eq_iff_iff]; simp only [beq_iff_eq, decide_eq_true_eq]; omega
 have t6 : ((b1 : Int) / 2 % 2 == 1) = P2 := by rw [hP2, Bool.eq_iff_iff]; simp only [beq_iff_eq, decide_eq_true_eq]; omega
 have t7 : ((b1 : Int) / 4 % 2 == 1) = P4 := by rw [hP4, Bool.eq_iff_iff]; simp only [beq_iff_eq, decide_eq_true_eq]; omega
 have HP := Lib.hid (And.intro hP1 (And.intro hP2 hP4))
 clear hP1 hP2 hP4
 have hD6 : QD w g d bp { zPr with dur := P1 } z2 _ := hD5.set 1 (.bool P1) (hD5.b.dur P1)
 have HD6 := Lib.hid hD6
 clear hD6 hD5
 go_upto_region 6 with fail
 have hD6 := HD6.out
 clear x0 x1 x2 x3 x4 x5 x6 x7 x8 fz HD6 t5
 generalize w5.setCell ⟨bp, 1, none⟩ (.bool P1) = W6 at *
 obtain ⟨⟨x0, x1, x2, x3⟩, x4, x5, x6, x7, x8⟩ := hD6.b.c
 have fz := hD6.b.fr
 have HD7 := Lib.hid (show QD w g d bp { zPr with dur := P1, red := P2 } z2 _ from hD6.set 2 (.bool P2) (hD6.b.red P2))
 clear hD6
 go_upto_region 7 with fail
 have hD7 := HD7.out
 clear x0 x1 x2 x3 x4 x5 x6 x7 x8 fz HD7 t6
 generalize W6.setCell ⟨bp, 2, none⟩ (.bool P2) = W7 at *
 go_upto_if 28 with fail
 go_cut [] from 25 to 31 (fun wx => QD w g d bp ⟨str8 (qtxt P4 z2).1, P1, P2, ⟨#[]⟩, prZ⟩ (qtxt P4 z2).2 wx)
 case first =>
  cases P4 with
  | false =>
   go_wp2_with fail
   go_meet
   rw [show qtxt false z2 = ([], z2) from rfl]
   exact hD7
  | true =>
   have HT := Lib.hid (qtext_any g d z2 1 255 W7 hD7.rd (by omega) (by omega) (by omega))
   go_wp2_with fail
   refine HT.out.mono ?_
   rintro e w8 ⟨rfl, hq8, hg8⟩
   have hD8 := hD7.read hq8 hg8
   obtain ⟨⟨x0, x1, x2, x3⟩, x4, x5, x6, x7, x8⟩ := hD8.b.c
   have fz := hD8.b.fr
   have HD9 := Lib.hid (show QD w g d bp ⟨str8 (textS 1 255 z2).1, P1, P2, ⟨#[]⟩, prZ⟩ (textS 1 255 z2).2 _ from hD8.set 0 (.string (str8 (textS 1 255 z2).1)) (hD8.b.key _))
   clear hD8 hD7 hq8 hg8 HT
   go_wp2_with fail
   go_meet
   exact HD9.out
 case rest =>
  clear hD7
  have hl3 : lenS (qtxt P4 z2).2 ≤ 40000 := by
   unfold qtxt
   split
   ·exact Nat.le_trans (textS_lenS _ _ _) hl2
   ·exact hl2
  generalize hkk : qtxt P4 z2 = kk at *
  obtain ⟨ky, z3⟩ := kk
  simp only [] at hcut hl3
  obtain ⟨A9, c9, g0, hsh9⟩ := hcut.rd.c0
  have g1 := hcut.rd.c1
  have HD9 := Lib.hid hcut
  have HSH9 := Lib.hid hsh9
  have hlb : (leftB z3).length ≤ 40000 := by cases z3 with | none => simp [leftB] | some l => exact hl3
  have HQD := Lib.hid (show qdec (sb s) = if (leftB z3).length = 0 then (⟨str8 ky, P1, P2, ⟨#[]⟩, prZ⟩ : PropP) else ⟨str8 ky, P1, P2, str8 (qtxt (decide ((numS 1 (takeS 7 z3).2).1 % 2 = 1)) (numS 1 (takeS 7 z3).2).2).1, qapp (decide ((numS 1 (takeS 7 z3).2).1 / 2 % 2 = 1)) (leftB (qtxt (decide ((numS 1 (takeS 7 z3).2).1 % 2 = 1)) (numS 1 (takeS 7 z3).2).2).2)⟩ from by
   simp only [qdec, hz1, hz2, hk1, ← HP.out.1, ← HP.out.2.1, ← HP.out.2.2, hkk])
  clear hcut hsh9 hz1 hz2 hk1 hkk
  rename World => w9
  go_upto_region 9 with fail
  go_upto_if 37 with fail
  go_cut [6] from 32 to 61 (fun b6 wx => ∃ (k n : Nat) (ss : ByteArray) (a3 : Option Addr) (n3 c3 : Nat) (a4 : Option Addr) (n4 c4 : Nat), QF w bp (qdec (sb s)) k n ss a3 n3 c3 a4 n4 c4 wx)
  case first =>
   by_cases hL : (leftB z3).length = 0
   ·have hLI : ¬ (0 : Int) < ((leftB z3).length : Int) := by omega
    go_wp2_with fail
    go_meet
    refine ⟨0, 0, ⟨#[]⟩, none, 0, 0, none, 0, 0, ?_⟩
    rw [HQD.out, if_pos hL]
    exact HD9.out.fin rfl
   ·have hLI : (0 : Int) < ((leftB z3).length : Int) := by omega
    have hD9 := HD9.out
    have HQN := Lib.hid (show qdec (sb s) = _ from by rw [HQD.out, if_neg hL])
    have HTK2 := Lib.hid (qtake_any g d z3 7 w9 hD9.rd (by omega))
    have hl4 : lenS (takeS 7 z3).2 ≤ 40000 := Nat.le_trans (takeS_lenS 7 _) hl3
    clear hL HQD HD9
    generalize (takeS 7 z3).2 = z4 at *
    go_wp2_with fail
    refine HTK2.out.mono ?_
    rintro e w10 ⟨vt2, rfl, _, hq10, hg10⟩
    have hD10 := hD9.read hq10 hg10
    have HNM2 := Lib.hid (qnum_any g d z4 1 w10 hq10 (by omega))
    have hk2 := numS1_lt z4
    have hl5 : lenS (numS 1 z4).2 ≤ 40000 := Nat.le_trans (numS_lenS 1 _) hl4
    clear hD9 hq10 hg10 HTK2
    generalize (numS 1 z4).2 = z5 at *
    generalize (numS 1 z4).1 = b2 at *
    go_wp2_with fail
    refine HNM2.out.mono ?_
    rintro e w11 ⟨rfl, hq11, hg11⟩
    have hD11 := hD10.read hq11 hg11
    clear hD10 hq11 hg11 HNM2
    obtain ⟨PI, hPI⟩ : ∃ PI, PI = decide (b2 % 2 = 1) := ⟨_, rfl⟩
    obtain ⟨PM, hPM⟩ : ∃ PM, PM = decide (b2 / 2 % 2 = 1) := ⟨_, rfl⟩
    have t8 : ((b2 : Int) % 2 == 1) = PI := by rw [hPI, Bool.eq_iff_iff]; simp only [beq_iff_eq, decide_eq_true_eq]; omega
    have t9 : ((b2 : Int) / 2 % 2 == 1) = PM := by rw [hPM, Bool.eq_iff_iff]; simp only [beq_iff_eq, decide_eq_true_eq]; omega
    rw [← hPI, ← hPM] at HQN
    clear hPI hPM
    go_upto_if 44 with fail
    go_cut [] from 42 to 47 (fun wx => QD w g d bp ⟨str8 ky, P1, P2, str8 (qtxt PI z5).1, prZ⟩ (qtxt PI z5).2 wx)
    case first =>
     cases PI with
     | false =>
      go_wp2_with fail
      go_meet
      rw [show qtxt false z5 = ([], z5) from rfl]
      exact hD11
     | true =>
      have HT := Lib.hid (qtext_any g d z5 1 255 w11 hD11.rd (by omega) (by omega) (by omega))
      go_wp2_with fail
      refine HT.out.mono ?_
      rintro e w12 ⟨rfl, hq12, hg12⟩
      have hD12 := hD11.read hq12 hg12
      obtain ⟨⟨x0, x1, x2, x3⟩, x4, x5, x6, x7, x8⟩ := hD12.b.c
      have fz := hD12.b.fr
      have HD13 := Lib.hid (show QD w g d bp ⟨str8 ky, P1, P2, str8 (textS 1 255 z5).1, prZ⟩ (textS 1 255 z5).2 _ from hD12.set 3 (.string (str8 (textS 1 255 z5).1)) (hD12.b.id _))
      clear hD12 hD11 hq12 hg12 HT
      go_wp2_with fail
      go_meet
      exact HD13.out
    case rest =>
     clear hD11
     have hl6 : lenS (qtxt PI z5).2 ≤ 40000 := by
      unfold qtxt
      split
      ·exact Nat.le_trans (textS_lenS _ _ _) hl5
      ·exact hl5
     generalize qtxt PI z5 = ii at *
     obtain ⟨idt, z6⟩ := ii
     simp only [] at hcut hl6 HQN
     cases PM with
     | false =>
      have hF := hcut.fin rfl
      go_wp2_with fail
      go_meet
      refine ⟨0, 0, ⟨#[]⟩, none, 0, 0, none, 0, 0, ?_⟩
      rw [HQN.out]
      exact hF
     | true =>
      obtain ⟨A6, c6, k0, hsh6⟩ := hcut.rd.c0
      have hlb6 : (leftB z6).length ≤ 40000 := by cases z6 with | none => simp [leftB] | some l => exact hl6
      have HG := Lib.hid (rget_any (.slice A6 (leftB z6).length c6) d (leftB z6) wc hsh6 hlb6)
      have HDC := Lib.hid hcut
      clear hcut hsh6
      go_wp2_with fail
      refine HG.out.mono ?_
      rintro e w12 hsaid
      obtain ⟨⟨k, n, ss, a3, n3, c3, a4, n4, c4⟩, N, E, rfl, hs12, hb12⟩ := hsaid.low
      simp only [Cell5.vs] at hs12 ⊢
      have hD12 := HDC.out.step hb12
      obtain ⟨⟨x0, x1, x2, x3⟩, x4, x5, x6, x7, x8⟩ := hD12.b.c
      have fz := hD12.b.fr
      have HF := Lib.hid (HDC.out.finV hb12 hs12)
      clear hsaid hs12 hb12 hD12 k0 HG
      go_wp2_with fail
      go_meet
      refine ⟨k, n, ss, a3, n3, c3, a4, n4, c4, ?_⟩
      rw [HQN.out]
      exact HF.out
  case rest =>
   obtain ⟨k, n, ss, a3, n3, c3, a4, n4, c4, hF⟩ := hcut
   have HSZ := Lib.hid (qdec_sizes (sb s))
   have hv : validPr (qdec (sb s)) ↔ errP (qdec (sb s)) = 0 := ⟨fun h => errP_ok h, fun h => Classical.byContradiction fun hn => by rw [errP_no hn] at h; cases h⟩
   have hst : s.toList = sb s := sb_toList s
   have hpp : ∀ (h : errP (qdec (sb s)) = 0), ((putPr (qdec (sb s))).toList == s.toList) = decide (encPr (qdec (sb s)) = sb s) := fun h => by
    unfold putPr
    rw [if_pos (hv.2 h), str8_toList, hst, Bool.eq_iff_iff]
    simp
   have HPT := Lib.hid (qpput_any (qdec (sb s)) (.int .u8 k) (.int .u64 n) (.string ss) (.slice a3 n3 c3) (.slice a4 n4 c4) wc ⟨Nat.le_trans HSZ.out.1 (by omega), Nat.le_trans HSZ.out.2 (by omega), hF.sh.sub (low_out _ _)⟩)
   obtain ⟨⟨e0, e1, e2, e3⟩, e4, e5, e6, e7, e8⟩ := hF.b.cells
   have HV := Lib.hid hv
   have HPP := Lib.hid hpp
   have HF := Lib.hid hF
   clear hF HD9 HSH9 g0 g1 hst hv hpp HP
   generalize errP (qdec (sb s)) = E at *
   generalize putPr (qdec (sb s)) = S at *
   generalize qdec (sb s) = p at *
   obtain ⟨key, dur, red, id, app⟩ := p
   unfold propV at HPT
   simp only [] at HPT e0 e1 e2 e3
   go_wp2_with fail
   refine HPT.out.mono ?_
   rintro e w13 ⟨rfl, hb13⟩
   have hF13 := HF.out.step hb13
   clear e0 e1 e2 e3 e4 e5 e6 e7 e8 HF hb13 HPT
   obtain ⟨⟨e0, e1, e2, e3⟩, e4, e5, e6, e7, e8⟩ := hF13.b.cells
   simp only [] at e0 e1 e2 e3
   have hrow : w13.heap[w.heap.size]? = some (.cells #[.string ⟨#[]⟩, .bool false, .bool false, .string ⟨#[]⟩, .int .u8 0, .int .u64 0, .string ⟨#[]⟩, .slice none 0 0, .slice none 0 0] 65 (0, 0)) := hF13.r
   have HROW := Lib.hid hrow
   have HBEL := Lib.hid hF13.bel
   have HSH := Lib.hid hF13.sh
   have hq : ∀ i, w13.cell? ⟨w.heap.size, i, none⟩ = (#[Value.string ⟨#[]⟩, .bool false, .bool false, .string ⟨#[]⟩, .int .u8 0, .int .u64 0, .string ⟨#[]⟩, .slice none 0 0, .slice none 0 0] : Array Value)[i]? := fun i => cell_of_row w13 w.heap.size i _ 65 (0, 0) HROW.out
   have fq := fun i => frozen_of_row w13 w.heap.size i _ 65 HROW.out
   have hne : w.heap.size ≠ bp := by have := hF13.wb; omega
   have q0 := hq 0
   have q1 := hq 1
   have q2 := hq 2
   have q3 := hq 3
   have q4 := hq 4
   have q5 := hq 5
   have q6 := hq 6
   have q7 := hq 7
   have q8 := hq 8
   have l0 := fq 0
   have l1 := fq 1
   have l2 := fq 2
   have l3 := fq 3
   have l4 := fq 4
   have l5 := fq 5
   have l6 := fq 6
   have l7 := fq 7
   have l8 := fq 8
   clear hq fq hF13 hrow
   by_cases hE0 : E = 0
   case neg =>
    have tE : ((E : Int) != 0) = true := errno_ne E hE0
    have HNO := Lib.hid (HE.out.2 (fun h => hE0 (HV.out.1 h.1)))
    clear hE0
    have hs9 := set9_row (.string ⟨#[]⟩) (.bool false) (.bool false) (.string ⟨#[]⟩) (.int .u8 0) (.int .u64 0) (.string ⟨#[]⟩) (.slice none 0 0) (.slice none 0 0) HROW.out
    have hb9 := set9_below HBEL.out (Nat.le_refl w.heap.size) (.string ⟨#[]⟩) (.bool false) (.bool false) (.string ⟨#[]⟩) (.int .u8 0) (.int .u64 0) (.string ⟨#[]⟩) (.slice none 0 0) (.slice none 0 0)
    unfold set9 at hs9 hb9
    have HS9 := Lib.hid hs9
    have HB9 := Lib.hid hb9
    clear hs9 hb9
    go_wp2_with fail
    refine bodyPost_ret (results_cell_tmp rfl _ _ w.heap.size 65 _ (0, 0) _ rfl HS9.out Tryz.underlying65 rfl (by kernel_rfl)) rfl ?_
    exact get_said_no (HNO.out) HB9.out rfl
   have tE : ((E : Int) != 0) = false := by simp; omega
   obtain ⟨eb, heb⟩ : ∃ eb : Bool, eb = (S.toList == s.toList) := ⟨_, rfl⟩
   have HEB := Lib.hid (show eb = decide (encPr ⟨key, dur, red, id, app⟩ = sb s) from by rw [heb]; exact HPP.out hE0)
   have HVV := Lib.hid (HV.out.2 hE0)
   replace heb := heb.symm
   clear hE0
   cases eb with
   | true =>
    have HYES := Lib.hid (HE.out.1 ⟨HVV.out, of_decide_eq_true HEB.out.symm⟩)
    have hs9 := set9_row (.string key) (.bool dur) (.bool red) (.string id) (.int .u8 k) (.int .u64 n) (.string ss) (.slice a3 n3 c3) (.slice a4 n4 c4) HROW.out
    have hb9 := set9_below HBEL.out (Nat.le_refl w.heap.size) (.string key) (.bool dur) (.bool red) (.string id) (.int .u8 k) (.int .u64 n) (.string ss) (.slice a3 n3 c3) (.slice a4 n4 c4)
    have hl9 := low_set9 w13 w.heap.size (Nat.lt_succ_self w.heap.size) (.string key) (.bool dur) (.bool red) (.string id) (.int .u8 k) (.int .u64 n) (.string ss) (.slice a3 n3 c3) (.slice a4 n4 c4)
    unfold set9 at hs9 hb9 hl9
    have HS9 := Lib.hid hs9
    have HB9 := Lib.hid hb9
    have HL9 := Lib.hid hl9
    clear hs9 hb9 hl9
    go_wp2_with fail
    refine bodyPost_ret (results_cell_tmp rfl _ _ w.heap.size 65 _ (0, 0) _ rfl HS9.out Tryz.underlying65 rfl (by kernel_rfl)) rfl ?_
    exact get_said_ok HYES.out HB9.out rfl ⟨Nat.le_trans HSZ.out.1 (by omega), Nat.le_trans HSZ.out.2 (by omega), (HSH.out.sub HL9.out).sub (low_anti (Nat.le_succ _))⟩
   | false =>
    have HNO := Lib.hid (HE.out.2 (fun h => by have h2 := HEB.out; rw [decide_eq_true h.2] at h2; cases h2))
    have hs9 := set9_row (.string ⟨#[]⟩) (.bool false) (.bool false) (.string ⟨#[]⟩) (.int .u8 0) (.int .u64 0) (.string ⟨#[]⟩) (.slice none 0 0) (.slice none 0 0) HROW.out
    have hb9 := set9_below HBEL.out (Nat.le_refl w.heap.size) (.string ⟨#[]⟩) (.bool false) (.bool false) (.string ⟨#[]⟩) (.int .u8 0) (.int .u64 0) (.string ⟨#[]⟩) (.slice none 0 0) (.slice none 0 0)
    unfold set9 at hs9 hb9
    have HS9 := Lib.hid hs9
    have HB9 := Lib.hid hb9
    clear hs9 hb9
    go_wp2_with fail
    refine bodyPost_ret (results_cell_tmp rfl _ _ w.heap.size 65 _ (0, 0) _ rfl HS9.out Tryz.underlying65 rfl (by kernel_rfl)) rfl ?_
    exact get_said_no (HNO.out) HB9.out rfl
end Go.Proofs.YtdklhcmoilcpgaaGreat
