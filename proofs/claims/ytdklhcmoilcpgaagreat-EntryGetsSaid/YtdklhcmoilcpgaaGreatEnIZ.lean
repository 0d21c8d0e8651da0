/-
  Texts, together: EnI, EnJ, EnK, EnL, EnN, EnO, EnQ.
  Conditions: none but sizes.
-/
import Derived.Test.YtdklhcmoilcpgaaGreatEnPZ
import Derived.Test.YtdklhcmoilcpgaaGreatPrIZ
import Derived.Test.YtdklhcmoilcpgaaGreatXiOZ
import Derived.Test.YtdklhcmoilcpgaaGreatEnFZ
set_option linter.unusedVariables false
set_option linter.unusedSimpArgs false
namespace Go.Proofs.YtdklhcmoilcpgaaGreat
open Go.RowKit
set_option maxRecDepth 100000
theorem infoPut : (Tryz.prog.info? 67).map (fun i => (i.zero, i.size, i.bytes)) = some (some (.agg #[.string ⟨#[]⟩, .int .u64 0, .string ⟨#[]⟩, .bool false, .bool false, .string ⟨#[]⟩, .int .u8 0, .int .u64 0, .string ⟨#[]⟩, .slice none 0 0, .slice none 0 0, .string ⟨#[]⟩]), putC.sz, 160) := by kernel_rfl
theorem infoRef : (Tryz.prog.info? 48).map (fun i => (i.zero, i.size, i.bytes)) = some (some (.agg #[.string ⟨#[]⟩, .int .u64 0]), refC.sz, 24) := by kernel_rfl
structure PRow (base : Nat) (v : Value) (cs : List PutC) (w : World) : Prop where
  own : OwnG putC 67 w base v cs
  sh : ∀ j (h : j < cs.length), PutAt (pm (Free base v (.slice none 0 0)) w) cs[j]
section
variable {base : Nat} {v v' : Value} {cs : List PutC} {w w4 w5 w6 w' : World} {c : PutC}
theorem PRow.nil (base : Nat) (w : World) : PRow base (.slice none 0 0) [] w := ⟨OwnG.nil_ _ _ _ _, fun j h => absurd h (by simp)⟩
theorem PRow.step (h : PRow base v cs w) (hb : Below w.heap.size w w') : PRow base v cs w' :=
 ⟨h.own.keep fun i hi => hb.block i (h.own.block i hi).2, fun j hj => (h.sh j hj).sub (pm_pm hb.size fun k hk hkw => ⟨hk, hb.block k hkw⟩)⟩
theorem PRow.grown {g : Nat} (h : PRow base v cs w) (hg : w.grownBy w' (some g)) (hb : g < base) : PRow base v cs w' :=
 ⟨h.own.keep fun i hi => hg.block i (h.own.block i hi).2 (fun e => by have := Option.some.inj e; have := (h.own.block i hi).1; omega),
  fun j hj => (h.sh j hj).sub (pm_pm hg.size fun k hk hkw => ⟨hk, hg.block k hkw (fun e => by have := Option.some.inj e; have := hk.1; omega)⟩)⟩
theorem PRow.push {g : Nat} (h : PRow base v cs w) (hB : base ≤ w.heap.size) (hg : w.grownBy w4 (some g)) (hgb : g < base) (hc : PutAt (lowm w.heap.size w4) c) (hb5 : Below w4.heap.size w4 w5) (ho : OwnG putC 67 w6 base v' (cs ++ [c]))
  (hg6 : w5.grownBy w6 v.ownBlock) (hv : v'.ownBlock = v.ownBlock ∨ v'.ownBlock = some w5.heap.size) : PRow base v' (cs ++ [c]) w6 := by
 have h4 := h.grown hg hgb
 have hs1 := hg.size
 have hs2 := hb5.size
 refine ⟨ho, fun j hj => ?_⟩
 by_cases hjc : j < cs.length
 ·rw [List.getElem_append_left hjc]
  refine (h4.sh j hjc).sub (pm_pm (Nat.le_trans hb5.size hg6.size) fun k hk hkw => ⟨⟨hk.1, ?_, hk.2.2⟩, ?_⟩)
  ·rcases hv with e | e
   ·rw [e]; exact hk.2.1
   ·rw [e]; intro e2; have := Option.some.inj e2; omega
  ·exact (hg6.block k (by omega) (fun e => hk.2.1 e.symm)).trans (hb5.block k hkw)
 ·have hj0 : j = cs.length := by rw [List.length_append, List.length_singleton] at hj; omega
  subst hj0
  rw [List.getElem_append_right (Nat.le_refl _)]
  simp only [Nat.sub_self, List.getElem_cons_zero]
  refine hc.sub (low_pm (Nat.le_trans hb5.size hg6.size) fun k hk hkw => ⟨⟨by omega, ?_, by simp [Value.ownBlock]⟩, ?_⟩)
  ·rcases hv with e | e
   ·rw [e]; intro e2; have := (h.own.block k e2).2; omega
   ·rw [e]; intro e2; have := Option.some.inj e2; omega
  ·exact (hg6.block k (by omega) (fun e => by have := (h.own.block k e.symm).2; omega)).trans (hb5.block k hkw)
theorem PRow.row (h : PRow base v cs w) (hl : cs.length ≤ 1099511627776) : ∃ A n, v = .slice A cs.length n ∧ RowP (lowm base w) A n cs := by
 obtain ⟨A, n, hv, _⟩ := h.own.form
 refine ⟨A, n, hv, ?_, fun j hj => (h.sh j hj).sub (pm_low fun k hk => hk.1), hl⟩
 obtain ⟨d, _, hd⟩ := (h.own.low (Nat.le_refl base)).shows
 rw [hv] at hd
 exact ⟨d, hd⟩
end
structure RdE (b g d : Nat) (s : St) (w : World) : Prop where
  p : w.cell? ⟨b, 0, none⟩ = some (.pointer (some ⟨g, 0, none⟩))
  r : RS w g d s
  ne : g ≠ b
theorem RdE.below {b g d : Nat} {s : St} {w w' : World} (h : RdE b g d s w) (hb : Below w.heap.size w w') : RdE b g d s w' := ⟨cell_below h.p hb, h.r.below hb, h.ne⟩
theorem ename_any (b g d : Nat) (s : St) (w : World) (h : RdE b g d s w) (hl : lenS s ≤ 140737488355328) :
  Calls Tryz.prog 76 #[.pointer (some ⟨b, 0, none⟩)] w fun e w' => e = .returned (.string (str8 (textS 1 40 s).1)) ∧ RS w' g d (textS 1 40 s).2 ∧ w.grownBy w' (some g) := by
 have HT := Lib.hid (text_any g d s 1 40 w h.r hl (by decide) (by decide))
 have hp := h.p
 generalize textS 1 40 s = R at *
 clear h
 go_enter Tryz.func76, Tryz.ntmps76
 go_wp2_with fail
 refine HT.out.mono ?_
 rintro e w1 ⟨rfl, hr, hg⟩
 go_wp2_with fail
 go_ret
 exact ⟨rfl, hr, hg⟩
def PropsSaid (g d : Nat) (s : St) (w : World) (e : Ending) (w' : World) : Prop :=
  ∃ x : Cell5, e = .returned (propV (gotPr (textS 4 8192 s).1) (.int .u8 x.k) (.int .u64 x.n) (.string x.s) (.slice x.a3 x.n3 x.c3) (.slice x.a4 x.n4 x.c4)) ∧ ShowsP (lowm w.heap.size w') (gotPr (textS 4 8192 s).1) (.int .u8 x.k) (.int .u64 x.n) (.string x.s) (.slice x.a3 x.n3 x.c3) (.slice x.a4 x.n4 x.c4) ∧
    RS w' g d (textS 4 8192 s).2 ∧ w.grownBy w' (some g)
theorem PGetSaid.got {l : List UInt8} {w w' : World} {e : Ending} (h : PGetSaid l w e w') : Below w.heap.size w w' ∧ ∃ (x : Cell5) (E : Int), e = .returned (.tuple #[propV (gotPr l) (.int .u8 x.k) (.int .u64 x.n) (.string x.s) (.slice x.a3 x.n3 x.c3) (.slice x.a4 x.n4 x.c4), .int .i64 E]) ∧ ShowsP (lowm w.heap.size w') (gotPr l) (.int .u8 x.k) (.int .u64 x.n) (.string x.s) (.slice x.a3 x.n3 x.c3) (.slice x.a4 x.n4 x.c4) := by
 unfold PGetSaid at h
 unfold gotPr
 cases hg : getPr l with
 | none =>
  rw [hg] at h
  obtain ⟨hb, rfl⟩ := h
  exact ⟨hb, ⟨0, 0, ⟨#[]⟩, none, 0, 0, none, 0, 0⟩, 90, rfl, by decide, by decide, zero_shows _⟩
 | some p =>
  rw [hg] at h
  obtain ⟨hb, v0, v1, v2, v3, v4, rfl, hs⟩ := h
  obtain ⟨x, hx⟩ := hs.app.cell5
  simp only [Cell5.vs, List.cons.injEq, and_true] at hx
  obtain ⟨rfl, rfl, rfl, rfl, rfl⟩ := hx
  exact ⟨hb, x, 0, rfl, hs⟩
end Go.Proofs.YtdklhcmoilcpgaaGreat
namespace Go.Proofs.YtdklhcmoilcpgaaGreat
open Go.RowKit
set_option maxRecDepth 100000
theorem textS_le2 (q m : Int) (s : St) : (textS q m s).1.length ≤ lenS s := textS_fst_le _ _ _
theorem grown_set9 {w : World} {r : Option Nat} {w' : World} {b : Nat} (h : w.grownBy w' r) (hb : w.heap.size ≤ b) (x0 x1 x2 x3 x4 x5 x6 x7 x8 : Value) : w.grownBy (set9 w' b x0 x1 x2 x3 x4 x5 x6 x7 x8) r := by
 have hB : Below w.heap.size w' (set9 w' b x0 x1 x2 x3 x4 x5 x6 x7 x8) := set9_below ⟨rfl, rfl, rfl, Nat.le_refl _, fun _ _ => rfl⟩ hb _ _ _ _ _ _ _ _ _
 exact ⟨hB.os.trans h.os, hB.tape.trans h.tape, hB.output.trans h.output, Nat.le_trans h.size hB.size, fun k hk hr => (hB.block k hk).trans (h.block k hk hr)⟩
theorem rs_set9 {w : World} {g d b : Nat} {s : St} (h : RS w g d s) (h1 : g ≠ b) (h2 : d ≠ b) (x0 x1 x2 x3 x4 x5 x6 x7 x8 : Value) : RS (set9 w b x0 x1 x2 x3 x4 x5 x6 x7 x8) g d s := by
 unfold set9
 exact ((((((((h.set h1 h2 0 x0).set h1 h2 1 x1).set h1 h2 2 x2).set h1 h2 3 x3).set h1 h2 4 x4).set h1 h2 5 x5).set h1 h2 6 x6).set h1 h2 7 x7).set h1 h2 8 x8
theorem sub_set9 (w : World) (b : Nat) {B : Nat} (hB : b < B) (x0 x1 x2 x3 x4 x5 x6 x7 x8 : Value) : Sub (lowm B w) (lowm B (set9 w b x0 x1 x2 x3 x4 x5 x6 x7 x8)) := by
 unfold set9
 exact (low_set hB 0 x0).trans ((low_set hB 1 x1).trans ((low_set hB 2 x2).trans ((low_set hB 3 x3).trans ((low_set hB 4 x4).trans ((low_set hB 5 x5).trans ((low_set hB 6 x6).trans ((low_set hB 7 x7).trans (low_set hB 8 x8))))))))
set_option maxHeartbeats 8000000 in
theorem eprops_any (b g d : Nat) (s : St) (w : World) (h : RdE b g d s w) (hd : d < w.heap.size) (hl : lenS s ≤ 140737488351232) :
  Calls Tryz.prog 80 #[.pointer (some ⟨b, 0, none⟩)] w (PropsSaid g d s w) := by
 have hB0 := below_boxV w zbox
 have h0 := h.below hB0
 have HT := Lib.hid (text_any g d s 4 8192 (w.alloc zbox) h0.r (by omega) (by decide) (by decide))
 have hp := h0.p
 have hglt := h.r.lt
 have hsz : (textS 4 8192 s).1.length ≤ 140737488351232 := Nat.le_trans (textS_le2 _ _ _) hl
 have hG0 := fun w' => pget_any (str8 (textS 4 8192 s).1) w' (by rw [str8_size]; exact hsz)
 rw [sb_str8] at hG0
 have HG := Lib.hid (fun w' => (hG0 w').mono (fun e w'' h => PGetSaid.got h))
 clear hG0
 have hres := heap_alloc_new w zbox
 have HB0 := Lib.hid hB0
 have HRES := Lib.hid hres
 unfold PropsSaid
 generalize gotPr (textS 4 8192 s).1 = p at *
 generalize (textS 4 8192 s).1 = l at *
 generalize (textS 4 8192 s).2 = s' at *
 obtain ⟨key, dur, red, pid, app⟩ := p
 unfold propV at HG ⊢
 simp only [] at HG ⊢
 clear h h0 hB0 hres hl hsz
 go_enter Tryz.func80, Tryz.ntmps80
 go_wp2_with fail
 refine HT.out.mono ?_
 rintro e w1 ⟨rfl, hr1, hg1⟩
 go_wp2_with fail
 refine (HG.out _).mono ?_
 rintro e w2 ⟨hb2, ⟨k, n, ss, a3, n3, c3, a4, n4, c4⟩, E, rfl, hs2⟩
 simp only [] at hs2 ⊢
 have hz1 := hg1.size
 have hz2 := hb2.size
 rw [World.size_alloc] at hz1
 have hrow1 := (hg1.block w.heap.size (by rw [World.size_alloc]; omega) (fun e => by have := Option.some.inj e; omega)).trans HRES.out
 have hrow2 := (hb2.block w.heap.size (by omega)).trans hrow1
 have hgr : w.grownBy w2 (some g) := grown_trans' (grown_trans' (grown_of_below HB0.out) hg1) (grown_of_below hb2)
 have hr2 := hr1.below hb2
 have hA3 := below_boxV w2 (Obj.cells #[.string key, .bool dur, .bool red, .string pid, .int .u8 k, .int .u64 n, .string ss, .slice a3 n3 c3, .slice a4 n4 c4] 65)
 have hX3 := BoxPr.new (p := ⟨key, dur, red, pid, app⟩) (v0 := .int .u8 k) (v1 := .int .u64 n) (v2 := .string ss) (v3 := .slice a3 n3 c3) (v4 := .slice a4 n4 c4) w2
 simp only [] at hX3
 have hW3 : ∃ W3, W3 = w2.alloc (Obj.cells #[.string key, .bool dur, .bool red, .string pid, .int .u8 k, .int .u64 n, .string ss, .slice a3 n3 c3, .slice a4 n4 c4] 65) := ⟨_, rfl⟩
 obtain ⟨W3, hW3⟩ := hW3
 rw [← hW3] at hA3 hX3
 have hrow3 := (hA3.block w.heap.size (by omega)).trans hrow2
 have hr3 := hr2.below hA3
 have hgr3 := grown_trans' hgr (grown_of_below (w := w2) (w' := W3) (r := some g) hA3)
 have hsh3 : ShowsP (lowm (w.heap.size + 1) W3) ⟨key, dur, red, pid, app⟩ (.int .u8 k) (.int .u64 n) (.string ss) (.slice a3 n3 c3) (.slice a4 n4 c4) :=
  (hs2.sub (low_sub hA3.size fun k _ hk => hA3.block k hk)).sub (low_anti (by omega))
 obtain ⟨⟨e0, e1, e2, e3⟩, e4, e5, e6, e7, e8⟩ := hX3.cells
 simp only [] at e0 e1 e2 e3
 have fq := fun i => frozen_of_row W3 w.heap.size i _ 65 hrow3
 have hq : ∀ i, W3.cell? ⟨w.heap.size, i, none⟩ = (#[Value.string ⟨#[]⟩, .bool false, .bool false, .string ⟨#[]⟩, .int .u8 0, .int .u64 0, .string ⟨#[]⟩, .slice none 0 0, .slice none 0 0] : Array Value)[i]? := fun i => cell_of_row W3 w.heap.size i _ 65 (0, 0) hrow3
 have l0 := fq 0
 have l1 := fq 1
 have l2 := fq 2
 have l3 := fq 3
 have l4 := fq 4
 have l5 := fq 5
 have l6 := fq 6
 have l7 := fq 7
 have l8 := fq 8
 have q0 := hq 0
 have q1 := hq 1
 have q2 := hq 2
 have q3 := hq 3
 have q4 := hq 4
 have q5 := hq 5
 have q6 := hq 6
 have q7 := hq 7
 have q8 := hq 8
 have hs9 := set9_row (.string key) (.bool dur) (.bool red) (.string pid) (.int .u8 k) (.int .u64 n) (.string ss) (.slice a3 n3 c3) (.slice a4 n4 c4) hrow3
 have hfin1 := grown_set9 hgr3 (Nat.le_refl w.heap.size) (.string key) (.bool dur) (.bool red) (.string pid) (.int .u8 k) (.int .u64 n) (.string ss) (.slice a3 n3 c3) (.slice a4 n4 c4)
 have hfin2 := rs_set9 hr3 (b := w.heap.size) (by omega) (by omega) (.string key) (.bool dur) (.bool red) (.string pid) (.int .u8 k) (.int .u64 n) (.string ss) (.slice a3 n3 c3) (.slice a4 n4 c4)
 have hfin3 := (hsh3.sub (sub_set9 W3 w.heap.size (Nat.lt_succ_self w.heap.size) (.string key) (.bool dur) (.bool red) (.string pid) (.int .u8 k) (.int .u64 n) (.string ss) (.slice a3 n3 c3) (.slice a4 n4 c4))).sub (low_anti (Nat.le_succ w.heap.size))
 unfold set9 at hs9 hfin1 hfin2 hfin3
 have HS9 := Lib.hid hs9
 have HF := Lib.hid (And.intro hfin1 (And.intro hfin2 hfin3))
 clear hs9 hfin1 hfin2 hfin3 fq hq hsh3 hgr3 hgr hr2 hr3 hrow1 hrow2 hrow3 hX3 hA3 hs2 hb2 hg1 hr1 hz1 hz2 hp
 subst hW3
 go_wp2_with fail
 refine bodyPost_ret (results_cell_row rfl _ _ w.heap.size 65 _ (0, 0) _ rfl HS9.out Tryz.underlying65 rfl (by kernel_rfl)) rfl ⟨⟨k, n, ss, a3, n3, c3, a4, n4, c4⟩, rfl, HF.out.2.2, HF.out.2.1, HF.out.1⟩
end Go.Proofs.YtdklhcmoilcpgaaGreat
namespace Go.Proofs.YtdklhcmoilcpgaaGreat
open Go.RowKit
set_option maxRecDepth 100000
theorem xgot_le (b : List UInt8) : (xgot b).2 ≤ b.length := by
 unfold xgot
 split
 ·simp
 ·rename_i f g h c hg
  rw [← getD_take] at hg
  have := (gx_some _ f g h c hg).2.2.2.2
  rw [List.length_take] at this
  split
  ·simp only []; omega
  ·simp
theorem xget_any (v : Value) (d0 : Nat) (b : List UInt8) (w : World) (hv : Shows w d0 v b) (hb : b.length ≤ 140737488355328) :
  Calls Tryz.prog 108 #[v] w fun e w' => ∃ E : Int, e = .returned (.tuple #[xidV (xgot b).1.1 (xgot b).1.2.1 (xgot b).1.2.2, .int .i64 (xgot b).2, .int .i64 E]) ∧ Below w.heap.size w w' := by
 obtain ⟨A, c, rfl, _⟩ := id hv
 unfold xgot
 cases hg : getD b with
 | none =>
  rw [← getD_take] at hg
  exact (get_short A c d0 b w hv hb (gx_short _ hg)).mono fun e w' h => ⟨4, h.1, h.2⟩
 | some q =>
  obtain ⟨f, g, h, n⟩ := q
  rw [← getD_take] at hg
  obtain ⟨h1, h2, h3, h4, h5⟩ := gx_some _ f g h n hg
  simp only []
  by_cases hm : mayX (str8 g) (str8 h)
  ·rw [if_pos hm]
   have := get_ok A c d0 b w hv hb _ n h4 (by rw [List.length_drop]; omega) (by rw [h2, h3]; exact hm)
   rw [h1, h2, h3] at this
   exact this.mono fun e w' h => ⟨0, h.1, h.2⟩
  ·rw [if_neg hm]
   exact (get_bad A c d0 b w hv hb _ h4 (by rw [h2, h3]; exact hm)).mono fun e w' h => ⟨40, h.1, h.2⟩
theorem take_left (s : St) : (takeS (lenS s) s).1 = leftB s := by
 cases s with
 | none => rfl
 | some l => show (takeS (l.length : Nat) (some l)).1 = l; simp [takeS]
def BoxRd (w : World) (b g : Nat) : Prop := w.heap[b]? = some (.cells #[.pointer (some ⟨g, 0, none⟩)] 119 (0, 0))
theorem BoxRd.c {w : World} {b g : Nat} (h : BoxRd w b g) : w.cell? ⟨b, 0, none⟩ = some (.pointer (some ⟨g, 0, none⟩)) := cell_of_row w b 0 _ 119 (0, 0) h
theorem BoxRd.lt {w : World} {b g : Nat} (h : BoxRd w b g) : b < w.heap.size := (Array.getElem?_eq_some_iff.1 h).1
def XSaid (b g : Nat) (s : St) (w : World) (e : Ending) (w' : World) : Prop :=
  ∃ g' d', e = .returned (xidV (xidS false s).1.1 (xidS false s).1.2.1 (xidS false s).1.2.2) ∧ BoxRd w' b g' ∧ RS w' g' d' (xidS false s).2 ∧ w.heap.size ≤ g' ∧ w.heap.size ≤ d' ∧ d' ≤ g' ∧ Frm2 b g w w'
theorem Frm2.grownG {b g : Nat} {a w w' : World} (h : Frm2 b g a w) (hg : w.grownBy w' (some g)) : Frm2 b g a w' := h.trans (Frm2.of_grown hg)
theorem Frm2.setb {b g : Nat} {a w : World} (h : Frm2 b g a w) (i : Nat) (u : Value) : Frm2 b g a (w.setCell ⟨b, i, none⟩ u) :=
 ⟨h.os, h.tape, h.output, by simpa using h.size, fun k hk h1 h2 => (Below.heap_setCell _ _ _ _ (by show k ≠ b; exact h1)).trans (h.block k hk h1 h2)⟩
set_option maxHeartbeats 8000000 in
theorem exid_any (b g d : Nat) (s : St) (w : World) (h : RS w g d s) (hb : BoxRd w b g) (hgb : g ≠ b) (hl : lenS s ≤ 140737488351232) :
    Calls Tryz.prog 77 #[.pointer (some ⟨b, 0, none⟩)] w (XSaid b g s w) := by
  have hblt := hb.lt
  have hglt := h.lt
  have hB0 := below_boxV w (Obj.cells #[.int .u32 0, .string ⟨#[]⟩, .string ⟨#[]⟩] 25)
  have hx0 := Boxed.new (f := 0) (g := ⟨#[]⟩) (h := ⟨#[]⟩) w
  have hbx0 : BoxRd (w.alloc (Obj.cells #[.int .u32 0, .string ⟨#[]⟩, .string ⟨#[]⟩] 25)) b g := (hB0.block b hblt).trans hb
  have hr0 := h.below hB0
  have HLF := Lib.hid (fun w' (hr : RS w' g d s) => left_at g d s w' hr)
  have HTK := Lib.hid (fun w' (hr : RS w' g d s) => take_any g d s (lenS s : Nat) w' hr (by omega))
  rw [take_left] at HTK
  have hll : (leftB s).length = lenS s := by cases s <;> rfl
  have HXG := Lib.hid (fun v d0 w' (hv : Shows w' d0 v (leftB s)) => xget_any v d0 (leftB s) w' hv (by omega))
  have hxl := xgot_le (leftB s)
  have hfr0 : Frm2 b g w (w.alloc (Obj.cells #[.int .u32 0, .string ⟨#[]⟩, .string ⟨#[]⟩] 25)) := Frm2.of_below hB0
  have hsaid : XSaid b g s w = fun e w' => ∃ g' d', e = .returned (xidV (xgot (leftB s)).1.1 (xgot (leftB s)).1.2.1 (xgot (leftB s)).1.2.2) ∧ BoxRd w' b g' ∧ RS w' g' d' (some ((leftB s).drop (xgot (leftB s)).2)) ∧ w.heap.size ≤ g' ∧ w.heap.size ≤ d' ∧ d' ≤ g' ∧ Frm2 b g w w' := rfl
  rw [hsaid]
  clear hsaid
  generalize takeS (lenS s : Nat) s = tk at *
  generalize leftB s = L at *
  generalize hxq : xgot L = xq at *
  obtain ⟨⟨xf, xg, xh⟩, n⟩ := xq
  simp only [] at HXG hxl ⊢
  unfold xidV at HXG ⊢
  have c0 := hbx0.c
  have HF0 := Lib.hid hfr0
  have HX0 := Lib.hid hx0
  have HR0 := Lib.hid (hr0.below (below_drew1 (Below.refl _ _)))
  have HBX0 := Lib.hid hbx0
  have hLl : L.length ≤ 140737488351232 := by omega
  clear h hb hB0 hx0 hr0 hbx0 hfr0 hxq hll hl
  go_enter Tryz.func77, Tryz.ntmps77
  go_wp2_with fail
  go_region_held3 (fun w' => w'.cell? ⟨b, 0, none⟩ = some (.pointer (some ⟨g, 0, none⟩))) (first | exact c0 | exact cell_grown (w := (w.alloc (Obj.cells #[.int .u32 0, .string ⟨#[]⟩, .string ⟨#[]⟩] 25)).drew) c0 hg2 (fun e => hgb e.symm))
    (first
      | (go_at_call 107
         refine (HLF.out _ HR0.out).mono ?_
         rintro e w11 ⟨rfl, rfl⟩)
      | (go_at_call 106
         refine (HTK.out _ HR0.out).mono ?_
         rintro e w2 ⟨v2, rfl, ho2, hr2, hg2⟩))
  all_goals
    have hF2 := (HF0.out.trans (Frm2.of_below (below_drew1 (Below.refl _ _)))).grownG hg2
    have hsz2 : w.heap.size + 1 ≤ w2.heap.size := by
      have h9 : (w.alloc (Obj.cells #[.int .u32 0, .string ⟨#[]⟩, .string ⟨#[]⟩] 25)).heap.size ≤ w2.heap.size := hg2.size
      rwa [World.size_alloc] at h9
    have hbx2 : BoxRd w2 b g := (hg2.block b (by have := HBX0.out.lt; simpa using this) (fun e => hgb (Option.some.inj e).symm)).trans HBX0.out
    have hx2 : Boxed w2 w.heap.size 0 ⟨#[]⟩ ⟨#[]⟩ := (hg2.block w.heap.size (by simp) (fun e => by have := Option.some.inj e; omega)).trans HX0.out
    obtain ⟨A2, c2, rfl, hc21, hc22⟩ := ho2.form
    obtain ⟨d2, _, hs2⟩ := ho2.shows
    have HXG2 := Lib.hid (HXG.out _ _ _ hs2)
    have HF2 := Lib.hid hF2
    have HBX2 := Lib.hid hbx2
    have HX2 := Lib.hid hx2
    have HS2 := Lib.hid hs2
    clear hF2 hbx2 hx2 hs2 hr2 hg2 ho2 HF0 HX0 HR0 HBX0 HLF HTK c0
    go_wp2_with fail
    refine HXG2.out.mono ?_
    rintro e w3 ⟨E, rfl, hb3⟩
    have hA4 := below_boxV w3 (Obj.cells #[.int .u32 xf, .string xg, .string xh] 25)
    have hX4 := Boxed.new (f := xf) (g := xg) (h := xh) w3
    have hF4 := (HF2.out.trans (Frm2.of_below hb3)).trans (Frm2.of_below hA4)
    have hsz3 := hb3.size
    have hbx4 : BoxRd (w3.alloc (Obj.cells #[.int .u32 xf, .string xg, .string xh] 25)) b g := (hA4.block b (by omega)).trans ((hb3.block b HBX2.out.lt).trans HBX2.out)
    have hx4 : Boxed (w3.alloc (Obj.cells #[.int .u32 xf, .string xg, .string xh] 25)) w.heap.size 0 ⟨#[]⟩ ⟨#[]⟩ := (hA4.block w.heap.size (by have := HX2.out.lt; omega)).trans ((hb3.block w.heap.size HX2.out.lt).trans HX2.out)
    have hs4 : Shows (w3.alloc (Obj.cells #[.int .u32 xf, .string xg, .string xh] 25)) d2 (.slice A2 L.length c2) L := shows_farP (shows_farP HS2.out hb3) hA4
    have hn1 : (0 : Int) ≤ (n : Int) := by omega
    have hn2 : (n : Int) ≤ (L.length : Int) := by omega
    have hn3 : (L.length : Int) ≤ (c2 : Int) := by omega
    have HF4 := Lib.hid hF4
    have HBX4 := Lib.hid hbx4
    have HX4 := Lib.hid hx4
    have HS4 := Lib.hid hs4
    have HN4 := Lib.hid hX4
    have HSZ := Lib.hid (And.intro hsz2 hsz3)
    clear hA4 hX4 hF4 hbx4 hx4 hs4 hb3 HF2 HBX2 HX2 HS2 HXG2 hsz2 hsz3
    go_wp2_with fail
    case' inl =>
      rename c2 = n => hcn
      have hs5 : Shows (w3.alloc (Obj.cells #[.int .u32 xf, .string xg, .string xh] 25)) d2 (.slice A2 (L.length - n) 0) (L.drop n) := by
        have := HS4.out.tail hxl A2 (fun hne => absurd hcn hne)
        rwa [hcn, Nat.sub_self] at this
    case' inr =>
      have hs5 : Shows (w3.alloc (Obj.cells #[.int .u32 xf, .string xg, .string xh] 25)) d2 (.slice (Option.map (fun x => x.add n) A2) (L.length - n) (c2 - n)) (L.drop n) := HS4.out.tail hxl _ (fun _ => rfl)
    all_goals
      have HO := Lib.hid (open_any _ (L.drop n) d2 _ hs5 (by rw [List.length_drop]; omega))
      clear hs5
      refine HO.out.mono ?_
      rintro e w5 ⟨g5, d5, rfl, hr5, hg5, ⟨hd51, hd52⟩, hb5⟩
      have hsz5 := hb5.size
      rw [World.size_alloc] at hsz5 hg5 hd51
      have hX5 := HN4.out.below hb5 (by simp)
      have hx5 := HX4.out.below hb5 HX4.out.lt
      have hbx5 : BoxRd w5 b g := (hb5.block b HBX4.out.lt).trans HBX4.out
      have hF5 := HF4.out.trans (Frm2.of_below hb5)
      obtain ⟨z1, z2⟩ := HSZ.out
      have hne1 : w.heap.size ≠ b := by omega
      have hne2 : w3.heap.size ≠ b := by omega
      have hne3 : w.heap.size ≠ w3.heap.size := by omega
      have hgw : w.heap.size ≠ g5 := by omega
      have hdw : w.heap.size ≠ d5 := by omega
      have hgb5 : g5 ≠ b := by omega
      have hdb5 : d5 ≠ b := by omega
      have p0 := hbx5.c
      have pf := frozen_of_row w5 b 0 _ 119 hbx5
      have s0 := heap_setCell_same w5 b 0 _ 119 (.pointer (some ⟨g5, 0, none⟩)) hbx5
      have hX6 := hX5.keep (Below.heap_setCell w5 ⟨b, 0, none⟩ (.pointer (some ⟨g5, 0, none⟩)) w3.heap.size hne2)
      have hx6 := hx5.keep (Below.heap_setCell w5 ⟨b, 0, none⟩ (.pointer (some ⟨g5, 0, none⟩)) w.heap.size hne1)
      have hr6 := hr5.set hgb5 hdb5 0 (.pointer (some ⟨g5, 0, none⟩))
      have hF6 := hF5.setb 0 (.pointer (some ⟨g5, 0, none⟩))
      have y0 := hX6.c0
      have y1 := hX6.c1
      have y2 := hX6.c2
      have x0 := hx6.c0
      have x1 := hx6.c1
      have x2 := hx6.c2
      have f0 := hx6.froz 0
      have f1 := hx6.froz 1
      have f2 := hx6.froz 2
      have k0 := heap_setCell_same _ w.heap.size 0 _ 25 (.int .u32 xf) hx6
      have k1 := heap_setCell_same _ w.heap.size 1 _ 25 (.string xg) k0
      have k2 := heap_setCell_same _ w.heap.size 2 _ 25 (.string xh) k1
      have m0 := (Below.heap_setCell _ ⟨w.heap.size, 0, none⟩ (.int .u32 xf) b (fun e => hne1 e.symm)).trans s0
      have m1 := (Below.heap_setCell _ ⟨w.heap.size, 1, none⟩ (.string xg) b (fun e => hne1 e.symm)).trans m0
      have m2 := (Below.heap_setCell _ ⟨w.heap.size, 2, none⟩ (.string xh) b (fun e => hne1 e.symm)).trans m1
      have r0 := hr6.set (fun e => hgw e.symm) (fun e => hdw e.symm) 0 (.int .u32 xf)
      have r1 := r0.set (fun e => hgw e.symm) (fun e => hdw e.symm) 1 (.string xg)
      have r2 := r1.set (fun e => hgw e.symm) (fun e => hdw e.symm) 2 (.string xh)
      have q0 := hF6.set (Nat.le_refl w.heap.size) 0 (.int .u32 xf)
      have q1 := q0.set (Nat.le_refl w.heap.size) 1 (.string xg)
      have q2 := q1.set (Nat.le_refl w.heap.size) 2 (.string xh)
      have HFIN := Lib.hid (And.intro m2 (And.intro r2 q2))
      have HK2 := Lib.hid k2
      have HG5 := Lib.hid (And.intro (show w.heap.size ≤ g5 by omega) (And.intro (show w.heap.size ≤ d5 by omega) hd52))
      clear k0 k1 k2 m0 m1 m2 r0 r1 r2 q0 q1 q2 s0 hF6 hr6 hX6 hx6 hbx5 hF5 hx5 hX5 hb5 hr5 hg5 hd51 hd52 hsz5 z1 z2 HO
      go_wp2_with fail
      exact bodyPost_ret (results_cell_row rfl _ _ w.heap.size 25 _ (0, 0) _ rfl HK2.out Tryz.underlying25 rfl (by kernel_rfl)) rfl ⟨g5, d5, rfl, HFIN.out.1, HFIN.out.2.1, HG5.out.1, HG5.out.2.1, HG5.out.2.2, HFIN.out.2.2⟩
end Go.Proofs.YtdklhcmoilcpgaaGreat
namespace Go.Proofs.YtdklhcmoilcpgaaGreat
open Go.RowKit
set_option maxRecDepth 100000
def setN (w : World) (b : Nat) : Nat → List Value → World
  | _, [] => w
  | i, v :: vs => setN (w.setCell ⟨b, i, none⟩ v) b (i + 1) vs
theorem setN_row {b : Nat} {t : TypeId} : ∀ (vs : List Value) (i : Nat) (w : World) (cs : Array Value), w.heap[b]? = some (.cells cs t (0, 0)) → (setN w b i vs).heap[b]? = some (.cells ((vs.foldl (fun (p : Array Value × Nat) v => (p.1.setIfInBounds p.2 v, p.2 + 1)) (cs, i)).1) t (0, 0))
 | [], i, w, cs, h => h
 | v :: vs, i, w, cs, h => setN_row vs (i + 1) _ _ (heap_setCell_same w b i cs t v h)
theorem setN_below {B b : Nat} (hb : B ≤ b) : ∀ (vs : List Value) (i : Nat) (w0 w : World), Below B w0 w → Below B w0 (setN w b i vs)
 | [], i, w0, w, h => h
 | v :: vs, i, w0, w, h => setN_below hb vs (i + 1) w0 _ (below_set h hb v)
theorem setN_rs {b g d : Nat} {s : St} (h1 : g ≠ b) (h2 : d ≠ b) : ∀ (vs : List Value) (i : Nat) (w : World), RS w g d s → RS (setN w b i vs) g d s
 | [], i, w, h => h
 | v :: vs, i, w, h => setN_rs h1 h2 vs (i + 1) _ (h.set h1 h2 i v)
theorem setN_sub {b B : Nat} (hB : b < B) : ∀ (vs : List Value) (i : Nat) (w : World), Sub (lowm B w) (lowm B (setN w b i vs))
 | [], i, w => ⟨Nat.le_refl _, fun _ _ _ h => h⟩
 | v :: vs, i, w => (low_set hB i v).trans (setN_sub hB vs (i + 1) _)
theorem setN_grown {w w' : World} {r : Option Nat} {b : Nat} (h : w.grownBy w' r) (hb : w.heap.size ≤ b) (i : Nat) (vs : List Value) : w.grownBy (setN w' b i vs) r := by
 have hB : Below w.heap.size w' (setN w' b i vs) := setN_below hb vs i w' w' ⟨rfl, rfl, rfl, Nat.le_refl _, fun _ _ => rfl⟩
 exact ⟨hB.os.trans h.os, hB.tape.trans h.tape, hB.output.trans h.output, Nat.le_trans h.size hB.size, fun k hk hr => (hB.block k hk).trans (h.block k hk hr)⟩
theorem setN_cell {b a : Nat} {u : Value} (ha : a ≠ b) : ∀ (vs : List Value) (i : Nat) (w : World), w.cell? ⟨a, 0, none⟩ = some u → (setN w b i vs).cell? ⟨a, 0, none⟩ = some u
 | [], i, w, h => h
 | v :: vs, i, w, h => setN_cell ha vs (i + 1) _ (keep1 h ha i v)
structure RdX (q b g d : Nat) (s : St) (w : World) : Prop where
  v : w.cell? ⟨q, 0, none⟩ = some (.pointer (some ⟨b, 0, none⟩))
  p : w.cell? ⟨b, 0, none⟩ = some (.pointer (some ⟨g, 0, none⟩))
  r : RS w g d s
  nb : g ≠ b
  nq : g ≠ q
  dl : d < w.heap.size
section
variable {q b g d : Nat} {s s' : St} {w w' : World}
theorem RdX.e (h : RdX q b g d s w) : RdE b g d s w := ⟨h.p, h.r, h.nb⟩
theorem RdX.below (h : RdX q b g d s w) (hb : Below w.heap.size w w') : RdX q b g d s w' := ⟨cell_below h.v hb, cell_below h.p hb, h.r.below hb, h.nb, h.nq, Nat.lt_of_lt_of_le h.dl hb.size⟩
theorem RdX.read (h : RdX q b g d s w) (hg : w.grownBy w' (some g)) (hr : RS w' g d s') : RdX q b g d s' w' := ⟨cell_grown h.v hg (fun e => h.nq e.symm), cell_grown h.p hg (fun e => h.nb e.symm), hr, h.nb, h.nq, Nat.lt_of_lt_of_le h.dl hg.size⟩
theorem RdX.cs (h : RdX q b g d s w) : w.cell? ⟨q, 0, none⟩ = some (.pointer (some ⟨b, 0, none⟩)) ∧ w.cell? ⟨b, 0, none⟩ = some (.pointer (some ⟨g, 0, none⟩)) := ⟨h.v, h.p⟩
end
theorem lenS_text (q m : Int) (s : St) : lenS (textS q m s).2 ≤ lenS s := textS_lenS _ _ _
theorem lenS_num (q : Int) (s : St) : lenS (numS q s).2 ≤ lenS s := numS_lenS _ _
def RefSaid (g d : Nat) (s : St) (w : World) (e : Ending) (w' : World) : Prop := e = .returned (refV (refS 40 s).1) ∧ RS w' g d (refS 40 s).2 ∧ w.grownBy w' (some g)
set_option maxHeartbeats 4000000 in
theorem dec2_any (q b g d : Nat) (s : St) (w : World) (h : RdX q b g d s w) (hl : lenS s ≤ 140737488351232) :
    Calls Tryz.prog 83 #[.pointer (some ⟨q, 0, none⟩)] w (RefSaid g d s w) := by
  have hB0 := below_boxV w (Obj.cells #[.string ⟨#[]⟩, .int .u64 0] 48)
  have hrow := heap_alloc_new w (Obj.cells #[.string ⟨#[]⟩, .int .u64 0] 48)
  have hX0 := (h.below hB0).below (below_drew1 (Below.refl _ _))
  have hdl := h.dl
  have hgl := h.r.lt
  have hql := World.block_lt_of_cell? w _ h.v
  have hbl := World.block_lt_of_cell? w _ h.p
  simp only [] at hql hbl
  have HN := Lib.hid (fun w' (hr : RdX q b g d s w') => ename_any b g d s w' hr.e (by omega))
  have hl1 := lenS_text 1 40 s
  have HU := Lib.hid (fun w' (hr : RdX q b g d (textS 1 40 s).2 w') => num_any g d (textS 1 40 s).2 8 w' hr.r (by omega))
  have hsaid : RefSaid g d s w = fun e w' => e = .returned (.agg #[.string (str8 (textS 1 40 s).1), .int .u64 (numS 8 (textS 1 40 s).2).1]) ∧ RS w' g d (numS 8 (textS 1 40 s).2).2 ∧ w.grownBy w' (some g) := rfl
  rw [hsaid]
  clear hsaid hl1
  generalize (numS 8 (textS 1 40 s).2).1 = n1 at *
  generalize (numS 8 (textS 1 40 s).2).2 = s2 at *
  generalize (textS 1 40 s).1 = t1 at *
  generalize (textS 1 40 s).2 = s1 at *
  have HX0 := Lib.hid hX0
  have HB0 := Lib.hid hB0
  have HROW := Lib.hid hrow
  clear h hB0 hrow hX0 hl
  go_enter Tryz.func83, Tryz.ntmps83
  go_wp2_with fail
  go_region_held3 (fun w' => w'.cell? ⟨q, 0, none⟩ = some (.pointer (some ⟨b, 0, none⟩)) ∧ w'.cell? ⟨b, 0, none⟩ = some (.pointer (some ⟨g, 0, none⟩))) (first | exact HX0.out.cs | exact hX2.cs | exact hX3.cs | exact ⟨hv9, hp9⟩)
    (first
      | (go_at_call 76
         refine (HN.out _ HX0.out).mono ?_
         rintro e w2 ⟨rfl, hr2, hg2⟩
         have hX2 := HX0.out.read hg2 hr2)
      | (go_at_call 75
         refine (HU.out _ hX2).mono ?_
         rintro e w3 ⟨rfl, hr3, hg3⟩
         have hX3 := hX2.read hg3 hr3
         have hg03 : w.grownBy w3 (some g) := grown_trans' (grown_trans' (grown_of_below (HB0.out.trans (below_drew1 (Below.refl _ _)))) hg2) hg3
         have hz2 : w.heap.size + 1 ≤ w2.heap.size := by
           have h9 : (w.alloc (Obj.cells #[.string ⟨#[]⟩, .int .u64 0] 48)).heap.size ≤ w2.heap.size := hg2.size
           rwa [World.size_alloc] at h9
         have hrow3 := (hg3.block w.heap.size (by omega) (fun e => by have := Option.some.inj e; omega)).trans ((hg2.block w.heap.size (by simp) (fun e => by have := Option.some.inj e; omega)).trans HROW.out)
         have y0 := cell_of_row w3 w.heap.size 0 _ 48 (0, 0) hrow3
         have y1 := cell_of_row w3 w.heap.size 1 _ 48 (0, 0) hrow3
         have f0 := frozen_of_row w3 w.heap.size 0 _ 48 hrow3
         have f1 := frozen_of_row w3 w.heap.size 1 _ 48 hrow3
         have hs9 := setN_row [.string (str8 t1), .int .u64 n1] 0 w3 _ hrow3
         have hs8 := setN_grown hg03 (Nat.le_refl w.heap.size) 0 [.string (str8 t1), .int .u64 n1]
         have hs7 := setN_rs (b := w.heap.size) (show g ≠ w.heap.size by omega) (show d ≠ w.heap.size by omega) [.string (str8 t1), .int .u64 n1] 0 w3 hr3
         have hv9 := setN_cell (b := w.heap.size) (show q ≠ w.heap.size by omega) [.string (str8 t1), .int .u64 n1] 0 w3 hX3.v
         have hp9 := setN_cell (b := w.heap.size) (show b ≠ w.heap.size by omega) [.string (str8 t1), .int .u64 n1] 0 w3 hX3.p
         unfold setN setN setN at hs9 hs8 hs7 hv9 hp9))
  all_goals
    go_wp2_with fail
    exact bodyPost_ret (results_cell_row rfl _ _ w.heap.size 48 _ (0, 0) _ rfl hs9 Tryz.underlying48 rfl (by kernel_rfl)) rfl ⟨rfl, hs7, hs8⟩
end Go.Proofs.YtdklhcmoilcpgaaGreat
namespace Go.Proofs.YtdklhcmoilcpgaaGreat
open Go.RowKit
set_option maxRecDepth 100000
abbrev zPut : Obj := Obj.cells #[.string ⟨#[]⟩, .int .u64 0, .string ⟨#[]⟩, .bool false, .bool false, .string ⟨#[]⟩, .int .u8 0, .int .u64 0, .string ⟨#[]⟩, .slice none 0 0, .slice none 0 0, .string ⟨#[]⟩] 67
def PutSaid (g d : Nat) (s : St) (w : World) (e : Ending) (w' : World) : Prop := ∃ c : PutC, e = .returned (putV c) ∧ c.e = (putS 40 8192 4096 s).1 ∧ PutAt (lowm w.heap.size w') c ∧ RS w' g d (putS 40 8192 4096 s).2 ∧ w.grownBy w' (some g)
theorem put_said {g d : Nat} {s : St} {w w' : World} {e : Ending} (t1 : List UInt8) (s1 : St) (n1 : Nat) (s2 : St) (p : PropP) (s3 : St) (t4 : List UInt8) (s4 : St) (x : Cell5)
  (h1 : textS 1 40 s = (t1, s1)) (h2 : numS 8 s1 = (n1, s2)) (h3 : gotPr (textS 4 8192 s2).1 = p) (h3' : (textS 4 8192 s2).2 = s3) (h4 : textS 2 4096 s3 = (t4, s4))
  (he : e = .returned (putV ⟨⟨str8 t1, n1, p, str8 t4⟩, x⟩)) (hs : PutAt (lowm w.heap.size w') ⟨⟨str8 t1, n1, p, str8 t4⟩, x⟩) (hr : RS w' g d s4) (hg : w.grownBy w' (some g)) : PutSaid g d s w e w' := by
 refine ⟨_, he, ?_, hs, ?_, hg⟩
 ·show _ = (putS 40 8192 4096 s).1
  unfold putS
  simp only []
  rw [h1]
  simp only []
  rw [h2]
  simp only []
  rw [h3, h3', h4]
 ·unfold putS
  simp only []
  rw [h1]
  simp only []
  rw [h2]
  simp only []
  rw [h3', h4]
  exact hr
def set12 (w : World) (b : Nat) (x0 x1 x2 x3 x4 x5 x6 x7 x8 x9 x10 x11 : Value) : World := (((((((((((w.setCell ⟨b, 0, none⟩ x0).setCell ⟨b, 1, none⟩ x1).setCell ⟨b, 2, none⟩ x2).setCell ⟨b, 3, none⟩ x3).setCell ⟨b, 4, none⟩ x4).setCell ⟨b, 5, none⟩ x5).setCell ⟨b, 6, none⟩ x6).setCell ⟨b, 7, none⟩ x7).setCell ⟨b, 8, none⟩ x8).setCell ⟨b, 9, none⟩ x9).setCell ⟨b, 10, none⟩ x10).setCell ⟨b, 11, none⟩ x11
theorem set12_eq (w : World) (b : Nat) (x0 x1 x2 x3 x4 x5 x6 x7 x8 x9 x10 x11 : Value) : set12 w b x0 x1 x2 x3 x4 x5 x6 x7 x8 x9 x10 x11 = setN w b 0 [x0, x1, x2, x3, x4, x5, x6, x7, x8, x9, x10, x11] := rfl
theorem put_box {w : World} {b : Nat} (h : w.heap[b]? = some (.cells #[Value.string ⟨#[]⟩, .int .u64 0, .string ⟨#[]⟩, .bool false, .bool false, .string ⟨#[]⟩, .int .u8 0, .int .u64 0, .string ⟨#[]⟩, .slice none 0 0, .slice none 0 0, .string ⟨#[]⟩] 67 (0, 0))) : ((w.cell? ⟨b, 0, none⟩ = some (.string ⟨#[]⟩) ∧ w.cell? ⟨b, 1, none⟩ = some (.int .u64 0) ∧ w.cell? ⟨b, 2, none⟩ = some (.string ⟨#[]⟩) ∧ w.cell? ⟨b, 3, none⟩ = some (.bool false) ∧ w.cell? ⟨b, 4, none⟩ = some (.bool false) ∧ w.cell? ⟨b, 5, none⟩ = some (.string ⟨#[]⟩)) ∧ (w.cell? ⟨b, 6, none⟩ = some (.int .u8 0) ∧ w.cell? ⟨b, 7, none⟩ = some (.int .u64 0) ∧ w.cell? ⟨b, 8, none⟩ = some (.string ⟨#[]⟩) ∧ w.cell? ⟨b, 9, none⟩ = some (.slice none 0 0) ∧ w.cell? ⟨b, 10, none⟩ = some (.slice none 0 0) ∧ w.cell? ⟨b, 11, none⟩ = some (.string ⟨#[]⟩))) ∧ ((w.frozen? ⟨b, 0, none⟩ = false ∧ w.frozen? ⟨b, 1, none⟩ = false ∧ w.frozen? ⟨b, 2, none⟩ = false ∧ w.frozen? ⟨b, 3, none⟩ = false ∧ w.frozen? ⟨b, 4, none⟩ = false ∧ w.frozen? ⟨b, 5, none⟩ = false) ∧ (w.frozen? ⟨b, 6, none⟩ = false ∧ w.frozen? ⟨b, 7, none⟩ = false ∧ w.frozen? ⟨b, 8, none⟩ = false ∧ w.frozen? ⟨b, 9, none⟩ = false ∧ w.frozen? ⟨b, 10, none⟩ = false ∧ w.frozen? ⟨b, 11, none⟩ = false)) := by
 have hq : ∀ i, w.cell? ⟨b, i, none⟩ = (#[Value.string ⟨#[]⟩, .int .u64 0, .string ⟨#[]⟩, .bool false, .bool false, .string ⟨#[]⟩, .int .u8 0, .int .u64 0, .string ⟨#[]⟩, .slice none 0 0, .slice none 0 0, .string ⟨#[]⟩] : Array Value)[i]? := fun i => cell_of_row w b i _ 67 (0, 0) h
 have fq := fun i => frozen_of_row w b i _ 67 h
 exact ⟨⟨⟨hq 0, hq 1, hq 2, hq 3, hq 4, hq 5⟩, ⟨hq 6, hq 7, hq 8, hq 9, hq 10, hq 11⟩⟩, ⟨⟨fq 0, fq 1, fq 2, fq 3, fq 4, fq 5⟩, ⟨fq 6, fq 7, fq 8, fq 9, fq 10, fq 11⟩⟩⟩
theorem put_fin {w w3 w5 : World} {q b g d : Nat} {s' : St} {p : PropP} {v0 v1 v2 v3 v4 : Value} (x0 x1 x2 x3 x4 x5 x6 x7 x8 x9 x10 x11 : Value) (hrow : w5.heap[w.heap.size]? = some (.cells #[Value.string ⟨#[]⟩, .int .u64 0, .string ⟨#[]⟩, .bool false, .bool false, .string ⟨#[]⟩, .int .u8 0, .int .u64 0, .string ⟨#[]⟩, .slice none 0 0, .slice none 0 0, .string ⟨#[]⟩] 67 (0, 0))) (hg05 : w.grownBy w5 (some g)) (hX5 : RdX q b g d s' w5)
  (hsh : ShowsP (lowm w3.heap.size w5) p v0 v1 v2 v3 v4) (h3 : w.heap.size < w3.heap.size) (hq : q < w.heap.size) (hb : b < w.heap.size) (hg : g < w.heap.size) (hd : d < w.heap.size) :
  (set12 w5 w.heap.size x0 x1 x2 x3 x4 x5 x6 x7 x8 x9 x10 x11).heap[w.heap.size]? = some (.cells #[x0, x1, x2, x3, x4, x5, x6, x7, x8, x9, x10, x11] 67 (0, 0)) ∧ w.grownBy (set12 w5 w.heap.size x0 x1 x2 x3 x4 x5 x6 x7 x8 x9 x10 x11) (some g) ∧ RS (set12 w5 w.heap.size x0 x1 x2 x3 x4 x5 x6 x7 x8 x9 x10 x11) g d s' ∧ ShowsP (lowm w.heap.size (set12 w5 w.heap.size x0 x1 x2 x3 x4 x5 x6 x7 x8 x9 x10 x11)) p v0 v1 v2 v3 v4 ∧
   (set12 w5 w.heap.size x0 x1 x2 x3 x4 x5 x6 x7 x8 x9 x10 x11).cell? ⟨q, 0, none⟩ = some (.pointer (some ⟨b, 0, none⟩)) ∧ (set12 w5 w.heap.size x0 x1 x2 x3 x4 x5 x6 x7 x8 x9 x10 x11).cell? ⟨b, 0, none⟩ = some (.pointer (some ⟨g, 0, none⟩)) := by
 rw [set12_eq]
 have h9 := setN_row [x0, x1, x2, x3, x4, x5, x6, x7, x8, x9, x10, x11] 0 w5 _ hrow
 simp only [List.foldl_cons, List.foldl_nil, List.setIfInBounds_toArray, List.set_cons_zero, List.set_cons_succ, Nat.zero_add, Nat.reduceAdd] at h9
 refine ⟨h9, setN_grown hg05 (Nat.le_refl _) 0 _, setN_rs (by omega) (by omega) _ 0 w5 hX5.r, (hsh.sub (setN_sub h3 _ 0 w5)).sub (low_anti (by omega)), setN_cell (by omega) _ 0 w5 hX5.v, setN_cell (by omega) _ 0 w5 hX5.p⟩
set_option maxHeartbeats 8000000 in
theorem dec1_any (q b g d : Nat) (s : St) (w : World) (h : RdX q b g d s w) (hl : lenS s ≤ 140737488351232) :
    Calls Tryz.prog 79 #[.pointer (some ⟨q, 0, none⟩)] w (PutSaid g d s w) := by
  have hB0 := below_boxV w zPut
  have hrow := heap_alloc_new w zPut
  have hX0 := (h.below hB0).below (below_drew1 (Below.refl _ _))
  have hdl := h.dl
  have hgl := h.r.lt
  have hql := World.block_lt_of_cell? w _ h.v
  have hbl := World.block_lt_of_cell? w _ h.p
  simp only [] at hql hbl
  obtain ⟨⟨t1, s1⟩, h1⟩ : ∃ x, x = textS 1 40 s := ⟨_, rfl⟩
  obtain ⟨⟨n1, s2⟩, h2⟩ : ∃ x, x = numS 8 s1 := ⟨_, rfl⟩
  obtain ⟨p, h3⟩ : ∃ x, x = gotPr (textS 4 8192 s2).1 := ⟨_, rfl⟩
  obtain ⟨s3, h3'⟩ : ∃ x, x = (textS 4 8192 s2).2 := ⟨_, rfl⟩
  obtain ⟨⟨t4, s4⟩, h4⟩ : ∃ x, x = textS 2 4096 s3 := ⟨_, rfl⟩
  have l1 : lenS s1 ≤ lenS s := by have := lenS_text 1 40 s; rw [← h1] at this; exact this
  have l2 : lenS s2 ≤ lenS s1 := by have := lenS_num 8 s1; rw [← h2] at this; exact this
  have l3 : lenS s3 ≤ lenS s2 := by have := lenS_text 4 8192 s2; rw [← h3'] at this; exact this
  have z1 : t1.length ≤ lenS s := by have := textS_le2 1 40 s; rw [← h1] at this; exact this
  have z4 : t4.length ≤ lenS s3 := by have := textS_le2 2 4096 s3; rw [← h4] at this; exact this
  have z2 : n1 < 18446744073709551616 := by have := numS_lt 8 s1; rw [← h2] at this; exact this
  have HN := Lib.hid (fun w' (hr : RdX q b g d s w') => ename_any b g d s w' hr.e (by omega))
  have HU := Lib.hid (fun w' (hr : RdX q b g d s1 w') => num_any g d s1 8 w' hr.r (by omega))
  have HP := Lib.hid (fun w' (hr : RdX q b g d s2 w') => eprops_any b g d s2 w' hr.e hr.dl (by omega))
  have HT := Lib.hid (fun w' (hr : RdX q b g d s3 w') => text_any g d s3 2 4096 w' hr.r (by omega) (by decide) (by decide))
  unfold PropsSaid at HP
  rw [← h1] at HN
  rw [← h2] at HU
  rw [← h3, ← h3'] at HP
  rw [← h4] at HT
  have HSAID := Lib.hid (fun x e w' he hs hr hg => put_said (g := g) (d := d) (s := s) (w := w) (w' := w') (e := e) t1 s1 n1 s2 p s3 t4 s4 x h1.symm h2.symm h3.symm h3'.symm h4.symm he hs hr hg)
  have HZ := Lib.hid (show (str8 t1).size ≤ 140737488351232 ∧ n1 < 18446744073709551616 ∧ (str8 t4).size ≤ 140737488351232 by rw [str8_size, str8_size]; exact ⟨by omega, z2, by omega⟩)
  clear h1 h2 h3 h3' h4 l1 l2 l3 z1 z2 z4
  obtain ⟨key, dur, red, pid, app⟩ := p
  unfold propV at HP
  simp only [] at HN HU HP HT
  have HX0 := Lib.hid hX0
  have HB0 := Lib.hid hB0
  have HROW := Lib.hid hrow
  clear h hB0 hrow hX0 hl
  go_enter Tryz.func79, Tryz.ntmps79
  go_wp2_with fail
  go_region_held3 (fun w' => w'.cell? ⟨q, 0, none⟩ = some (.pointer (some ⟨b, 0, none⟩)) ∧ w'.cell? ⟨b, 0, none⟩ = some (.pointer (some ⟨g, 0, none⟩))) (first | with_reducible exact HX0.out.cs | with_reducible exact hX2.cs | with_reducible exact hX3.cs | with_reducible exact hX4.cs | with_reducible exact hX5.cs | with_reducible exact ⟨hv9, hp9⟩)
    (first
      | (go_at_call 76
         refine (HN.out _ HX0.out).mono ?_
         rintro e w2 ⟨rfl, hr2, hg2⟩
         have hX2 := HX0.out.read hg2 hr2)
      | (go_at_call 75
         refine (HU.out _ hX2).mono ?_
         rintro e w3 ⟨rfl, hr3, hg3⟩
         have hX3 := hX2.read hg3 hr3)
      | (go_at_call 80
         refine (HP.out _ hX3).mono ?_
         rintro e w4 ⟨⟨k, n, ss, a3, n3, c3, a4, n4, c4⟩, rfl, hsh4, hr4, hg4⟩
         have hX4 := hX3.read hg4 hr4)
      | (go_at_call 81
         refine (HT.out _ hX4).mono ?_
         rintro e w5 ⟨rfl, hr5, hg5⟩
         have hX5 := hX4.read hg5 hr5
         have hg05 : w.grownBy w5 (some g) := grown_trans' (grown_trans' (grown_trans' (grown_trans' (grown_of_below (HB0.out.trans (below_drew1 (Below.refl _ _)))) hg2) hg3) hg4) hg5
         have hz2 : w.heap.size + 1 ≤ w2.heap.size := by
           have h9 : (w.alloc zPut).heap.size ≤ w2.heap.size := hg2.size
           rwa [World.size_alloc] at h9
         have hz3 := hg3.size
         have hz4 := hg4.size
         have hrow2 := (hg2.block w.heap.size (by simp) (fun e => by have := Option.some.inj e; omega)).trans HROW.out
         have hrow3 := (hg3.block w.heap.size (by omega) (fun e => by have := Option.some.inj e; omega)).trans hrow2
         have hrow4 := (hg4.block w.heap.size (by omega) (fun e => by have := Option.some.inj e; omega)).trans hrow3
         have hrow5 := (hg5.block w.heap.size (by omega) (fun e => by have := Option.some.inj e; omega)).trans hrow4
         have hsub : ShowsP (lowm w3.heap.size w5) ⟨key, dur, red, pid, app⟩ (.int .u8 k) (.int .u64 n) (.string ss) (.slice a3 n3 c3) (.slice a4 n4 c4) := hsh4.sub (low_sub hg5.size fun k hk hkw => hg5.block k hkw (fun e => by have := Option.some.inj e; omega))
         obtain ⟨⟨⟨y0, y1, y2, y3, y4, y5⟩, y6, y7, y8, y9, y10, y11⟩, ⟨f0, f1, f2, f3, f4, f5⟩, f6, f7, f8, f9, f10, f11⟩ := put_box hrow5
         obtain ⟨hs9, hs8, hs7, hs6, hv9, hp9⟩ := put_fin (.string (str8 t1)) (.int .u64 n1) (.string key) (.bool dur) (.bool red) (.string pid) (.int .u8 k) (.int .u64 n) (.string ss) (.slice a3 n3 c3) (.slice a4 n4 c4) (.string (str8 t4)) hrow5 hg05 hX5 hsub (show w.heap.size < w3.heap.size by omega) hql hbl hgl hdl
         unfold set12 at hs9 hs8 hs7 hs6 hv9 hp9
         clear hsub hrow2 hrow3 hrow4 hrow5 hr2 hr3 hr4 hr5 hg2 hg3 hg4 hg5 hsh4))
  all_goals
    go_wp2_with fail
    exact bodyPost_ret (results_cell_row rfl _ _ w.heap.size 67 _ (0, 0) _ rfl hs9 Tryz.underlying67 rfl (by kernel_rfl)) rfl (HSAID.out ⟨k, n, ss, a3, n3, c3, a4, n4, c4⟩ _ _ rfl ⟨HZ.out.1, HZ.out.2.1, hs6, HZ.out.2.2⟩ hs7 hs8)
end Go.Proofs.YtdklhcmoilcpgaaGreat
namespace Go.Proofs.YtdklhcmoilcpgaaGreat
open Go.RowKit
set_option maxRecDepth 100000
theorem listS_succ {α : Type} (item : St → α × St) (k : Nat) (s : St) : listS item false (k + 1) s = ((listS item false k s).1 ++ [(item (listS item false k s).2).1], (item (listS item false k s).2).2) := by
 show (if false = true ∧ _ then _ else _) = _
 rw [if_neg (fun h => by cases h.1)]
theorem listS_len {α : Type} (item : St → α × St) : ∀ (k : Nat) (s : St), (listS item false k s).1.length = k
 | 0, s => rfl
 | k + 1, s => by rw [listS_succ]; simp [listS_len item k s]
theorem lenS_put (nm pm bm : Int) (s : St) : lenS (putS nm pm bm s).2 ≤ lenS s := by
 unfold putS
 exact Nat.le_trans (lenS_text _ _ _) (Nat.le_trans (lenS_text _ _ _) (Nat.le_trans (lenS_num _ _) (lenS_text _ _ _)))
theorem lenS_ref (nm : Int) (s : St) : lenS (refS nm s).2 ≤ lenS s := by
 unfold refS
 exact Nat.le_trans (lenS_num _ _) (lenS_text _ _ _)
theorem lenS_list {α : Type} (item : St → α × St) (h : ∀ s, lenS (item s).2 ≤ lenS s) : ∀ (k : Nat) (s : St), lenS (listS item false k s).2 ≤ lenS s
 | 0, s => Nat.le_refl _
 | k + 1, s => by rw [listS_succ]; exact Nat.le_trans (h _) (lenS_list item h k s)
theorem num1_lt (s : St) : (numS 1 s).1 < 256 := by
 have h := numOf_lt (takeS 1 s).1
 have h2 := takeS_len 1 s
 have h3 : (takeS 1 s).1.length ≤ 1 := by omega
 have h4 : (256 : Nat) ^ (takeS 1 s).1.length ≤ 256 ^ 1 := Nat.pow_le_pow_right (by decide) h3
 show numOf (takeS 1 s).1 < 256
 omega
def PutsSaid (g d : Nat) (s : St) (w : World) (e : Ending) (w' : World) : Prop :=
  ∃ A n cs, e = .returned (.slice A cs.length n) ∧ RowP (lowm w.heap.size w') A n cs ∧ esOf cs = (listS (putS 40 8192 4096) false (numS 1 s).1 (numS 1 s).2).1 ∧ RS w' g d (listS (putS 40 8192 4096) false (numS 1 s).1 (numS 1 s).2).2 ∧ w.grownBy w' (some g)
def RefsSaid (g d : Nat) (s : St) (w : World) (e : Ending) (w' : World) : Prop :=
  ∃ A n cs, e = .returned (.slice A cs.length n) ∧ RowR (lowm w.heap.size w') A n cs ∧ cs = (listS (refS 40) false (numS 1 s).1 (numS 1 s).2).1 ∧ RS w' g d (listS (refS 40) false (numS 1 s).1 (numS 1 s).2).2 ∧ w.grownBy w' (some g)
set_option maxHeartbeats 8000000 in
theorem decPuts_any (q b g d : Nat) (s : St) (w : World) (h : RdX q b g d s w) (hl : lenS s ≤ 140737488351232) :
    Calls Tryz.prog 78 #[.pointer (some ⟨b, 0, none⟩), .func (.func 79) #[] #[.pointer (some ⟨q, 0, none⟩)]] w (PutsSaid g d s w) := by
  have HU := Lib.hid (num_any g d s 1 w h.r (by omega))
  have hC := num1_lt s
  have hgl := h.r.lt
  have hp := h.p
  unfold PutsSaid
  have hl1 : lenS (numS 1 s).2 ≤ 140737488351232 := Nat.le_trans (lenS_num 1 s) hl
  generalize (numS 1 s).2 = s1 at *
  generalize (numS 1 s).1 = C at *
  have HX := Lib.hid h
  have HE := Lib.hid (fun sk w' (hr : RdX q b g d sk w') (hk : lenS sk ≤ 140737488351232) => dec1_any q b g d sk w' hr hk)
  unfold PutSaid putV at HE
  have HS := Lib.hid (fun k => listS_succ (putS 40 8192 4096) k s1)
  have HLS := Lib.hid (fun k => Nat.le_trans (lenS_list (putS 40 8192 4096) (lenS_put _ _ _) k s1) hl1)
  have HLN := Lib.hid (fun k => listS_len (putS 40 8192 4096) k s1)
  have HL0 := Lib.hid (show listS (putS 40 8192 4096) false 0 s1 = ([], s1) from rfl)
  generalize listS (putS 40 8192 4096) false = LS at *
  have HC := Lib.hid hC
  clear h hl hl1
  go_enter Tryz.func78, Tryz.ntmps78
  go_wp2_with fail
  refine HU.out.mono ?_
  rintro e w1 ⟨rfl, hr1, hg1⟩
  have hX1 := HX.out.read hg1 hr1
  go_wp2_with fail
  go_loopw [5, 11] (fun lv iv wr => ∃ (k : Nat) (cs : List PutC), k ≤ C ∧ iv = .int .u64 k ∧ PRow w.heap.size lv cs wr ∧ esOf cs = (LS k s1).1 ∧ RdX q b g d (LS k s1).2 wr ∧ w.grownBy wr (some g)) (fun _ iv _ => C - (intOf iv).toNat)
  case atStart => exact ⟨0, [], Nat.zero_le _, rfl, PRow.nil _ _, by rw [HL0.out]; rfl, by rw [HL0.out]; exact hX1, hg1⟩
  case round =>
    clear hX1 hr1 hg1
    rename World => x
    obtain ⟨k, cs, hk, rfl, hP, hes, hX, hgx⟩ := hrel
    obtain ⟨Al, cl, hlv, hlc⟩ := hP.own.form
    subst hlv
    by_cases hlt : k < C
    · have hkc : (k : Int) < (C : Int) := by omega
      have hEk := HE.out _ x hX (HLS.out k)
      have hkw : IntKind.u64.wrap ((k : Int) + 1) = ((k + 1 : Nat) : Int) := by rw [IntKind.wrap_u64]; omega
      have hcl : cs.length = k := by rw [← esOf_len, hes, HLN.out]
      have hSk := HS.out k
      have HEK := Lib.hid hEk
      have HP := Lib.hid hP
      have HXX := Lib.hid hX
      have HES := Lib.hid hes
      have HSK := Lib.hid hSk
      have HCL := Lib.hid hcl
      have hgxs := hgx.size
      clear hEk hP hX hes hSk hcl hlc
      go_wp2_with fail
      refine HEK.out.mono ?_
      rintro e w4 ⟨c, rfl, hce, hcs, hr4, hg4⟩
      have hb5 := below_boxV w4 (Obj.cells #[.string c.e.q, .int .u64 c.e.id, .string c.e.p.key, .bool c.e.p.dur, .bool c.e.p.red, .string c.e.p.id, .int .u8 c.x.k, .int .u64 c.x.n, .string c.x.s, .slice c.x.a3 c.x.n3 c.x.c3, .slice c.x.a4 c.x.n4 c.x.c4, .string c.e.body] 67)
      have hm : ShowsG putC (w4.alloc (Obj.cells #[.string c.e.q, .int .u64 c.e.id, .string c.e.p.key, .bool c.e.p.dur, .bool c.e.p.red, .string c.e.p.id, .int .u8 c.x.k, .int .u64 c.x.n, .string c.x.s, .slice c.x.a3 c.x.n3 c.x.c3, .slice c.x.a4 c.x.n4 c.x.c4, .string c.e.body] 67)) w4.heap.size (.slice (some ⟨w4.heap.size, 0, none⟩) 1 1) [c] := ShowsG.lit (C := putC) [c] (by simp [Code.all, putC, PutC.vs]) (by simp [maxLen])
      have ho5 := ((HP.out.grown hg4 hgl).step hb5).own
      have hX5 := (HXX.out.read hg4 hr4).below hb5
      have hsz := hb5.size
      have hsz4 := hg4.size
      have HR := Lib.hid (And.intro hce (And.intro hcs (And.intro hg4 (And.intro hb5 hX5))))
      clear hce hcs hr4 hg4 hb5 hX5
      go_wp2_with (at_builtin
                   refine wpList_appendW putC _ rfl (.tmp 13) (.tmp 16) 26 rfl w.heap.size 67 _ 160 Tryz.underlying26 infoPut rfl _ _ rfl ho5 _ _ _ rfl hm (by simp) (by have := HCL.out; have := HC.out; simp only [List.length_singleton]; omega) (by have := HCL.out; have := HC.out; simp only [List.length_singleton]; omega) (by omega) ?_
                   intro v6 w6 ho6 hg6 hv6)
      obtain ⟨r1, r2, r3, r4, r5⟩ := HR.out
      have hg46 : w4.grownBy w6 (some g) ∨ True := .inr trivial
      have hbw6 : w.grownBy w6 (some g) := by
        have h1 := grown_trans' hgx r3
        have h2 := grown_trans' h1 (grown_of_below r4)
        exact ⟨hg6.os.trans h2.os, hg6.tape.trans h2.tape, hg6.output.trans h2.output, Nat.le_trans h2.size hg6.size, fun j hj hne => (hg6.block j (Nat.lt_of_lt_of_le hj h2.size) (fun e => by have := (ho5.block j e.symm).1; omega)).trans (h2.block j hj hne)⟩
      have hX6 : RdX q b g d (putS 40 8192 4096 (LS k s1).2).2 w6 := by
        have hqv := World.block_lt_of_cell? _ _ HX.out.v
        have hbv := World.block_lt_of_cell? _ _ HX.out.p
        have hdv := HX.out.dl
        simp only [] at hqv hbv
        have hne : ∀ j, j < w.heap.size → w6.heap[j]? = (w4.alloc (Obj.cells #[.string c.e.q, .int .u64 c.e.id, .string c.e.p.key, .bool c.e.p.dur, .bool c.e.p.red, .string c.e.p.id, .int .u8 c.x.k, .int .u64 c.x.n, .string c.x.s, .slice c.x.a3 c.x.n3 c.x.c3, .slice c.x.a4 c.x.n4 c.x.c4, .string c.e.body] 67)).heap[j]? := fun j hj => hg6.block j (by omega) (fun e => by have := (ho5.block j e.symm).1; omega)
        exact ⟨(World.cell?_of_block (a := ⟨q, 0, none⟩) (hne q hqv)).trans r5.v, (World.cell?_of_block (a := ⟨b, 0, none⟩) (hne b hbv)).trans r5.p, r5.r.keep hg6.size (hne g hgl) (fun _ => hne d hdv), r5.nb, r5.nq, Nat.lt_of_lt_of_le r5.dl hg6.size⟩
      have hP6 := HP.out.push hgxs r3 hgl r2 r4 ho6 hg6 hv6
      go_roundw
      case rel => exact ⟨k + 1, cs ++ [c], by omega, by go_num, hP6, by rw [esOf_snoc, HES.out, HSK.out, r1], by rw [HSK.out]; exact hX6, hbw6⟩
      case measure => simp [intOf]; omega
    · have hkn : k = C := by omega
      have hkc : ¬ (k : Int) < (C : Int) := by omega
      subst hkn
      have hcl : cs.length = k := by rw [← esOf_len, hes, HLN.out]
      obtain ⟨A, n, hv, hrow⟩ := hP.row (by have := HC.out; omega)
      have HFIN := Lib.hid (And.intro hrow (And.intro hes (And.intro hX.r hgx)))
      obtain ⟨rfl, -, rfl⟩ : Al = A ∧ True ∧ cl = n := by injection hv with h1 h2 h3; exact ⟨h1, trivial, h3⟩
      clear hP hX hes hgx hrow hv hlc hcl
      go_wp2_with fail
      go_ret
      exact ⟨_, _, cs, rfl, HFIN.out.1, HFIN.out.2.1, HFIN.out.2.2.1, HFIN.out.2.2.2⟩
set_option maxHeartbeats 8000000 in
theorem decRefs_any (q b g d : Nat) (s : St) (w : World) (h : RdX q b g d s w) (hl : lenS s ≤ 140737488351232) :
    Calls Tryz.prog 82 #[.pointer (some ⟨b, 0, none⟩), .func (.func 83) #[] #[.pointer (some ⟨q, 0, none⟩)]] w (RefsSaid g d s w) := by
  have HU := Lib.hid (num_any g d s 1 w h.r (by omega))
  have hC := num1_lt s
  have hgl := h.r.lt
  have hp := h.p
  unfold RefsSaid
  have hl1 : lenS (numS 1 s).2 ≤ 140737488351232 := Nat.le_trans (lenS_num 1 s) hl
  generalize (numS 1 s).2 = s1 at *
  generalize (numS 1 s).1 = C at *
  have HX := Lib.hid h
  have HE := Lib.hid (fun sk w' (hr : RdX q b g d sk w') (hk : lenS sk ≤ 140737488351232) => dec2_any q b g d sk w' hr hk)
  unfold RefSaid refV at HE
  have HS := Lib.hid (fun k => listS_succ (refS 40) k s1)
  have HLS := Lib.hid (fun k => Nat.le_trans (lenS_list (refS 40) (lenS_ref _) k s1) hl1)
  have HLN := Lib.hid (fun k => listS_len (refS 40) k s1)
  have HL0 := Lib.hid (show listS (refS 40) false 0 s1 = ([], s1) from rfl)
  generalize listS (refS 40) false = LS at *
  have HC := Lib.hid hC
  clear h hl hl1
  go_enter Tryz.func82, Tryz.ntmps82
  go_wp2_with fail
  refine HU.out.mono ?_
  rintro e w1 ⟨rfl, hr1, hg1⟩
  have hX1 := HX.out.read hg1 hr1
  go_wp2_with fail
  go_loopw [5, 11] (fun lv iv wr => ∃ (k : Nat) (cs : List RefE), k ≤ C ∧ iv = .int .u64 k ∧ OwnG refC 48 wr w.heap.size lv cs ∧ (∀ j (h : j < cs.length), RefAt cs[j]) ∧ cs = (LS k s1).1 ∧ RdX q b g d (LS k s1).2 wr ∧ w.grownBy wr (some g)) (fun _ iv _ => C - (intOf iv).toNat)
  case atStart => exact ⟨0, [], Nat.zero_le _, rfl, OwnG.nil_ _ _ _ _, fun j h => absurd h (by simp), by rw [HL0.out], by rw [HL0.out]; exact hX1, hg1⟩
  case round =>
    clear hX1 hr1 hg1
    rename World => x
    obtain ⟨k, cs, hk, rfl, hP, hat, hes, hX, hgx⟩ := hrel
    obtain ⟨Al, cl, hlv, hlc⟩ := hP.form
    subst hlv
    by_cases hlt : k < C
    · have hkc : (k : Int) < (C : Int) := by omega
      have hEk := HE.out _ x hX (HLS.out k)
      have hkw : IntKind.u64.wrap ((k : Int) + 1) = ((k + 1 : Nat) : Int) := by rw [IntKind.wrap_u64]; omega
      have hcl : cs.length = k := by rw [hes, HLN.out]
      have hSk := HS.out k
      have HEK := Lib.hid hEk
      have HP := Lib.hid hP
      have HXX := Lib.hid hX
      have HES := Lib.hid hes
      have HSK := Lib.hid hSk
      have HCL := Lib.hid hcl
      have hgxs := hgx.size
      clear hEk hP hX hes hSk hcl hlc
      go_wp2_with fail
      refine HEK.out.mono ?_
      rintro e w4 ⟨rfl, hr4, hg4⟩
      obtain ⟨c, hc⟩ : ∃ c, c = (refS 40 (LS k s1).2).1 := ⟨_, rfl⟩
      rw [← hc]
      have hcat : RefAt c := by
        rw [hc]
        refine ⟨?_, numS_lt 8 _⟩
        show (str8 (textS 1 40 (LS k s1).2).1).size ≤ _
        rw [str8_size]
        exact Nat.le_trans (textS_le2 _ _ _) (HLS.out k)
      have hce := hc
      clear hc
      have hb5 := below_boxV w4 (Obj.cells #[.string c.q, .int .u64 c.id] 48)
      have hm : ShowsG refC (w4.alloc (Obj.cells #[.string c.q, .int .u64 c.id] 48)) w4.heap.size (.slice (some ⟨w4.heap.size, 0, none⟩) 1 1) [c] := ShowsG.lit (C := refC) [c] (by simp [Code.all, refC, RefE.vs]) (by simp [maxLen])
      have ho5 : OwnG refC 48 (w4.alloc (Obj.cells #[.string c.q, .int .u64 c.id] 48)) w.heap.size _ cs := (HP.out.keep (w' := w4) fun i hi => hg4.block i (HP.out.block i hi).2 (fun e => by have := Option.some.inj e; have := (HP.out.block i hi).1; omega)).alloc_ _
      have hX5 := (HXX.out.read hg4 hr4).below hb5
      have hsz := hb5.size
      have hsz4 := hg4.size
      have HR := Lib.hid (And.intro hce (And.intro hcat (And.intro hg4 (And.intro hb5 hX5))))
      clear hce hcat hr4 hg4 hb5 hX5
      go_wp2_with (at_builtin
                   refine wpList_appendW refC _ rfl (.tmp 13) (.tmp 16) 27 rfl w.heap.size 48 _ 24 Tryz.underlying27 infoRef rfl _ _ rfl ho5 _ _ _ rfl hm (by simp) (by have := HCL.out; have := HC.out; simp only [List.length_singleton]; omega) (by have := HCL.out; have := HC.out; simp only [List.length_singleton]; omega) (by omega) ?_
                   intro v6 w6 ho6 hg6 hv6)
      obtain ⟨r1, r2, r3, r4, r5⟩ := HR.out
      have hg46 : w4.grownBy w6 (some g) ∨ True := .inr trivial
      have hbw6 : w.grownBy w6 (some g) := by
        have h1 := grown_trans' hgx r3
        have h2 := grown_trans' h1 (grown_of_below r4)
        exact ⟨hg6.os.trans h2.os, hg6.tape.trans h2.tape, hg6.output.trans h2.output, Nat.le_trans h2.size hg6.size, fun j hj hne => (hg6.block j (Nat.lt_of_lt_of_le hj h2.size) (fun e => by have := (ho5.block j e.symm).1; omega)).trans (h2.block j hj hne)⟩
      have hX6 : RdX q b g d (refS 40 (LS k s1).2).2 w6 := by
        have hqv := World.block_lt_of_cell? _ _ HX.out.v
        have hbv := World.block_lt_of_cell? _ _ HX.out.p
        have hdv := HX.out.dl
        simp only [] at hqv hbv
        have hne : ∀ j, j < w.heap.size → w6.heap[j]? = (w4.alloc (Obj.cells #[.string c.q, .int .u64 c.id] 48)).heap[j]? := fun j hj => hg6.block j (by omega) (fun e => by have := (ho5.block j e.symm).1; omega)
        exact ⟨(World.cell?_of_block (a := ⟨q, 0, none⟩) (hne q hqv)).trans r5.v, (World.cell?_of_block (a := ⟨b, 0, none⟩) (hne b hbv)).trans r5.p, r5.r.keep hg6.size (hne g hgl) (fun _ => hne d hdv), r5.nb, r5.nq, Nat.lt_of_lt_of_le r5.dl hg6.size⟩
      go_roundw
      case rel => exact ⟨k + 1, cs ++ [c], by omega, by go_num, ho6, (fun j hj => by
        by_cases hjc : j < cs.length
        · rw [List.getElem_append_left hjc]; exact hat j hjc
        · have hj0 : j = cs.length := by rw [List.length_append, List.length_singleton] at hj; omega
          subst hj0
          rw [List.getElem_append_right (Nat.le_refl _)]
          simp only [Nat.sub_self, List.getElem_cons_zero]
          exact r2), by rw [HSK.out, ← r1, ← HES.out], by rw [HSK.out]; exact hX6, hbw6⟩
      case measure => simp [intOf]; omega
    · have hkn : k = C := by omega
      have hkc : ¬ (k : Int) < (C : Int) := by omega
      subst hkn
      have hcl : cs.length = k := by rw [hes, HLN.out]
      obtain ⟨dr, _, hdr⟩ := (hP.low (Nat.le_refl w.heap.size)).shows
      have hrow : RowR (lowm w.heap.size x) Al cl cs := ⟨⟨dr, hdr⟩, hat, by have := HC.out; omega⟩
      have HFIN := Lib.hid (And.intro hrow (And.intro hes (And.intro hX.r hgx)))
      clear hP hX hes hgx hrow hlc hcl hat hdr
      go_wp2_with fail
      go_ret
      exact ⟨_, _, cs, rfl, HFIN.out.1, HFIN.out.2.1, HFIN.out.2.2.1, HFIN.out.2.2.2⟩
end Go.Proofs.YtdklhcmoilcpgaaGreat
namespace Go.Proofs.YtdklhcmoilcpgaaGreat
open Go.RowKit
set_option maxRecDepth 100000
abbrev zEnt : Obj := Obj.cells #[.int .u8 0, .string ⟨#[]⟩, .int .u64 0, .int .u32 0, .string ⟨#[]⟩, .string ⟨#[]⟩, .slice none 0 0, .slice none 0 0] 29
structure DE (w : World) (q b g d E : Nat) (x : EntC) (s : St) (wx : World) : Prop where
  res : wx.heap[w.heap.size]? = some zEnt
  box : BoxE wx E x
  rd : BoxRd wx b g
  v : wx.heap[q]? = some (.cells #[.pointer (some ⟨b, 0, none⟩)] 115 (0, 0))
  rs : RS wx g d s
  bel : Below w.heap.size w wx
  wd : w.heap.size < d
  wg : w.heap.size < g
  wb : w.heap.size < b
  bq : b < q
  qE : q < E
  gn : g ≠ b ∧ g ≠ q ∧ g ≠ E
  dn : d ≠ b ∧ d ≠ q ∧ d ≠ E
  dl : d < wx.heap.size
section
variable {w wx wy : World} {q b g d E : Nat} {x x' : EntC} {s s' : St}
theorem DE.rx (h : DE w q b g d E x s wx) : RdX q b g d s wx := ⟨cell_of_row wx q 0 _ 115 (0, 0) h.v, h.rd.c, h.rs, h.gn.1, h.gn.2.1, h.dl⟩
theorem DE.read (h : DE w q b g d E x s wx) (hg : wx.grownBy wy (some g)) (hr : RS wy g d s') : DE w q b g d E x s' wy := by
 have hwg := h.wg
 have hne : ∀ k, k ≠ g → k < wx.heap.size → wy.heap[k]? = wx.heap[k]? := fun k hk hl => hg.block k hl (fun e => hk (Option.some.inj e))
 refine ⟨(hne _ (by omega) (Array.getElem?_eq_some_iff.1 h.res).1).trans h.res, (hne E (fun e => h.gn.2.2 e.symm) h.box.lt).trans h.box, (hne b (fun e => h.gn.1 e.symm) h.rd.lt).trans h.rd, (hne q (fun e => h.gn.2.1 e.symm) (Array.getElem?_eq_some_iff.1 h.v).1).trans h.v, hr, h.bel.grown hg h.bel.size (fun k hk => by cases hk; omega), h.wd, h.wg, h.wb, h.bq, h.qE, h.gn, h.dn, Nat.lt_of_lt_of_le h.dl hg.size⟩
theorem DE.set (h : DE w q b g d E x s wx) (i : Nat) (u : Value) (hq : BoxE (wx.setCell ⟨E, i, none⟩ u) E x') : DE w q b g d E x' s (wx.setCell ⟨E, i, none⟩ u) := by
 have h1 := h.wb
 have h2 := h.bq
 have h3 := h.qE
 have hne : ∀ k, k ≠ E → (wx.setCell ⟨E, i, none⟩ u).heap[k]? = wx.heap[k]? := fun k hk => Below.heap_setCell _ _ _ _ (by show k ≠ E; exact hk)
 exact ⟨(hne _ (by omega)).trans h.res, hq, (hne b (by omega)).trans h.rd, (hne q (by omega)).trans h.v, h.rs.set h.gn.2.2 h.dn.2.2 i u, below_set h.bel (by omega) u, h.wd, h.wg, h.wb, h.bq, h.qE, h.gn, h.dn, by simpa using h.dl⟩
theorem DE.xid (h : DE w q b g d E x s wx) {g' d' : Nat} (hb : BoxRd wy b g') (hr : RS wy g' d' s') (h1 : wx.heap.size ≤ g') (h2 : wx.heap.size ≤ d') (hdl : d' < wy.heap.size) (hf : Frm2 b g wx wy) : DE w q b g' d' E x s' wy := by
 have hwg := h.wg
 have hwb := h.wb
 have hbq := h.bq
 have hqE := h.qE
 have hEl := h.box.lt
 have hbl := h.bel.size
 have hne : ∀ k, k ≠ g → k ≠ b → k < wx.heap.size → wy.heap[k]? = wx.heap[k]? := fun k hk hk2 hl => hf.block k hl hk2 hk
 refine ⟨(hne _ (by omega) (by omega) (Array.getElem?_eq_some_iff.1 h.res).1).trans h.res, (hne E (fun e => h.gn.2.2 e.symm) (by omega) h.box.lt).trans h.box, hb, (hne q (fun e => h.gn.2.1 e.symm) (by omega) (Array.getElem?_eq_some_iff.1 h.v).1).trans h.v, hr,
  ⟨hf.os.trans h.bel.os, hf.tape.trans h.bel.tape, hf.output.trans h.bel.output, Nat.le_trans h.bel.size hf.size, fun k hk => (hne k (by omega) (by omega) (by omega)).trans (h.bel.block k hk)⟩, by omega, by omega, hwb, hbq, hqE, ⟨by omega, by omega, by omega⟩, ⟨by omega, by omega, by omega⟩, hdl⟩
end
theorem BoxE.name {w : World} {E : Nat} {x : EntC} (h : BoxE w E x) (u : ByteArray) : BoxE (w.setCell ⟨E, 1, none⟩ (.string u)) E { x with name := u } := heap_setCell_same w E 1 _ 29 (.string u) h
theorem BoxE.num {w : World} {E : Nat} {x : EntC} (h : BoxE w E x) (u : Nat) : BoxE (w.setCell ⟨E, 2, none⟩ (.int .u64 u)) E { x with n := u } := heap_setCell_same w E 2 _ 29 (.int .u64 u) h
theorem BoxE.sxf {w : World} {E : Nat} {x : EntC} (h : BoxE w E x) (u : Nat) : BoxE (w.setCell ⟨E, 3, none⟩ (.int .u32 u)) E { x with xf := u } := heap_setCell_same w E 3 _ 29 (.int .u32 u) h
theorem BoxE.sxg {w : World} {E : Nat} {x : EntC} (h : BoxE w E x) (u : ByteArray) : BoxE (w.setCell ⟨E, 4, none⟩ (.string u)) E { x with xg := u } := heap_setCell_same w E 4 _ 29 (.string u) h
theorem BoxE.sxh {w : World} {E : Nat} {x : EntC} (h : BoxE w E x) (u : ByteArray) : BoxE (w.setCell ⟨E, 5, none⟩ (.string u)) E { x with xh := u } := heap_setCell_same w E 5 _ 29 (.string u) h
theorem BoxE.sps {w : World} {E : Nat} {x : EntC} (h : BoxE w E x) (A : Option Addr) (c : Nat) (cs : List PutC) : BoxE (w.setCell ⟨E, 6, none⟩ (.slice A cs.length c)) E { x with A1 := A, c1 := c, cs := cs } := heap_setCell_same w E 6 _ 29 (.slice A cs.length c) h
theorem BoxE.sts {w : World} {E : Nat} {x : EntC} (h : BoxE w E x) (A : Option Addr) (c : Nat) (rs : List RefE) : BoxE (w.setCell ⟨E, 7, none⟩ (.slice A rs.length c)) E { x with A2 := A, c2 := c, rs := rs } := heap_setCell_same w E 7 _ 29 (.slice A rs.length c) h
def set8 (w : World) (b : Nat) (x0 x1 x2 x3 x4 x5 x6 x7 : Value) : World := (((((((w.setCell ⟨b, 0, none⟩ x0).setCell ⟨b, 1, none⟩ x1).setCell ⟨b, 2, none⟩ x2).setCell ⟨b, 3, none⟩ x3).setCell ⟨b, 4, none⟩ x4).setCell ⟨b, 5, none⟩ x5).setCell ⟨b, 6, none⟩ x6).setCell ⟨b, 7, none⟩ x7
theorem set8_eq (w : World) (b : Nat) (x0 x1 x2 x3 x4 x5 x6 x7 : Value) : set8 w b x0 x1 x2 x3 x4 x5 x6 x7 = setN w b 0 [x0, x1, x2, x3, x4, x5, x6, x7] := rfl
theorem ent_zero {w : World} {b : Nat} (h : w.heap[b]? = some zEnt) : ((w.cell? ⟨b, 0, none⟩ = some (.int .u8 0) ∧ w.cell? ⟨b, 1, none⟩ = some (.string ⟨#[]⟩) ∧ w.cell? ⟨b, 2, none⟩ = some (.int .u64 0) ∧ w.cell? ⟨b, 3, none⟩ = some (.int .u32 0)) ∧ (w.cell? ⟨b, 4, none⟩ = some (.string ⟨#[]⟩) ∧ w.cell? ⟨b, 5, none⟩ = some (.string ⟨#[]⟩) ∧ w.cell? ⟨b, 6, none⟩ = some (.slice none 0 0) ∧ w.cell? ⟨b, 7, none⟩ = some (.slice none 0 0))) ∧
  ((w.frozen? ⟨b, 0, none⟩ = false ∧ w.frozen? ⟨b, 1, none⟩ = false ∧ w.frozen? ⟨b, 2, none⟩ = false ∧ w.frozen? ⟨b, 3, none⟩ = false) ∧ (w.frozen? ⟨b, 4, none⟩ = false ∧ w.frozen? ⟨b, 5, none⟩ = false ∧ w.frozen? ⟨b, 6, none⟩ = false ∧ w.frozen? ⟨b, 7, none⟩ = false)) := by
 have hq : ∀ i, w.cell? ⟨b, i, none⟩ = (#[Value.int .u8 0, .string ⟨#[]⟩, .int .u64 0, .int .u32 0, .string ⟨#[]⟩, .string ⟨#[]⟩, .slice none 0 0, .slice none 0 0] : Array Value)[i]? := fun i => cell_of_row w b i _ 29 (0, 0) h
 have fq := fun i => frozen_of_row w b i _ 29 h
 exact ⟨⟨⟨hq 0, hq 1, hq 2, hq 3⟩, ⟨hq 4, hq 5, hq 6, hq 7⟩⟩, ⟨⟨fq 0, fq 1, fq 2, fq 3⟩, ⟨fq 4, fq 5, fq 6, fq 7⟩⟩⟩
theorem set8_row {w : World} {b : Nat} (x0 x1 x2 x3 x4 x5 x6 x7 : Value) (h : w.heap[b]? = some zEnt) : (set8 w b x0 x1 x2 x3 x4 x5 x6 x7).heap[b]? = some (.cells #[x0, x1, x2, x3, x4, x5, x6, x7] 29 (0, 0)) := by
 have h9 := setN_row [x0, x1, x2, x3, x4, x5, x6, x7] 0 w _ h
 simp only [List.foldl_cons, List.foldl_nil, List.setIfInBounds_toArray, List.set_cons_zero, List.set_cons_succ, Nat.zero_add, Nat.reduceAdd] at h9
 rw [set8_eq]
 exact h9
theorem set8_below {B b : Nat} {w0 w : World} (h : Below B w0 w) (hb : B ≤ b) (x0 x1 x2 x3 x4 x5 x6 x7 : Value) : Below B w0 (set8 w b x0 x1 x2 x3 x4 x5 x6 x7) := by rw [set8_eq]; exact setN_below hb _ 0 _ _ h
theorem set8_sub (w : World) (b : Nat) {B : Nat} (hB : b < B) (x0 x1 x2 x3 x4 x5 x6 x7 : Value) : Sub (lowm B w) (lowm B (set8 w b x0 x1 x2 x3 x4 x5 x6 x7)) := by rw [set8_eq]; exact setN_sub hB _ 0 w
def DecSaidE (l : List UInt8) (w : World) (e : Ending) (w' : World) : Prop :=
  ∃ x : EntC, e = .returned (entV x) ∧ x.e = decG 40 8192 4096 false l ∧ ShowsE (lowm w.heap.size w') x ∧ Few x.cs ∧ Below w.heap.size w w'
theorem gotPr_cnt (l : List UInt8) : cntT (gotPr l).app ≤ 1000000 := by
 unfold gotPr
 cases h : getPr l with
 | none => decide
 | some p =>
  have hv := (get_some h).1.2.2
  rcases hv with ⟨_, hc⟩ | hz
  ·exact Nat.le_trans (pcheck_cnt hc) (by decide)
  ·show cntT p.app ≤ _
   rw [hz]; decide
theorem list_got (nm pm bm : Int) (stop : Bool) : ∀ (k : Nat) (s : St), ∀ e ∈ (listS (putS nm pm bm) stop k s).1, cntT e.p.app ≤ 1000000
 | 0, s, e, h => absurd h (by simp [listS])
 | k + 1, s, e, h => by
  unfold listS at h
  split at h
  ·exact list_got nm pm bm stop k s e h
  ·rcases List.mem_append.1 h with h | h
   ·exact list_got nm pm bm stop k s e h
   ·rw [List.mem_singleton.1 h]
    exact gotPr_cnt _
theorem sets_all (k : Nat) : ((uName k = true ∧ uNum k = true ∧ uX k = false ∧ uWork k = false) ∨ (uName k = true ∧ uNum k = false ∧ uX k = false ∧ uWork k = false) ∨ (uName k = false ∧ uNum k = false ∧ uX k = false ∧ uWork k = true) ∨ (uName k = false ∧ uNum k = false ∧ uX k = true ∧ uWork k = true) ∨
  (uName k = false ∧ uNum k = true ∧ uX k = true ∧ uWork k = false) ∨ (uName k = false ∧ uNum k = false ∧ uX k = true ∧ uWork k = false)) ∨ (uName k = false ∧ uNum k = false ∧ uX k = false ∧ uWork k = false) := by
 cases h : kindOK k with
 | true => exact .inl (sets_of k h)
 | false =>
  right
  unfold kindOK at h
  have := of_decide_eq_false h
  unfold uName uNum uX uWork
  refine ⟨decide_eq_false ?_, decide_eq_false ?_, decide_eq_false ?_, decide_eq_false ?_⟩ <;> omega
theorem name_yes {k : Nat} {s : St} {nm : ByteArray} {s1 : St} (h : (nm, s1) = nameS 40 k s) (hu : uName k = true) : nm = str8 (textS 1 40 s).1 ∧ s1 = (textS 1 40 s).2 := by
 unfold nameS at h; rw [if_pos hu] at h; exact ⟨congrArg Prod.fst h, congrArg Prod.snd h⟩
theorem name_not {k : Nat} {s : St} {nm : ByteArray} {s1 : St} (h : (nm, s1) = nameS 40 k s) (hu : uName k = false) : nm = ⟨#[]⟩ ∧ s = s1 := by
 unfold nameS at h; rw [if_neg (by rw [hu]; decide)] at h; exact ⟨congrArg Prod.fst h, (congrArg Prod.snd h).symm⟩
theorem nr_yes {k : Nat} {s : St} {n : Nat} {s1 : St} (h : (n, s1) = nrS k s) (hu : uNum k = true) : n = (numS 8 s).1 ∧ s1 = (numS 8 s).2 := by
 unfold nrS at h; rw [if_pos hu] at h; exact ⟨congrArg Prod.fst h, congrArg Prod.snd h⟩
theorem nr_not {k : Nat} {s : St} {n : Nat} {s1 : St} (h : (n, s1) = nrS k s) (hu : uNum k = false) : n = 0 ∧ s = s1 := by
 unfold nrS at h; rw [if_neg (by rw [hu]; decide)] at h; exact ⟨congrArg Prod.fst h, (congrArg Prod.snd h).symm⟩
theorem x_yes {k : Nat} {s : St} {f : Nat} {g h : ByteArray} {s1 : St} (hx : ((f, g, h), s1) = xS false k s) (hu : uX k = true) : ((f, g, h), s1) = xidS false s := by
 unfold xS at hx; rwa [if_pos hu] at hx
theorem x_not {k : Nat} {s : St} {f : Nat} {g h : ByteArray} {s1 : St} (hx : ((f, g, h), s1) = xS false k s) (hu : uX k = false) : f = 0 ∧ g = ⟨#[]⟩ ∧ h = ⟨#[]⟩ ∧ s = s1 := by
 unfold xS at hx; rw [if_neg (by rw [hu]; decide)] at hx
 simp only [Prod.mk.injEq] at hx
 exact ⟨hx.1.1, hx.1.2.1, hx.1.2.2, hx.2.symm⟩
theorem lenS_xid (s : St) : lenS (xidS false s).2 ≤ lenS s := by
 unfold xidS
 simp only []
 rw [if_neg (by decide)]
 show ((leftB s).drop _).length ≤ _
 rw [List.length_drop]
 have : (leftB s).length = lenS s := by cases s <;> rfl
 omega
theorem xid_sizes {s s1 : St} {f : Nat} {g h : ByteArray} (hx : ((f, g, h), s1) = xidS false s) (hl : lenS s ≤ 140737488351232) : f < 4294967296 ∧ g.size ≤ 140737488351232 ∧ h.size ≤ 140737488351232 := by
 have e : (f, g, h) = (xgot (leftB s)).1 := by
  have := congrArg Prod.fst hx
  exact this
 have hf := xgot_lt (leftB s)
 rw [← e] at hf
 refine ⟨hf, ?_⟩
 unfold xgot at e
 split at e
 ·simp only [Prod.mk.injEq] at e
  obtain ⟨_, rfl, rfl⟩ := e
  exact ⟨by decide, by decide⟩
 ·split at e
  ·rename_i hm
   simp only [Prod.mk.injEq] at e
   obtain ⟨_, rfl, rfl⟩ := e
   unfold mayX at hm
   exact ⟨by omega, by omega⟩
  ·simp only [Prod.mk.injEq] at e
   obtain ⟨_, rfl, rfl⟩ := e
   exact ⟨by decide, by decide⟩
set_option maxHeartbeats 16000000 in
theorem decoded_any (s : ByteArray) (w : World) (hs : s.size ≤ 140737488351232) : Calls Tryz.prog 36 #[.string s] w (DecSaidE (sb s) w) := by
 have hB0 := below_boxV w zEnt
 obtain ⟨v1, w1, hcv, hs1, hb1⟩ := conv_tobytes (w.alloc zEnt) s (by omega)
 have hl : (sb s).length ≤ 140737488351232 := by rw [sb_length]; exact hs
 have HO := Lib.hid (open_any v1 (sb s) _ w1 hs1 (by omega))
 have hb01 := hB0.trans (hb1.mono hB0.size)
 have hsz1 : w.heap.size + 1 ≤ w1.heap.size := by have := hb1.size; rwa [World.size_alloc] at this
 have hres1 := (hb1.block w.heap.size (by simp)).trans (heap_alloc_new w zEnt)
 have HB01 := Lib.hid hb01
 have HRES := Lib.hid hres1
 unfold DecSaidE
 clear hb1 hs1 hB0 hb01 hres1
 generalize sb s = l at *
 obtain ⟨⟨k, s0⟩, ha⟩ : ∃ x, x = numS 1 (some l) := ⟨_, rfl⟩
 obtain ⟨⟨nm, s1⟩, hb⟩ : ∃ x, x = nameS 40 k s0 := ⟨_, rfl⟩
 obtain ⟨⟨n, s2⟩, hc⟩ : ∃ x, x = nrS k s1 := ⟨_, rfl⟩
 obtain ⟨⟨⟨xf, xg, xh⟩, s3⟩, hd⟩ : ∃ x, x = xS false k s2 := ⟨_, rfl⟩
 obtain ⟨⟨ps, s4⟩, hp⟩ : ∃ x, x = psS 40 8192 4096 false k s3 := ⟨_, rfl⟩
 obtain ⟨⟨ts, s5⟩, ht⟩ : ∃ x, x = tsS 40 false k s4 := ⟨_, rfl⟩
 have hdec : decG 40 8192 4096 false l = ⟨k, nm, n, xf, xg, xh, ps, ts⟩ := by
  unfold decG
  rw [← ha]
  simp only []
  rw [← hb]
  simp only []
  rw [← hc]
  simp only []
  rw [← hd]
  simp only []
  rw [← hp]
  simp only []
  rw [← ht]
 rw [hdec]
 clear hdec
 have hk : k < 256 := by have := num1_lt (some l); rw [← ha] at this; exact this
 have l0 : lenS s0 ≤ 140737488351232 := by have := lenS_num 1 (some l); rw [← ha] at this; exact Nat.le_trans this hl
 have HN1 := Lib.hid (fun g d w' (hr : RS w' g d (some l)) => num_any g d (some l) 1 w' hr (by show l.length ≤ _; omega))
 rw [← ha] at HN1
 simp only [] at HN1
 have hkw : IntKind.u8.wrap (k : Int) = (k : Int) := by rw [IntKind.wrap_u8]; omega
 have HF := Lib.hid (fun w' => fields_any k w')
 have HQN := Lib.hid (fun w' => has_name k w')
 have HQU := Lib.hid (fun w' => has_num k w')
 have HQX := Lib.hid (fun w' => has_x k w')
 have HQW := Lib.hid (fun w' => has_work k w')
 have HK := Lib.hid hk
 clear ha
 rcases sets_all k with hs | hs
 rcases hs with hs | hs | hs | hs | hs | hs
 ·obtain ⟨hu1, hu2, hu3, hu4⟩ := hs
  rw [hu1] at HQN
  rw [hu2] at HQU
  rw [hu3] at HQX
  rw [hu4] at HQW
  obtain ⟨hnm, hs1'⟩ := name_yes hb hu1
  have l1 : lenS s1 ≤ 140737488351232 := by rw [hs1']; exact Nat.le_trans (lenS_text _ _ _) l0
  have HNM := Lib.hid (fun b g d w' (hr : RdE b g d s0 w') => ename_any b g d s0 w' hr (by omega))
  rw [← hnm, ← hs1'] at HNM
  have hnz : nm.size ≤ 140737488351232 := by rw [hnm, str8_size]; exact Nat.le_trans (textS_le2 _ _ _) l0
  clear hnm hs1'
  obtain ⟨hnn, hs2'⟩ := nr_yes hc hu2
  have l2 : lenS s2 ≤ 140737488351232 := by rw [hs2']; exact Nat.le_trans (lenS_num _ _) l1
  have HNN := Lib.hid (fun g d w' (hr : RS w' g d s1) => num_any g d s1 8 w' hr (by omega))
  rw [← hnn, ← hs2'] at HNN
  have hnl : n < 18446744073709551616 := by rw [hnn]; exact numS_lt 8 _
  clear hnn hs2'
  obtain ⟨rfl, rfl, rfl, rfl⟩ := x_not hd hu3
  have l3 := l2
  have hxl : (0 : Nat) < 4294967296 ∧ ByteArray.size ⟨#[]⟩ ≤ 140737488351232 ∧ ByteArray.size ⟨#[]⟩ ≤ 140737488351232 := by decide
  unfold psS at hp
  rw [if_neg (by rw [hu4]; decide)] at hp
  unfold tsS at ht
  rw [if_neg (by rw [hu4]; decide)] at ht
  obtain ⟨rfl, rfl⟩ : ps = [] ∧ s2 = s4 := ⟨congrArg Prod.fst hp, (congrArg Prod.snd hp).symm⟩
  obtain ⟨rfl, rfl⟩ : ts = [] ∧ s2 = s5 := ⟨congrArg Prod.fst ht, (congrArg Prod.snd ht).symm⟩
  have HZ := Lib.hid (And.intro hnz (And.intro hnl hxl))
  clear hb hc hd hp ht hu1 hu2 hu3 hu4 l0 l1 l2 l3 hnz hnl hxl
  go_enter Tryz.func36, Tryz.ntmps36
  go_wp2_with fail
  refine HO.out.mono ?_
  rintro e w3 ⟨g, d, rfl, hr3, hg3, ⟨hd31, hd32⟩, hb3⟩
  have hA4 := below_boxV w3 (Obj.cells #[.pointer (some ⟨g, 0, none⟩)] 119)
  obtain ⟨W4, hW4⟩ : ∃ W4, W4 = w3.alloc (Obj.cells #[.pointer (some ⟨g, 0, none⟩)] 119) := ⟨_, rfl⟩
  have hrd4 : BoxRd W4 w3.heap.size g := by rw [hW4]; exact heap_alloc_new _ _
  rw [← hW4] at hA4
  have hz4 : W4.heap.size = w3.heap.size + 1 := by rw [hW4]; simp
  have hA5 := below_boxV W4 (Obj.cells #[.pointer (some ⟨w3.heap.size, 0, none⟩)] 115)
  obtain ⟨W5, hW5⟩ : ∃ W5, W5 = W4.alloc (Obj.cells #[.pointer (some ⟨w3.heap.size, 0, none⟩)] 115) := ⟨_, rfl⟩
  have hv5 : W5.heap[w3.heap.size + 1]? = some (.cells #[.pointer (some ⟨w3.heap.size, 0, none⟩)] 115 (0, 0)) := by rw [hW5, ← hz4]; exact heap_alloc_new _ _
  rw [← hW5] at hA5
  have hz5 : W5.heap.size = w3.heap.size + 1 + 1 := by rw [hW5]; simp [hz4]
  have hrd5 : BoxRd W5 w3.heap.size g := (hA5.block _ (by omega)).trans hrd4
  have hr5 := (hr3.below hA4).below hA5
  have hglt := hr3.lt
  have hb05 := ((HB01.out.trans (hb3.mono HB01.out.size)).trans (hA4.mono (by have := HB01.out.size; have := hb3.size; omega))).trans (hA5.mono (by have := HB01.out.size; have := hb3.size; omega))
  have hres5 : W5.heap[w.heap.size]? = some zEnt := (hA5.block _ (by have := hb3.size; omega)).trans ((hA4.block _ (by have := hb3.size; omega)).trans ((hb3.block _ (by omega)).trans HRES.out))
  have HNX := Lib.hid (HN1.out g d W5 hr5)
  have p5 := hrd5.c
  have v5 := cell_of_row W5 (w3.heap.size + 1) 0 _ 115 (0, 0) hv5
  have HD5 := Lib.hid (And.intro hres5 (And.intro hrd5 (And.intro hv5 (And.intro hb05 (And.intro hd32 hd31)))))
  have hz3 := hb3.size
  have HCV := Lib.hid hcv
  clear hA4 hA5 hrd4 hv5 hrd5 hr5 hr3 hb05 hres5 hb3 hd31 hd32 HO hcv
  have hW45 : (w3.alloc (Obj.cells #[.pointer (some ⟨g, 0, none⟩)] 119)).alloc (Obj.cells #[.pointer (some ⟨w3.heap.size, 0, none⟩)] 115) = W5 := by rw [hW5, hW4]
  clear hW4 hW5 hz4
  go_upto_region 2 with fail
  clear hW45
  go_wp2_with fail
  refine HNX.out.mono ?_
  rintro e w6 ⟨rfl, hr6, hg6⟩
  have hA7 := below_boxV w6 (Obj.cells #[.int .u8 k, .string ⟨#[]⟩, .int .u64 0, .int .u32 0, .string ⟨#[]⟩, .string ⟨#[]⟩, .slice none 0 0, .slice none 0 0] 29)
  have hDE : DE w (w3.heap.size + 1) w3.heap.size g d w6.heap.size ⟨k, ⟨#[]⟩, 0, 0, ⟨#[]⟩, ⟨#[]⟩, none, 0, [], none, 0, []⟩ s0 (w6.alloc (Obj.cells #[.int .u8 k, .string ⟨#[]⟩, .int .u64 0, .int .u32 0, .string ⟨#[]⟩, .string ⟨#[]⟩, .slice none 0 0, .slice none 0 0] 29)) := by
   obtain ⟨q1, q2, q3, q4, q5, q6⟩ := HD5.out
   have hz6 := hg6.size
   have hne : ∀ j, j ≠ g → j < W5.heap.size → (w6.alloc (Obj.cells #[.int .u8 k, .string ⟨#[]⟩, .int .u64 0, .int .u32 0, .string ⟨#[]⟩, .string ⟨#[]⟩, .slice none 0 0, .slice none 0 0] 29)).heap[j]? = W5.heap[j]? := fun j hj hl => (hA7.block j (by omega)).trans (hg6.block j hl (fun e => hj (Option.some.inj e)))
   exact ⟨(hne _ (by omega) (by omega)).trans q1, BoxE.new (x := ⟨k, ⟨#[]⟩, 0, 0, ⟨#[]⟩, ⟨#[]⟩, none, 0, [], none, 0, []⟩) w6, (hne _ (by omega) (by omega)).trans q2, (hne _ (by omega) (by omega)).trans q3, hr6.below hA7, (q4.grown hg6 q4.size (fun j hj => by cases hj; omega)).trans (hA7.mono (by have := q4.size; omega)), by omega, by omega, by omega, by omega, by omega, ⟨by omega, by omega, by omega⟩, ⟨by omega, by omega, by omega⟩, by simp; omega⟩
  have HZ3 := Lib.hid (And.intro hz3 hsz1)
  clear hA7 hr6 hg6 HD5 HNX hz5 hz3 hglt p5 v5 hg3 hsz1
  have e0 := hDE.box.cells.1.1
  simp only [] at e0
  go_wp2_with fail
  refine (HF.out _).mono ?_
  rintro e w11 ⟨rfl, rfl⟩
  clear e0
  go_wp2_with fail
  refine (HQN.out _).mono ?_
  rintro e w11 ⟨rfl, rfl⟩
  have v5 := hDE.rx.v
  have p5 := hDE.rx.p
  go_wp2_with fail
  refine (HNM.out _ _ _ _ hDE.rx.e).mono ?_
  rintro e wA ⟨rfl, hrA, hgA⟩
  have hDE := hDE.read hgA hrA
  clear v5 p5
  have c1 := hDE.box.cells.1.2.1
  have f1 := hDE.box.fr 1
  have hDE := hDE.set 1 (.string nm) (hDE.box.name nm)
  simp only [] at c1 hDE
  clear hrA hgA
  go_wp2_with fail
  refine (HQU.out _).mono ?_
  rintro e w11 ⟨rfl, rfl⟩
  clear c1 f1
  have v5 := hDE.rx.v
  have p5 := hDE.rx.p
  go_wp2_with fail
  refine (HNN.out _ _ _ hDE.rs).mono ?_
  rintro e wB ⟨rfl, hrB, hgB⟩
  have hDE := hDE.read hgB hrB
  clear v5 p5
  have c2 := hDE.box.cells.1.2.2
  have f2 := hDE.box.fr 2
  have hDE := hDE.set 2 (.int .u64 n) (hDE.box.num n)
  simp only [] at c2 hDE
  clear hrB hgB
  go_wp2_with fail
  refine (HQX.out _).mono ?_
  rintro e w11 ⟨rfl, rfl⟩
  clear c2 f2
  go_wp2_with fail
  refine (HQW.out _).mono ?_
  rintro e w11 ⟨rfl, rfl⟩
  have hbox := hDE.box.cells
  simp only [] at hbox
  obtain ⟨⟨b0, b1, b2⟩, ⟨b3, b4, b5⟩, b6, b7⟩ := hbox
  obtain ⟨⟨⟨z0, z1, z2, z3⟩, ⟨z4, z5, z6, z7⟩⟩, ⟨⟨f0, f1, f2, f3⟩, ⟨f4, f5, f6, f7⟩⟩⟩ := ent_zero hDE.res
  have h8 := set8_row (.int .u8 k) (.string nm) (.int .u64 n) (.int .u32 0) (.string ⟨#[]⟩) (.string ⟨#[]⟩) (.slice none 0 0) (.slice none 0 0) hDE.res
  have h8b := set8_below hDE.bel (Nat.le_refl w.heap.size) (.int .u8 k) (.string nm) (.int .u64 n) (.int .u32 0) (.string ⟨#[]⟩) (.string ⟨#[]⟩) (.slice none 0 0) (.slice none 0 0)
  unfold set8 at h8 h8b
  have H8 := Lib.hid (And.intro h8 (And.intro h8b trivial))
  clear h8 h8b hDE
  go_wp2_with fail
  refine bodyPost_ret (results_cell_row rfl _ _ w.heap.size 29 _ (0, 0) _ rfl H8.out.1 Tryz.underlying29 rfl (by kernel_rfl)) rfl ⟨⟨k, nm, n, 0, ⟨#[]⟩, ⟨#[]⟩, none, 0, [], none, 0, []⟩, rfl, ?_, ⟨HK.out, HZ.out.1, HZ.out.2.1, HZ.out.2.2.1, HZ.out.2.2.2.1, HZ.out.2.2.2.2, ?_, ?_⟩, ?_, H8.out.2.1⟩
  ·rfl
  ·exact RowP.nil _
  ·exact RowR.nil _
  ·intro j hj
   exact absurd hj (by simp)
 ·obtain ⟨hu1, hu2, hu3, hu4⟩ := hs
  rw [hu1] at HQN
  rw [hu2] at HQU
  rw [hu3] at HQX
  rw [hu4] at HQW
  obtain ⟨hnm, hs1'⟩ := name_yes hb hu1
  have l1 : lenS s1 ≤ 140737488351232 := by rw [hs1']; exact Nat.le_trans (lenS_text _ _ _) l0
  have HNM := Lib.hid (fun b g d w' (hr : RdE b g d s0 w') => ename_any b g d s0 w' hr (by omega))
  rw [← hnm, ← hs1'] at HNM
  have hnz : nm.size ≤ 140737488351232 := by rw [hnm, str8_size]; exact Nat.le_trans (textS_le2 _ _ _) l0
  clear hnm hs1'
  obtain ⟨rfl, rfl⟩ := nr_not hc hu2
  have l2 := l1
  have hnl : (0 : Nat) < 18446744073709551616 := by decide
  obtain ⟨rfl, rfl, rfl, rfl⟩ := x_not hd hu3
  have l3 := l2
  have hxl : (0 : Nat) < 4294967296 ∧ ByteArray.size ⟨#[]⟩ ≤ 140737488351232 ∧ ByteArray.size ⟨#[]⟩ ≤ 140737488351232 := by decide
  unfold psS at hp
  rw [if_neg (by rw [hu4]; decide)] at hp
  unfold tsS at ht
  rw [if_neg (by rw [hu4]; decide)] at ht
  obtain ⟨rfl, rfl⟩ : ps = [] ∧ s1 = s4 := ⟨congrArg Prod.fst hp, (congrArg Prod.snd hp).symm⟩
  obtain ⟨rfl, rfl⟩ : ts = [] ∧ s1 = s5 := ⟨congrArg Prod.fst ht, (congrArg Prod.snd ht).symm⟩
  have HZ := Lib.hid (And.intro hnz (And.intro hnl hxl))
  clear hb hc hd hp ht hu1 hu2 hu3 hu4 l0 l1 l2 l3 hnz hnl hxl
  go_enter Tryz.func36, Tryz.ntmps36
  go_wp2_with fail
  refine HO.out.mono ?_
  rintro e w3 ⟨g, d, rfl, hr3, hg3, ⟨hd31, hd32⟩, hb3⟩
  have hA4 := below_boxV w3 (Obj.cells #[.pointer (some ⟨g, 0, none⟩)] 119)
  obtain ⟨W4, hW4⟩ : ∃ W4, W4 = w3.alloc (Obj.cells #[.pointer (some ⟨g, 0, none⟩)] 119) := ⟨_, rfl⟩
  have hrd4 : BoxRd W4 w3.heap.size g := by rw [hW4]; exact heap_alloc_new _ _
  rw [← hW4] at hA4
  have hz4 : W4.heap.size = w3.heap.size + 1 := by rw [hW4]; simp
  have hA5 := below_boxV W4 (Obj.cells #[.pointer (some ⟨w3.heap.size, 0, none⟩)] 115)
  obtain ⟨W5, hW5⟩ : ∃ W5, W5 = W4.alloc (Obj.cells #[.pointer (some ⟨w3.heap.size, 0, none⟩)] 115) := ⟨_, rfl⟩
  have hv5 : W5.heap[w3.heap.size + 1]? = some (.cells #[.pointer (some ⟨w3.heap.size, 0, none⟩)] 115 (0, 0)) := by rw [hW5, ← hz4]; exact heap_alloc_new _ _
  rw [← hW5] at hA5
  have hz5 : W5.heap.size = w3.heap.size + 1 + 1 := by rw [hW5]; simp [hz4]
  have hrd5 : BoxRd W5 w3.heap.size g := (hA5.block _ (by omega)).trans hrd4
  have hr5 := (hr3.below hA4).below hA5
  have hglt := hr3.lt
  have hb05 := ((HB01.out.trans (hb3.mono HB01.out.size)).trans (hA4.mono (by have := HB01.out.size; have := hb3.size; omega))).trans (hA5.mono (by have := HB01.out.size; have := hb3.size; omega))
  have hres5 : W5.heap[w.heap.size]? = some zEnt := (hA5.block _ (by have := hb3.size; omega)).trans ((hA4.block _ (by have := hb3.size; omega)).trans ((hb3.block _ (by omega)).trans HRES.out))
  have HNX := Lib.hid (HN1.out g d W5 hr5)
  have p5 := hrd5.c
  have v5 := cell_of_row W5 (w3.heap.size + 1) 0 _ 115 (0, 0) hv5
  have HD5 := Lib.hid (And.intro hres5 (And.intro hrd5 (And.intro hv5 (And.intro hb05 (And.intro hd32 hd31)))))
  have hz3 := hb3.size
  have HCV := Lib.hid hcv
  clear hA4 hA5 hrd4 hv5 hrd5 hr5 hr3 hb05 hres5 hb3 hd31 hd32 HO hcv
  have hW45 : (w3.alloc (Obj.cells #[.pointer (some ⟨g, 0, none⟩)] 119)).alloc (Obj.cells #[.pointer (some ⟨w3.heap.size, 0, none⟩)] 115) = W5 := by rw [hW5, hW4]
  clear hW4 hW5 hz4
  go_upto_region 2 with fail
  clear hW45
  go_wp2_with fail
  refine HNX.out.mono ?_
  rintro e w6 ⟨rfl, hr6, hg6⟩
  have hA7 := below_boxV w6 (Obj.cells #[.int .u8 k, .string ⟨#[]⟩, .int .u64 0, .int .u32 0, .string ⟨#[]⟩, .string ⟨#[]⟩, .slice none 0 0, .slice none 0 0] 29)
  have hDE : DE w (w3.heap.size + 1) w3.heap.size g d w6.heap.size ⟨k, ⟨#[]⟩, 0, 0, ⟨#[]⟩, ⟨#[]⟩, none, 0, [], none, 0, []⟩ s0 (w6.alloc (Obj.cells #[.int .u8 k, .string ⟨#[]⟩, .int .u64 0, .int .u32 0, .string ⟨#[]⟩, .string ⟨#[]⟩, .slice none 0 0, .slice none 0 0] 29)) := by
   obtain ⟨q1, q2, q3, q4, q5, q6⟩ := HD5.out
   have hz6 := hg6.size
   have hne : ∀ j, j ≠ g → j < W5.heap.size → (w6.alloc (Obj.cells #[.int .u8 k, .string ⟨#[]⟩, .int .u64 0, .int .u32 0, .string ⟨#[]⟩, .string ⟨#[]⟩, .slice none 0 0, .slice none 0 0] 29)).heap[j]? = W5.heap[j]? := fun j hj hl => (hA7.block j (by omega)).trans (hg6.block j hl (fun e => hj (Option.some.inj e)))
   exact ⟨(hne _ (by omega) (by omega)).trans q1, BoxE.new (x := ⟨k, ⟨#[]⟩, 0, 0, ⟨#[]⟩, ⟨#[]⟩, none, 0, [], none, 0, []⟩) w6, (hne _ (by omega) (by omega)).trans q2, (hne _ (by omega) (by omega)).trans q3, hr6.below hA7, (q4.grown hg6 q4.size (fun j hj => by cases hj; omega)).trans (hA7.mono (by have := q4.size; omega)), by omega, by omega, by omega, by omega, by omega, ⟨by omega, by omega, by omega⟩, ⟨by omega, by omega, by omega⟩, by simp; omega⟩
  have HZ3 := Lib.hid (And.intro hz3 hsz1)
  clear hA7 hr6 hg6 HD5 HNX hz5 hz3 hglt p5 v5 hg3 hsz1
  have e0 := hDE.box.cells.1.1
  simp only [] at e0
  go_wp2_with fail
  refine (HF.out _).mono ?_
  rintro e w11 ⟨rfl, rfl⟩
  clear e0
  go_wp2_with fail
  refine (HQN.out _).mono ?_
  rintro e w11 ⟨rfl, rfl⟩
  have v5 := hDE.rx.v
  have p5 := hDE.rx.p
  go_wp2_with fail
  refine (HNM.out _ _ _ _ hDE.rx.e).mono ?_
  rintro e wA ⟨rfl, hrA, hgA⟩
  have hDE := hDE.read hgA hrA
  clear v5 p5
  have c1 := hDE.box.cells.1.2.1
  have f1 := hDE.box.fr 1
  have hDE := hDE.set 1 (.string nm) (hDE.box.name nm)
  simp only [] at c1 hDE
  clear hrA hgA
  go_wp2_with fail
  refine (HQU.out _).mono ?_
  rintro e w11 ⟨rfl, rfl⟩
  clear c1 f1
  go_wp2_with fail
  refine (HQX.out _).mono ?_
  rintro e w11 ⟨rfl, rfl⟩
  go_wp2_with fail
  refine (HQW.out _).mono ?_
  rintro e w11 ⟨rfl, rfl⟩
  have hbox := hDE.box.cells
  simp only [] at hbox
  obtain ⟨⟨b0, b1, b2⟩, ⟨b3, b4, b5⟩, b6, b7⟩ := hbox
  obtain ⟨⟨⟨z0, z1, z2, z3⟩, ⟨z4, z5, z6, z7⟩⟩, ⟨⟨f0, f1, f2, f3⟩, ⟨f4, f5, f6, f7⟩⟩⟩ := ent_zero hDE.res
  have h8 := set8_row (.int .u8 k) (.string nm) (.int .u64 0) (.int .u32 0) (.string ⟨#[]⟩) (.string ⟨#[]⟩) (.slice none 0 0) (.slice none 0 0) hDE.res
  have h8b := set8_below hDE.bel (Nat.le_refl w.heap.size) (.int .u8 k) (.string nm) (.int .u64 0) (.int .u32 0) (.string ⟨#[]⟩) (.string ⟨#[]⟩) (.slice none 0 0) (.slice none 0 0)
  unfold set8 at h8 h8b
  have H8 := Lib.hid (And.intro h8 (And.intro h8b trivial))
  clear h8 h8b hDE
  go_wp2_with fail
  refine bodyPost_ret (results_cell_row rfl _ _ w.heap.size 29 _ (0, 0) _ rfl H8.out.1 Tryz.underlying29 rfl (by kernel_rfl)) rfl ⟨⟨k, nm, 0, 0, ⟨#[]⟩, ⟨#[]⟩, none, 0, [], none, 0, []⟩, rfl, ?_, ⟨HK.out, HZ.out.1, HZ.out.2.1, HZ.out.2.2.1, HZ.out.2.2.2.1, HZ.out.2.2.2.2, ?_, ?_⟩, ?_, H8.out.2.1⟩
  ·rfl
  ·exact RowP.nil _
  ·exact RowR.nil _
  ·intro j hj
   exact absurd hj (by simp)
 ·obtain ⟨hu1, hu2, hu3, hu4⟩ := hs
  rw [hu1] at HQN
  rw [hu2] at HQU
  rw [hu3] at HQX
  rw [hu4] at HQW
  obtain ⟨rfl, rfl⟩ := name_not hb hu1
  have l1 := l0
  have hnz : ByteArray.size ⟨#[]⟩ ≤ 140737488351232 := by decide
  obtain ⟨rfl, rfl⟩ := nr_not hc hu2
  have l2 := l1
  have hnl : (0 : Nat) < 18446744073709551616 := by decide
  obtain ⟨rfl, rfl, rfl, rfl⟩ := x_not hd hu3
  have l3 := l2
  have hxl : (0 : Nat) < 4294967296 ∧ ByteArray.size ⟨#[]⟩ ≤ 140737488351232 ∧ ByteArray.size ⟨#[]⟩ ≤ 140737488351232 := by decide
  unfold psS at hp
  rw [if_pos hu4] at hp
  unfold tsS at ht
  rw [if_pos hu4] at ht
  have l4 : lenS s4 ≤ 140737488351232 := by have := Nat.le_trans (lenS_list _ (lenS_put 40 8192 4096) (numS 1 s0).1 (numS 1 s0).2) (lenS_num 1 s0); rw [← hp] at this; exact Nat.le_trans this l3
  have HPS := Lib.hid (fun q b g d w' (hr : RdX q b g d s0 w') => decPuts_any q b g d s0 w' hr l3)
  unfold PutsSaid at HPS
  rw [← hp] at HPS
  simp only [] at HPS
  have HTS := Lib.hid (fun q b g d w' (hr : RdX q b g d s4 w') => decRefs_any q b g d s4 w' hr l4)
  unfold RefsSaid at HTS
  rw [← ht] at HTS
  simp only [] at HTS
  have hgot : ∀ e ∈ ps, cntT e.p.app ≤ 1000000 := by have := list_got 40 8192 4096 false (numS 1 s0).1 (numS 1 s0).2; rw [← hp] at this; exact this
  have HZ := Lib.hid (And.intro hnz (And.intro hnl hxl))
  clear hb hc hd hp ht hu1 hu2 hu3 hu4 l0 l1 l2 l3 hnz hnl hxl l4
  go_enter Tryz.func36, Tryz.ntmps36
  go_wp2_with fail
  refine HO.out.mono ?_
  rintro e w3 ⟨g, d, rfl, hr3, hg3, ⟨hd31, hd32⟩, hb3⟩
  have hA4 := below_boxV w3 (Obj.cells #[.pointer (some ⟨g, 0, none⟩)] 119)
  obtain ⟨W4, hW4⟩ : ∃ W4, W4 = w3.alloc (Obj.cells #[.pointer (some ⟨g, 0, none⟩)] 119) := ⟨_, rfl⟩
  have hrd4 : BoxRd W4 w3.heap.size g := by rw [hW4]; exact heap_alloc_new _ _
  rw [← hW4] at hA4
  have hz4 : W4.heap.size = w3.heap.size + 1 := by rw [hW4]; simp
  have hA5 := below_boxV W4 (Obj.cells #[.pointer (some ⟨w3.heap.size, 0, none⟩)] 115)
  obtain ⟨W5, hW5⟩ : ∃ W5, W5 = W4.alloc (Obj.cells #[.pointer (some ⟨w3.heap.size, 0, none⟩)] 115) := ⟨_, rfl⟩
  have hv5 : W5.heap[w3.heap.size + 1]? = some (.cells #[.pointer (some ⟨w3.heap.size, 0, none⟩)] 115 (0, 0)) := by rw [hW5, ← hz4]; exact heap_alloc_new _ _
  rw [← hW5] at hA5
  have hz5 : W5.heap.size = w3.heap.size + 1 + 1 := by rw [hW5]; simp [hz4]
  have hrd5 : BoxRd W5 w3.heap.size g := (hA5.block _ (by omega)).trans hrd4
  have hr5 := (hr3.below hA4).below hA5
  have hglt := hr3.lt
  have hb05 := ((HB01.out.trans (hb3.mono HB01.out.size)).trans (hA4.mono (by have := HB01.out.size; have := hb3.size; omega))).trans (hA5.mono (by have := HB01.out.size; have := hb3.size; omega))
  have hres5 : W5.heap[w.heap.size]? = some zEnt := (hA5.block _ (by have := hb3.size; omega)).trans ((hA4.block _ (by have := hb3.size; omega)).trans ((hb3.block _ (by omega)).trans HRES.out))
  have HNX := Lib.hid (HN1.out g d W5 hr5)
  have p5 := hrd5.c
  have v5 := cell_of_row W5 (w3.heap.size + 1) 0 _ 115 (0, 0) hv5
  have HD5 := Lib.hid (And.intro hres5 (And.intro hrd5 (And.intro hv5 (And.intro hb05 (And.intro hd32 hd31)))))
  have hz3 := hb3.size
  have HCV := Lib.hid hcv
  clear hA4 hA5 hrd4 hv5 hrd5 hr5 hr3 hb05 hres5 hb3 hd31 hd32 HO hcv
  have hW45 : (w3.alloc (Obj.cells #[.pointer (some ⟨g, 0, none⟩)] 119)).alloc (Obj.cells #[.pointer (some ⟨w3.heap.size, 0, none⟩)] 115) = W5 := by rw [hW5, hW4]
  clear hW4 hW5 hz4
  go_upto_region 2 with fail
  clear hW45
  go_wp2_with fail
  refine HNX.out.mono ?_
  rintro e w6 ⟨rfl, hr6, hg6⟩
  have hA7 := below_boxV w6 (Obj.cells #[.int .u8 k, .string ⟨#[]⟩, .int .u64 0, .int .u32 0, .string ⟨#[]⟩, .string ⟨#[]⟩, .slice none 0 0, .slice none 0 0] 29)
  have hDE : DE w (w3.heap.size + 1) w3.heap.size g d w6.heap.size ⟨k, ⟨#[]⟩, 0, 0, ⟨#[]⟩, ⟨#[]⟩, none, 0, [], none, 0, []⟩ s0 (w6.alloc (Obj.cells #[.int .u8 k, .string ⟨#[]⟩, .int .u64 0, .int .u32 0, .string ⟨#[]⟩, .string ⟨#[]⟩, .slice none 0 0, .slice none 0 0] 29)) := by
   obtain ⟨q1, q2, q3, q4, q5, q6⟩ := HD5.out
   have hz6 := hg6.size
   have hne : ∀ j, j ≠ g → j < W5.heap.size → (w6.alloc (Obj.cells #[.int .u8 k, .string ⟨#[]⟩, .int .u64 0, .int .u32 0, .string ⟨#[]⟩, .string ⟨#[]⟩, .slice none 0 0, .slice none 0 0] 29)).heap[j]? = W5.heap[j]? := fun j hj hl => (hA7.block j (by omega)).trans (hg6.block j hl (fun e => hj (Option.some.inj e)))
   exact ⟨(hne _ (by omega) (by omega)).trans q1, BoxE.new (x := ⟨k, ⟨#[]⟩, 0, 0, ⟨#[]⟩, ⟨#[]⟩, none, 0, [], none, 0, []⟩) w6, (hne _ (by omega) (by omega)).trans q2, (hne _ (by omega) (by omega)).trans q3, hr6.below hA7, (q4.grown hg6 q4.size (fun j hj => by cases hj; omega)).trans (hA7.mono (by have := q4.size; omega)), by omega, by omega, by omega, by omega, by omega, ⟨by omega, by omega, by omega⟩, ⟨by omega, by omega, by omega⟩, by simp; omega⟩
  have HZ3 := Lib.hid (And.intro hz3 hsz1)
  clear hA7 hr6 hg6 HD5 HNX hz5 hz3 hglt p5 v5 hg3 hsz1
  have e0 := hDE.box.cells.1.1
  simp only [] at e0
  go_wp2_with fail
  refine (HF.out _).mono ?_
  rintro e w11 ⟨rfl, rfl⟩
  clear e0
  go_wp2_with fail
  refine (HQN.out _).mono ?_
  rintro e w11 ⟨rfl, rfl⟩
  go_wp2_with fail
  refine (HQU.out _).mono ?_
  rintro e w11 ⟨rfl, rfl⟩
  go_wp2_with fail
  refine (HQX.out _).mono ?_
  rintro e w11 ⟨rfl, rfl⟩
  go_wp2_with fail
  refine (HQW.out _).mono ?_
  rintro e w11 ⟨rfl, rfl⟩
  have v5 := hDE.rx.v
  have p5 := hDE.rx.p
  have hsV := hDE.box.lt
  have hgV := hDE.rs.lt
  go_wp2_with fail
  refine (HPS.out _ _ _ _ _ hDE.rx).mono ?_
  rintro e wD ⟨AD, cD, csD, rfl, hrow, hcs, hrD, hgD⟩
  have hbV := hDE.bel.size
  have hDE := hDE.read hgD hrD
  clear v5 p5
  have c6 := hDE.box.cells.2.2.1
  have f6 := hDE.box.fr 6
  have hDE := hDE.set 6 (.slice AD csD.length cD) (hDE.box.sps AD cD csD)
  have hrow := hrow.sub (low_set hsV 6 (.slice AD csD.length cD))
  simp only [] at c6 hDE
  have HROW := Lib.hid hrow
  have hVD := hgD.size
  clear hrD hgD hrow
  go_upto_region 12 with fail
  clear c6 f6
  have v5 := hDE.rx.v
  have p5 := hDE.rx.p
  have hsE := hDE.box.lt
  go_wp2_with fail
  refine (HTS.out _ _ _ _ _ hDE.rx).mono ?_
  rintro e wF ⟨AF, cF, rsF, rfl, hrowF, hrs, hrF, hgF⟩
  have hbF := hDE.bel.size
  have hDE := hDE.read hgF hrF
  clear v5 p5
  have c7 := hDE.box.cells.2.2.2
  have f7 := hDE.box.fr 7
  have hDE := hDE.set 7 (.slice AF rsF.length cF) (hDE.box.sts AF cF rsF)
  simp only [] at c7 hDE
  have hrow := (HROW.out.sub (low_sub hgF.size fun j hj hjw => hgF.block j hjw (fun e => by have := Option.some.inj e; omega))).sub (low_set hsV 7 (.slice AF rsF.length cF))
  have hrowF := hrowF.sub (low_set hsE 7 (.slice AF rsF.length cF))
  have HROW := Lib.hid (And.intro hrow hrowF)
  have HEQ := Lib.hid (And.intro hcs hrs)
  have HSV := Lib.hid (And.intro hbV (And.intro hbF (And.intro hsV hsE)))
  clear hrF hgF hrow hrowF hcs hrs HPS HTS hbV hbF hsV hsE hgV hVD
  go_upto_region 13 with fail
  clear c7 f7
  have hbox := hDE.box.cells
  simp only [] at hbox
  obtain ⟨⟨b0, b1, b2⟩, ⟨b3, b4, b5⟩, b6, b7⟩ := hbox
  obtain ⟨⟨⟨z0, z1, z2, z3⟩, ⟨z4, z5, z6, z7⟩⟩, ⟨⟨f0, f1, f2, f3⟩, ⟨f4, f5, f6, f7⟩⟩⟩ := ent_zero hDE.res
  have h8 := set8_row (.int .u8 k) (.string ⟨#[]⟩) (.int .u64 0) (.int .u32 0) (.string ⟨#[]⟩) (.string ⟨#[]⟩) (.slice AD csD.length cD) (.slice AF rsF.length cF) hDE.res
  have h8b := set8_below hDE.bel (Nat.le_refl w.heap.size) (.int .u8 k) (.string ⟨#[]⟩) (.int .u64 0) (.int .u32 0) (.string ⟨#[]⟩) (.string ⟨#[]⟩) (.slice AD csD.length cD) (.slice AF rsF.length cF)
  have h8p := (HROW.out.1.sub (set8_sub _ w.heap.size (by have := HSV.out; have := hDE.wb; have := hDE.bq; have := hDE.qE; omega) (.int .u8 k) (.string ⟨#[]⟩) (.int .u64 0) (.int .u32 0) (.string ⟨#[]⟩) (.string ⟨#[]⟩) (.slice AD csD.length cD) (.slice AF rsF.length cF))).sub (low_anti HSV.out.1)
  have h8r := (HROW.out.2.sub (set8_sub _ w.heap.size (by have := HSV.out; have := hDE.wb; have := hDE.bq; have := hDE.qE; omega) (.int .u8 k) (.string ⟨#[]⟩) (.int .u64 0) (.int .u32 0) (.string ⟨#[]⟩) (.string ⟨#[]⟩) (.slice AD csD.length cD) (.slice AF rsF.length cF))).sub (low_anti HSV.out.2.1)
  unfold set8 at h8 h8b h8p h8r
  have H8 := Lib.hid (And.intro h8 (And.intro h8b (And.intro h8p h8r)))
  clear h8 h8b h8p h8r hDE
  go_wp2_with fail
  refine bodyPost_ret (results_cell_row rfl _ _ w.heap.size 29 _ (0, 0) _ rfl H8.out.1 Tryz.underlying29 rfl (by kernel_rfl)) rfl ⟨⟨k, ⟨#[]⟩, 0, 0, ⟨#[]⟩, ⟨#[]⟩, AD, cD, csD, AF, cF, rsF⟩, rfl, ?_, ⟨HK.out, HZ.out.1, HZ.out.2.1, HZ.out.2.2.1, HZ.out.2.2.2.1, HZ.out.2.2.2.2, ?_, ?_⟩, ?_, H8.out.2.1⟩
  ·show EntE.mk _ _ _ _ _ _ (esOf csD) rsF = _
   rw [HEQ.out.1, HEQ.out.2]
  ·exact H8.out.2.2.1
  ·exact H8.out.2.2.2
  ·intro j hj
   refine hgot _ ?_
   rw [← HEQ.out.1]
   exact List.mem_map.2 ⟨_, List.getElem_mem hj, rfl⟩
 ·obtain ⟨hu1, hu2, hu3, hu4⟩ := hs
  rw [hu1] at HQN
  rw [hu2] at HQU
  rw [hu3] at HQX
  rw [hu4] at HQW
  obtain ⟨rfl, rfl⟩ := name_not hb hu1
  have l1 := l0
  have hnz : ByteArray.size ⟨#[]⟩ ≤ 140737488351232 := by decide
  obtain ⟨rfl, rfl⟩ := nr_not hc hu2
  have l2 := l1
  have hnl : (0 : Nat) < 18446744073709551616 := by decide
  have hxx := x_yes hd hu3
  have l3 : lenS s3 ≤ 140737488351232 := by have := lenS_xid s0; rw [← hxx] at this; exact Nat.le_trans this l2
  have HXX := Lib.hid (fun b g d w' (hr : RS w' g d s0) (hbx : BoxRd w' b g) (hgb : g ≠ b) => exid_any b g d s0 w' hr hbx hgb (by omega))
  unfold XSaid at HXX
  rw [← hxx] at HXX
  unfold xidV at HXX
  simp only [] at HXX
  have hxl : xf < 4294967296 ∧ xg.size ≤ 140737488351232 ∧ xh.size ≤ 140737488351232 := xid_sizes hxx l2
  clear hxx
  unfold psS at hp
  rw [if_pos hu4] at hp
  unfold tsS at ht
  rw [if_pos hu4] at ht
  have l4 : lenS s4 ≤ 140737488351232 := by have := Nat.le_trans (lenS_list _ (lenS_put 40 8192 4096) (numS 1 s3).1 (numS 1 s3).2) (lenS_num 1 s3); rw [← hp] at this; exact Nat.le_trans this l3
  have HPS := Lib.hid (fun q b g d w' (hr : RdX q b g d s3 w') => decPuts_any q b g d s3 w' hr l3)
  unfold PutsSaid at HPS
  rw [← hp] at HPS
  simp only [] at HPS
  have HTS := Lib.hid (fun q b g d w' (hr : RdX q b g d s4 w') => decRefs_any q b g d s4 w' hr l4)
  unfold RefsSaid at HTS
  rw [← ht] at HTS
  simp only [] at HTS
  have hgot : ∀ e ∈ ps, cntT e.p.app ≤ 1000000 := by have := list_got 40 8192 4096 false (numS 1 s3).1 (numS 1 s3).2; rw [← hp] at this; exact this
  have HZ := Lib.hid (And.intro hnz (And.intro hnl hxl))
  clear hb hc hd hp ht hu1 hu2 hu3 hu4 l0 l1 l2 l3 hnz hnl hxl l4
  go_enter Tryz.func36, Tryz.ntmps36
  go_wp2_with fail
  refine HO.out.mono ?_
  rintro e w3 ⟨g, d, rfl, hr3, hg3, ⟨hd31, hd32⟩, hb3⟩
  have hA4 := below_boxV w3 (Obj.cells #[.pointer (some ⟨g, 0, none⟩)] 119)
  obtain ⟨W4, hW4⟩ : ∃ W4, W4 = w3.alloc (Obj.cells #[.pointer (some ⟨g, 0, none⟩)] 119) := ⟨_, rfl⟩
  have hrd4 : BoxRd W4 w3.heap.size g := by rw [hW4]; exact heap_alloc_new _ _
  rw [← hW4] at hA4
  have hz4 : W4.heap.size = w3.heap.size + 1 := by rw [hW4]; simp
  have hA5 := below_boxV W4 (Obj.cells #[.pointer (some ⟨w3.heap.size, 0, none⟩)] 115)
  obtain ⟨W5, hW5⟩ : ∃ W5, W5 = W4.alloc (Obj.cells #[.pointer (some ⟨w3.heap.size, 0, none⟩)] 115) := ⟨_, rfl⟩
  have hv5 : W5.heap[w3.heap.size + 1]? = some (.cells #[.pointer (some ⟨w3.heap.size, 0, none⟩)] 115 (0, 0)) := by rw [hW5, ← hz4]; exact heap_alloc_new _ _
  rw [← hW5] at hA5
  have hz5 : W5.heap.size = w3.heap.size + 1 + 1 := by rw [hW5]; simp [hz4]
  have hrd5 : BoxRd W5 w3.heap.size g := (hA5.block _ (by omega)).trans hrd4
  have hr5 := (hr3.below hA4).below hA5
  have hglt := hr3.lt
  have hb05 := ((HB01.out.trans (hb3.mono HB01.out.size)).trans (hA4.mono (by have := HB01.out.size; have := hb3.size; omega))).trans (hA5.mono (by have := HB01.out.size; have := hb3.size; omega))
  have hres5 : W5.heap[w.heap.size]? = some zEnt := (hA5.block _ (by have := hb3.size; omega)).trans ((hA4.block _ (by have := hb3.size; omega)).trans ((hb3.block _ (by omega)).trans HRES.out))
  have HNX := Lib.hid (HN1.out g d W5 hr5)
  have p5 := hrd5.c
  have v5 := cell_of_row W5 (w3.heap.size + 1) 0 _ 115 (0, 0) hv5
  have HD5 := Lib.hid (And.intro hres5 (And.intro hrd5 (And.intro hv5 (And.intro hb05 (And.intro hd32 hd31)))))
  have hz3 := hb3.size
  have HCV := Lib.hid hcv
  clear hA4 hA5 hrd4 hv5 hrd5 hr5 hr3 hb05 hres5 hb3 hd31 hd32 HO hcv
  have hW45 : (w3.alloc (Obj.cells #[.pointer (some ⟨g, 0, none⟩)] 119)).alloc (Obj.cells #[.pointer (some ⟨w3.heap.size, 0, none⟩)] 115) = W5 := by rw [hW5, hW4]
  clear hW4 hW5 hz4
  go_upto_region 2 with fail
  clear hW45
  go_wp2_with fail
  refine HNX.out.mono ?_
  rintro e w6 ⟨rfl, hr6, hg6⟩
  have hA7 := below_boxV w6 (Obj.cells #[.int .u8 k, .string ⟨#[]⟩, .int .u64 0, .int .u32 0, .string ⟨#[]⟩, .string ⟨#[]⟩, .slice none 0 0, .slice none 0 0] 29)
  have hDE : DE w (w3.heap.size + 1) w3.heap.size g d w6.heap.size ⟨k, ⟨#[]⟩, 0, 0, ⟨#[]⟩, ⟨#[]⟩, none, 0, [], none, 0, []⟩ s0 (w6.alloc (Obj.cells #[.int .u8 k, .string ⟨#[]⟩, .int .u64 0, .int .u32 0, .string ⟨#[]⟩, .string ⟨#[]⟩, .slice none 0 0, .slice none 0 0] 29)) := by
   obtain ⟨q1, q2, q3, q4, q5, q6⟩ := HD5.out
   have hz6 := hg6.size
   have hne : ∀ j, j ≠ g → j < W5.heap.size → (w6.alloc (Obj.cells #[.int .u8 k, .string ⟨#[]⟩, .int .u64 0, .int .u32 0, .string ⟨#[]⟩, .string ⟨#[]⟩, .slice none 0 0, .slice none 0 0] 29)).heap[j]? = W5.heap[j]? := fun j hj hl => (hA7.block j (by omega)).trans (hg6.block j hl (fun e => hj (Option.some.inj e)))
   exact ⟨(hne _ (by omega) (by omega)).trans q1, BoxE.new (x := ⟨k, ⟨#[]⟩, 0, 0, ⟨#[]⟩, ⟨#[]⟩, none, 0, [], none, 0, []⟩) w6, (hne _ (by omega) (by omega)).trans q2, (hne _ (by omega) (by omega)).trans q3, hr6.below hA7, (q4.grown hg6 q4.size (fun j hj => by cases hj; omega)).trans (hA7.mono (by have := q4.size; omega)), by omega, by omega, by omega, by omega, by omega, ⟨by omega, by omega, by omega⟩, ⟨by omega, by omega, by omega⟩, by simp; omega⟩
  have HZ3 := Lib.hid (And.intro hz3 hsz1)
  clear hA7 hr6 hg6 HD5 HNX hz5 hz3 hglt p5 v5 hg3 hsz1
  have e0 := hDE.box.cells.1.1
  simp only [] at e0
  go_wp2_with fail
  refine (HF.out _).mono ?_
  rintro e w11 ⟨rfl, rfl⟩
  clear e0
  go_wp2_with fail
  refine (HQN.out _).mono ?_
  rintro e w11 ⟨rfl, rfl⟩
  go_wp2_with fail
  refine (HQU.out _).mono ?_
  rintro e w11 ⟨rfl, rfl⟩
  go_wp2_with fail
  refine (HQX.out _).mono ?_
  rintro e w11 ⟨rfl, rfl⟩
  have v5 := hDE.rx.v
  have p5 := hDE.rx.p
  go_wp2_with fail
  refine (HXX.out _ _ _ _ hDE.rs hDE.rd hDE.gn.1).mono ?_
  rintro e wC ⟨g2, d2, rfl, hbC, hrC, hC1, hC2, hC3, hfC⟩
  have hDE := hDE.xid hbC hrC hC1 hC2 (by have := hrC.lt; omega) hfC
  clear v5 p5
  obtain ⟨⟨_, _, _⟩, ⟨c3, c4, c5⟩, _⟩ := hDE.box.cells
  have f3 := hDE.box.fr 3
  have f4 := hDE.box.fr 4
  have f5 := hDE.box.fr 5
  have hDE := hDE.set 3 (.int .u32 xf) (hDE.box.sxf xf)
  have hDE := hDE.set 4 (.string xg) (hDE.box.sxg xg)
  have hDE := hDE.set 5 (.string xh) (hDE.box.sxh xh)
  simp only [] at c3 c4 c5 hDE
  clear hrC hbC hC1 hC2 hC3 hfC
  go_wp2_with fail
  refine (HQW.out _).mono ?_
  rintro e w11 ⟨rfl, rfl⟩
  clear c3 c4 c5 f3 f4 f5
  have v5 := hDE.rx.v
  have p5 := hDE.rx.p
  have hsV := hDE.box.lt
  have hgV := hDE.rs.lt
  go_wp2_with fail
  refine (HPS.out _ _ _ _ _ hDE.rx).mono ?_
  rintro e wD ⟨AD, cD, csD, rfl, hrow, hcs, hrD, hgD⟩
  have hbV := hDE.bel.size
  have hDE := hDE.read hgD hrD
  clear v5 p5
  have c6 := hDE.box.cells.2.2.1
  have f6 := hDE.box.fr 6
  have hDE := hDE.set 6 (.slice AD csD.length cD) (hDE.box.sps AD cD csD)
  have hrow := hrow.sub (low_set hsV 6 (.slice AD csD.length cD))
  simp only [] at c6 hDE
  have HROW := Lib.hid hrow
  have hVD := hgD.size
  clear hrD hgD hrow
  go_upto_region 12 with fail
  clear c6 f6
  have v5 := hDE.rx.v
  have p5 := hDE.rx.p
  have hsE := hDE.box.lt
  go_wp2_with fail
  refine (HTS.out _ _ _ _ _ hDE.rx).mono ?_
  rintro e wF ⟨AF, cF, rsF, rfl, hrowF, hrs, hrF, hgF⟩
  have hbF := hDE.bel.size
  have hDE := hDE.read hgF hrF
  clear v5 p5
  have c7 := hDE.box.cells.2.2.2
  have f7 := hDE.box.fr 7
  have hDE := hDE.set 7 (.slice AF rsF.length cF) (hDE.box.sts AF cF rsF)
  simp only [] at c7 hDE
  have hrow := (HROW.out.sub (low_sub hgF.size fun j hj hjw => hgF.block j hjw (fun e => by have := Option.some.inj e; omega))).sub (low_set hsV 7 (.slice AF rsF.length cF))
  have hrowF := hrowF.sub (low_set hsE 7 (.slice AF rsF.length cF))
  have HROW := Lib.hid (And.intro hrow hrowF)
  have HEQ := Lib.hid (And.intro hcs hrs)
  have HSV := Lib.hid (And.intro hbV (And.intro hbF (And.intro hsV hsE)))
  clear hrF hgF hrow hrowF hcs hrs HPS HTS hbV hbF hsV hsE hgV hVD
  go_upto_region 13 with fail
  clear c7 f7
  have hbox := hDE.box.cells
  simp only [] at hbox
  obtain ⟨⟨b0, b1, b2⟩, ⟨b3, b4, b5⟩, b6, b7⟩ := hbox
  obtain ⟨⟨⟨z0, z1, z2, z3⟩, ⟨z4, z5, z6, z7⟩⟩, ⟨⟨f0, f1, f2, f3⟩, ⟨f4, f5, f6, f7⟩⟩⟩ := ent_zero hDE.res
  have h8 := set8_row (.int .u8 k) (.string ⟨#[]⟩) (.int .u64 0) (.int .u32 xf) (.string xg) (.string xh) (.slice AD csD.length cD) (.slice AF rsF.length cF) hDE.res
  have h8b := set8_below hDE.bel (Nat.le_refl w.heap.size) (.int .u8 k) (.string ⟨#[]⟩) (.int .u64 0) (.int .u32 xf) (.string xg) (.string xh) (.slice AD csD.length cD) (.slice AF rsF.length cF)
  have h8p := (HROW.out.1.sub (set8_sub _ w.heap.size (by have := HSV.out; have := hDE.wb; have := hDE.bq; have := hDE.qE; omega) (.int .u8 k) (.string ⟨#[]⟩) (.int .u64 0) (.int .u32 xf) (.string xg) (.string xh) (.slice AD csD.length cD) (.slice AF rsF.length cF))).sub (low_anti HSV.out.1)
  have h8r := (HROW.out.2.sub (set8_sub _ w.heap.size (by have := HSV.out; have := hDE.wb; have := hDE.bq; have := hDE.qE; omega) (.int .u8 k) (.string ⟨#[]⟩) (.int .u64 0) (.int .u32 xf) (.string xg) (.string xh) (.slice AD csD.length cD) (.slice AF rsF.length cF))).sub (low_anti HSV.out.2.1)
  unfold set8 at h8 h8b h8p h8r
  have H8 := Lib.hid (And.intro h8 (And.intro h8b (And.intro h8p h8r)))
  clear h8 h8b h8p h8r hDE
  go_wp2_with fail
  refine bodyPost_ret (results_cell_row rfl _ _ w.heap.size 29 _ (0, 0) _ rfl H8.out.1 Tryz.underlying29 rfl (by kernel_rfl)) rfl ⟨⟨k, ⟨#[]⟩, 0, xf, xg, xh, AD, cD, csD, AF, cF, rsF⟩, rfl, ?_, ⟨HK.out, HZ.out.1, HZ.out.2.1, HZ.out.2.2.1, HZ.out.2.2.2.1, HZ.out.2.2.2.2, ?_, ?_⟩, ?_, H8.out.2.1⟩
  ·show EntE.mk _ _ _ _ _ _ (esOf csD) rsF = _
   rw [HEQ.out.1, HEQ.out.2]
  ·exact H8.out.2.2.1
  ·exact H8.out.2.2.2
  ·intro j hj
   refine hgot _ ?_
   rw [← HEQ.out.1]
   exact List.mem_map.2 ⟨_, List.getElem_mem hj, rfl⟩
 ·obtain ⟨hu1, hu2, hu3, hu4⟩ := hs
  rw [hu1] at HQN
  rw [hu2] at HQU
  rw [hu3] at HQX
  rw [hu4] at HQW
  obtain ⟨rfl, rfl⟩ := name_not hb hu1
  have l1 := l0
  have hnz : ByteArray.size ⟨#[]⟩ ≤ 140737488351232 := by decide
  obtain ⟨hnn, hs2'⟩ := nr_yes hc hu2
  have l2 : lenS s2 ≤ 140737488351232 := by rw [hs2']; exact Nat.le_trans (lenS_num _ _) l1
  have HNN := Lib.hid (fun g d w' (hr : RS w' g d s0) => num_any g d s0 8 w' hr (by omega))
  rw [← hnn, ← hs2'] at HNN
  have hnl : n < 18446744073709551616 := by rw [hnn]; exact numS_lt 8 _
  clear hnn hs2'
  have hxx := x_yes hd hu3
  have l3 : lenS s3 ≤ 140737488351232 := by have := lenS_xid s2; rw [← hxx] at this; exact Nat.le_trans this l2
  have HXX := Lib.hid (fun b g d w' (hr : RS w' g d s2) (hbx : BoxRd w' b g) (hgb : g ≠ b) => exid_any b g d s2 w' hr hbx hgb (by omega))
  unfold XSaid at HXX
  rw [← hxx] at HXX
  unfold xidV at HXX
  simp only [] at HXX
  have hxl : xf < 4294967296 ∧ xg.size ≤ 140737488351232 ∧ xh.size ≤ 140737488351232 := xid_sizes hxx l2
  clear hxx
  unfold psS at hp
  rw [if_neg (by rw [hu4]; decide)] at hp
  unfold tsS at ht
  rw [if_neg (by rw [hu4]; decide)] at ht
  obtain ⟨rfl, rfl⟩ : ps = [] ∧ s3 = s4 := ⟨congrArg Prod.fst hp, (congrArg Prod.snd hp).symm⟩
  obtain ⟨rfl, rfl⟩ : ts = [] ∧ s3 = s5 := ⟨congrArg Prod.fst ht, (congrArg Prod.snd ht).symm⟩
  have HZ := Lib.hid (And.intro hnz (And.intro hnl hxl))
  clear hb hc hd hp ht hu1 hu2 hu3 hu4 l0 l1 l2 l3 hnz hnl hxl
  go_enter Tryz.func36, Tryz.ntmps36
  go_wp2_with fail
  refine HO.out.mono ?_
  rintro e w3 ⟨g, d, rfl, hr3, hg3, ⟨hd31, hd32⟩, hb3⟩
  have hA4 := below_boxV w3 (Obj.cells #[.pointer (some ⟨g, 0, none⟩)] 119)
  obtain ⟨W4, hW4⟩ : ∃ W4, W4 = w3.alloc (Obj.cells #[.pointer (some ⟨g, 0, none⟩)] 119) := ⟨_, rfl⟩
  have hrd4 : BoxRd W4 w3.heap.size g := by rw [hW4]; exact heap_alloc_new _ _
  rw [← hW4] at hA4
  have hz4 : W4.heap.size = w3.heap.size + 1 := by rw [hW4]; simp
  have hA5 := below_boxV W4 (Obj.cells #[.pointer (some ⟨w3.heap.size, 0, none⟩)] 115)
  obtain ⟨W5, hW5⟩ : ∃ W5, W5 = W4.alloc (Obj.cells #[.pointer (some ⟨w3.heap.size, 0, none⟩)] 115) := ⟨_, rfl⟩
  have hv5 : W5.heap[w3.heap.size + 1]? = some (.cells #[.pointer (some ⟨w3.heap.size, 0, none⟩)] 115 (0, 0)) := by rw [hW5, ← hz4]; exact heap_alloc_new _ _
  rw [← hW5] at hA5
  have hz5 : W5.heap.size = w3.heap.size + 1 + 1 := by rw [hW5]; simp [hz4]
  have hrd5 : BoxRd W5 w3.heap.size g := (hA5.block _ (by omega)).trans hrd4
  have hr5 := (hr3.below hA4).below hA5
  have hglt := hr3.lt
  have hb05 := ((HB01.out.trans (hb3.mono HB01.out.size)).trans (hA4.mono (by have := HB01.out.size; have := hb3.size; omega))).trans (hA5.mono (by have := HB01.out.size; have := hb3.size; omega))
  have hres5 : W5.heap[w.heap.size]? = some zEnt := (hA5.block _ (by have := hb3.size; omega)).trans ((hA4.block _ (by have := hb3.size; omega)).trans ((hb3.block _ (by omega)).trans HRES.out))
  have HNX := Lib.hid (HN1.out g d W5 hr5)
  have p5 := hrd5.c
  have v5 := cell_of_row W5 (w3.heap.size + 1) 0 _ 115 (0, 0) hv5
  have HD5 := Lib.hid (And.intro hres5 (And.intro hrd5 (And.intro hv5 (And.intro hb05 (And.intro hd32 hd31)))))
  have hz3 := hb3.size
  have HCV := Lib.hid hcv
  clear hA4 hA5 hrd4 hv5 hrd5 hr5 hr3 hb05 hres5 hb3 hd31 hd32 HO hcv
  have hW45 : (w3.alloc (Obj.cells #[.pointer (some ⟨g, 0, none⟩)] 119)).alloc (Obj.cells #[.pointer (some ⟨w3.heap.size, 0, none⟩)] 115) = W5 := by rw [hW5, hW4]
  clear hW4 hW5 hz4
  go_upto_region 2 with fail
  clear hW45
  go_wp2_with fail
  refine HNX.out.mono ?_
  rintro e w6 ⟨rfl, hr6, hg6⟩
  have hA7 := below_boxV w6 (Obj.cells #[.int .u8 k, .string ⟨#[]⟩, .int .u64 0, .int .u32 0, .string ⟨#[]⟩, .string ⟨#[]⟩, .slice none 0 0, .slice none 0 0] 29)
  have hDE : DE w (w3.heap.size + 1) w3.heap.size g d w6.heap.size ⟨k, ⟨#[]⟩, 0, 0, ⟨#[]⟩, ⟨#[]⟩, none, 0, [], none, 0, []⟩ s0 (w6.alloc (Obj.cells #[.int .u8 k, .string ⟨#[]⟩, .int .u64 0, .int .u32 0, .string ⟨#[]⟩, .string ⟨#[]⟩, .slice none 0 0, .slice none 0 0] 29)) := by
   obtain ⟨q1, q2, q3, q4, q5, q6⟩ := HD5.out
   have hz6 := hg6.size
   have hne : ∀ j, j ≠ g → j < W5.heap.size → (w6.alloc (Obj.cells #[.int .u8 k, .string ⟨#[]⟩, .int .u64 0, .int .u32 0, .string ⟨#[]⟩, .string ⟨#[]⟩, .slice none 0 0, .slice none 0 0] 29)).heap[j]? = W5.heap[j]? := fun j hj hl => (hA7.block j (by omega)).trans (hg6.block j hl (fun e => hj (Option.some.inj e)))
   exact ⟨(hne _ (by omega) (by omega)).trans q1, BoxE.new (x := ⟨k, ⟨#[]⟩, 0, 0, ⟨#[]⟩, ⟨#[]⟩, none, 0, [], none, 0, []⟩) w6, (hne _ (by omega) (by omega)).trans q2, (hne _ (by omega) (by omega)).trans q3, hr6.below hA7, (q4.grown hg6 q4.size (fun j hj => by cases hj; omega)).trans (hA7.mono (by have := q4.size; omega)), by omega, by omega, by omega, by omega, by omega, ⟨by omega, by omega, by omega⟩, ⟨by omega, by omega, by omega⟩, by simp; omega⟩
  have HZ3 := Lib.hid (And.intro hz3 hsz1)
  clear hA7 hr6 hg6 HD5 HNX hz5 hz3 hglt p5 v5 hg3 hsz1
  have e0 := hDE.box.cells.1.1
  simp only [] at e0
  go_wp2_with fail
  refine (HF.out _).mono ?_
  rintro e w11 ⟨rfl, rfl⟩
  clear e0
  go_wp2_with fail
  refine (HQN.out _).mono ?_
  rintro e w11 ⟨rfl, rfl⟩
  go_wp2_with fail
  refine (HQU.out _).mono ?_
  rintro e w11 ⟨rfl, rfl⟩
  have v5 := hDE.rx.v
  have p5 := hDE.rx.p
  go_wp2_with fail
  refine (HNN.out _ _ _ hDE.rs).mono ?_
  rintro e wB ⟨rfl, hrB, hgB⟩
  have hDE := hDE.read hgB hrB
  clear v5 p5
  have c2 := hDE.box.cells.1.2.2
  have f2 := hDE.box.fr 2
  have hDE := hDE.set 2 (.int .u64 n) (hDE.box.num n)
  simp only [] at c2 hDE
  clear hrB hgB
  go_wp2_with fail
  refine (HQX.out _).mono ?_
  rintro e w11 ⟨rfl, rfl⟩
  clear c2 f2
  have v5 := hDE.rx.v
  have p5 := hDE.rx.p
  go_wp2_with fail
  refine (HXX.out _ _ _ _ hDE.rs hDE.rd hDE.gn.1).mono ?_
  rintro e wC ⟨g2, d2, rfl, hbC, hrC, hC1, hC2, hC3, hfC⟩
  have hDE := hDE.xid hbC hrC hC1 hC2 (by have := hrC.lt; omega) hfC
  clear v5 p5
  obtain ⟨⟨_, _, _⟩, ⟨c3, c4, c5⟩, _⟩ := hDE.box.cells
  have f3 := hDE.box.fr 3
  have f4 := hDE.box.fr 4
  have f5 := hDE.box.fr 5
  have hDE := hDE.set 3 (.int .u32 xf) (hDE.box.sxf xf)
  have hDE := hDE.set 4 (.string xg) (hDE.box.sxg xg)
  have hDE := hDE.set 5 (.string xh) (hDE.box.sxh xh)
  simp only [] at c3 c4 c5 hDE
  clear hrC hbC hC1 hC2 hC3 hfC
  go_wp2_with fail
  refine (HQW.out _).mono ?_
  rintro e w11 ⟨rfl, rfl⟩
  clear c3 c4 c5 f3 f4 f5
  have hbox := hDE.box.cells
  simp only [] at hbox
  obtain ⟨⟨b0, b1, b2⟩, ⟨b3, b4, b5⟩, b6, b7⟩ := hbox
  obtain ⟨⟨⟨z0, z1, z2, z3⟩, ⟨z4, z5, z6, z7⟩⟩, ⟨⟨f0, f1, f2, f3⟩, ⟨f4, f5, f6, f7⟩⟩⟩ := ent_zero hDE.res
  have h8 := set8_row (.int .u8 k) (.string ⟨#[]⟩) (.int .u64 n) (.int .u32 xf) (.string xg) (.string xh) (.slice none 0 0) (.slice none 0 0) hDE.res
  have h8b := set8_below hDE.bel (Nat.le_refl w.heap.size) (.int .u8 k) (.string ⟨#[]⟩) (.int .u64 n) (.int .u32 xf) (.string xg) (.string xh) (.slice none 0 0) (.slice none 0 0)
  unfold set8 at h8 h8b
  have H8 := Lib.hid (And.intro h8 (And.intro h8b trivial))
  clear h8 h8b hDE
  go_wp2_with fail
  refine bodyPost_ret (results_cell_row rfl _ _ w.heap.size 29 _ (0, 0) _ rfl H8.out.1 Tryz.underlying29 rfl (by kernel_rfl)) rfl ⟨⟨k, ⟨#[]⟩, n, xf, xg, xh, none, 0, [], none, 0, []⟩, rfl, ?_, ⟨HK.out, HZ.out.1, HZ.out.2.1, HZ.out.2.2.1, HZ.out.2.2.2.1, HZ.out.2.2.2.2, ?_, ?_⟩, ?_, H8.out.2.1⟩
  ·rfl
  ·exact RowP.nil _
  ·exact RowR.nil _
  ·intro j hj
   exact absurd hj (by simp)
 ·obtain ⟨hu1, hu2, hu3, hu4⟩ := hs
  rw [hu1] at HQN
  rw [hu2] at HQU
  rw [hu3] at HQX
  rw [hu4] at HQW
  obtain ⟨rfl, rfl⟩ := name_not hb hu1
  have l1 := l0
  have hnz : ByteArray.size ⟨#[]⟩ ≤ 140737488351232 := by decide
  obtain ⟨rfl, rfl⟩ := nr_not hc hu2
  have l2 := l1
  have hnl : (0 : Nat) < 18446744073709551616 := by decide
  have hxx := x_yes hd hu3
  have l3 : lenS s3 ≤ 140737488351232 := by have := lenS_xid s0; rw [← hxx] at this; exact Nat.le_trans this l2
  have HXX := Lib.hid (fun b g d w' (hr : RS w' g d s0) (hbx : BoxRd w' b g) (hgb : g ≠ b) => exid_any b g d s0 w' hr hbx hgb (by omega))
  unfold XSaid at HXX
  rw [← hxx] at HXX
  unfold xidV at HXX
  simp only [] at HXX
  have hxl : xf < 4294967296 ∧ xg.size ≤ 140737488351232 ∧ xh.size ≤ 140737488351232 := xid_sizes hxx l2
  clear hxx
  unfold psS at hp
  rw [if_neg (by rw [hu4]; decide)] at hp
  unfold tsS at ht
  rw [if_neg (by rw [hu4]; decide)] at ht
  obtain ⟨rfl, rfl⟩ : ps = [] ∧ s3 = s4 := ⟨congrArg Prod.fst hp, (congrArg Prod.snd hp).symm⟩
  obtain ⟨rfl, rfl⟩ : ts = [] ∧ s3 = s5 := ⟨congrArg Prod.fst ht, (congrArg Prod.snd ht).symm⟩
  have HZ := Lib.hid (And.intro hnz (And.intro hnl hxl))
  clear hb hc hd hp ht hu1 hu2 hu3 hu4 l0 l1 l2 l3 hnz hnl hxl
  go_enter Tryz.func36, Tryz.ntmps36
  go_wp2_with fail
  refine HO.out.mono ?_
  rintro e w3 ⟨g, d, rfl, hr3, hg3, ⟨hd31, hd32⟩, hb3⟩
  have hA4 := below_boxV w3 (Obj.cells #[.pointer (some ⟨g, 0, none⟩)] 119)
  obtain ⟨W4, hW4⟩ : ∃ W4, W4 = w3.alloc (Obj.cells #[.pointer (some ⟨g, 0, none⟩)] 119) := ⟨_, rfl⟩
  have hrd4 : BoxRd W4 w3.heap.size g := by rw [hW4]; exact heap_alloc_new _ _
  rw [← hW4] at hA4
  have hz4 : W4.heap.size = w3.heap.size + 1 := by rw [hW4]; simp
  have hA5 := below_boxV W4 (Obj.cells #[.pointer (some ⟨w3.heap.size, 0, none⟩)] 115)
  obtain ⟨W5, hW5⟩ : ∃ W5, W5 = W4.alloc (Obj.cells #[.pointer (some ⟨w3.heap.size, 0, none⟩)] 115) := ⟨_, rfl⟩
  have hv5 : W5.heap[w3.heap.size + 1]? = some (.cells #[.pointer (some ⟨w3.heap.size, 0, none⟩)] 115 (0, 0)) := by rw [hW5, ← hz4]; exact heap_alloc_new _ _
  rw [← hW5] at hA5
  have hz5 : W5.heap.size = w3.heap.size + 1 + 1 := by rw [hW5]; simp [hz4]
  have hrd5 : BoxRd W5 w3.heap.size g := (hA5.block _ (by omega)).trans hrd4
  have hr5 := (hr3.below hA4).below hA5
  have hglt := hr3.lt
  have hb05 := ((HB01.out.trans (hb3.mono HB01.out.size)).trans (hA4.mono (by have := HB01.out.size; have := hb3.size; omega))).trans (hA5.mono (by have := HB01.out.size; have := hb3.size; omega))
  have hres5 : W5.heap[w.heap.size]? = some zEnt := (hA5.block _ (by have := hb3.size; omega)).trans ((hA4.block _ (by have := hb3.size; omega)).trans ((hb3.block _ (by omega)).trans HRES.out))
  have HNX := Lib.hid (HN1.out g d W5 hr5)
  have p5 := hrd5.c
  have v5 := cell_of_row W5 (w3.heap.size + 1) 0 _ 115 (0, 0) hv5
  have HD5 := Lib.hid (And.intro hres5 (And.intro hrd5 (And.intro hv5 (And.intro hb05 (And.intro hd32 hd31)))))
  have hz3 := hb3.size
  have HCV := Lib.hid hcv
  clear hA4 hA5 hrd4 hv5 hrd5 hr5 hr3 hb05 hres5 hb3 hd31 hd32 HO hcv
  have hW45 : (w3.alloc (Obj.cells #[.pointer (some ⟨g, 0, none⟩)] 119)).alloc (Obj.cells #[.pointer (some ⟨w3.heap.size, 0, none⟩)] 115) = W5 := by rw [hW5, hW4]
  clear hW4 hW5 hz4
  go_upto_region 2 with fail
  clear hW45
  go_wp2_with fail
  refine HNX.out.mono ?_
  rintro e w6 ⟨rfl, hr6, hg6⟩
  have hA7 := below_boxV w6 (Obj.cells #[.int .u8 k, .string ⟨#[]⟩, .int .u64 0, .int .u32 0, .string ⟨#[]⟩, .string ⟨#[]⟩, .slice none 0 0, .slice none 0 0] 29)
  have hDE : DE w (w3.heap.size + 1) w3.heap.size g d w6.heap.size ⟨k, ⟨#[]⟩, 0, 0, ⟨#[]⟩, ⟨#[]⟩, none, 0, [], none, 0, []⟩ s0 (w6.alloc (Obj.cells #[.int .u8 k, .string ⟨#[]⟩, .int .u64 0, .int .u32 0, .string ⟨#[]⟩, .string ⟨#[]⟩, .slice none 0 0, .slice none 0 0] 29)) := by
   obtain ⟨q1, q2, q3, q4, q5, q6⟩ := HD5.out
   have hz6 := hg6.size
   have hne : ∀ j, j ≠ g → j < W5.heap.size → (w6.alloc (Obj.cells #[.int .u8 k, .string ⟨#[]⟩, .int .u64 0, .int .u32 0, .string ⟨#[]⟩, .string ⟨#[]⟩, .slice none 0 0, .slice none 0 0] 29)).heap[j]? = W5.heap[j]? := fun j hj hl => (hA7.block j (by omega)).trans (hg6.block j hl (fun e => hj (Option.some.inj e)))
   exact ⟨(hne _ (by omega) (by omega)).trans q1, BoxE.new (x := ⟨k, ⟨#[]⟩, 0, 0, ⟨#[]⟩, ⟨#[]⟩, none, 0, [], none, 0, []⟩) w6, (hne _ (by omega) (by omega)).trans q2, (hne _ (by omega) (by omega)).trans q3, hr6.below hA7, (q4.grown hg6 q4.size (fun j hj => by cases hj; omega)).trans (hA7.mono (by have := q4.size; omega)), by omega, by omega, by omega, by omega, by omega, ⟨by omega, by omega, by omega⟩, ⟨by omega, by omega, by omega⟩, by simp; omega⟩
  have HZ3 := Lib.hid (And.intro hz3 hsz1)
  clear hA7 hr6 hg6 HD5 HNX hz5 hz3 hglt p5 v5 hg3 hsz1
  have e0 := hDE.box.cells.1.1
  simp only [] at e0
  go_wp2_with fail
  refine (HF.out _).mono ?_
  rintro e w11 ⟨rfl, rfl⟩
  clear e0
  go_wp2_with fail
  refine (HQN.out _).mono ?_
  rintro e w11 ⟨rfl, rfl⟩
  go_wp2_with fail
  refine (HQU.out _).mono ?_
  rintro e w11 ⟨rfl, rfl⟩
  go_wp2_with fail
  refine (HQX.out _).mono ?_
  rintro e w11 ⟨rfl, rfl⟩
  have v5 := hDE.rx.v
  have p5 := hDE.rx.p
  go_wp2_with fail
  refine (HXX.out _ _ _ _ hDE.rs hDE.rd hDE.gn.1).mono ?_
  rintro e wC ⟨g2, d2, rfl, hbC, hrC, hC1, hC2, hC3, hfC⟩
  have hDE := hDE.xid hbC hrC hC1 hC2 (by have := hrC.lt; omega) hfC
  clear v5 p5
  obtain ⟨⟨_, _, _⟩, ⟨c3, c4, c5⟩, _⟩ := hDE.box.cells
  have f3 := hDE.box.fr 3
  have f4 := hDE.box.fr 4
  have f5 := hDE.box.fr 5
  have hDE := hDE.set 3 (.int .u32 xf) (hDE.box.sxf xf)
  have hDE := hDE.set 4 (.string xg) (hDE.box.sxg xg)
  have hDE := hDE.set 5 (.string xh) (hDE.box.sxh xh)
  simp only [] at c3 c4 c5 hDE
  clear hrC hbC hC1 hC2 hC3 hfC
  go_wp2_with fail
  refine (HQW.out _).mono ?_
  rintro e w11 ⟨rfl, rfl⟩
  clear c3 c4 c5 f3 f4 f5
  have hbox := hDE.box.cells
  simp only [] at hbox
  obtain ⟨⟨b0, b1, b2⟩, ⟨b3, b4, b5⟩, b6, b7⟩ := hbox
  obtain ⟨⟨⟨z0, z1, z2, z3⟩, ⟨z4, z5, z6, z7⟩⟩, ⟨⟨f0, f1, f2, f3⟩, ⟨f4, f5, f6, f7⟩⟩⟩ := ent_zero hDE.res
  have h8 := set8_row (.int .u8 k) (.string ⟨#[]⟩) (.int .u64 0) (.int .u32 xf) (.string xg) (.string xh) (.slice none 0 0) (.slice none 0 0) hDE.res
  have h8b := set8_below hDE.bel (Nat.le_refl w.heap.size) (.int .u8 k) (.string ⟨#[]⟩) (.int .u64 0) (.int .u32 xf) (.string xg) (.string xh) (.slice none 0 0) (.slice none 0 0)
  unfold set8 at h8 h8b
  have H8 := Lib.hid (And.intro h8 (And.intro h8b trivial))
  clear h8 h8b hDE
  go_wp2_with fail
  refine bodyPost_ret (results_cell_row rfl _ _ w.heap.size 29 _ (0, 0) _ rfl H8.out.1 Tryz.underlying29 rfl (by kernel_rfl)) rfl ⟨⟨k, ⟨#[]⟩, 0, xf, xg, xh, none, 0, [], none, 0, []⟩, rfl, ?_, ⟨HK.out, HZ.out.1, HZ.out.2.1, HZ.out.2.2.1, HZ.out.2.2.2.1, HZ.out.2.2.2.2, ?_, ?_⟩, ?_, H8.out.2.1⟩
  ·rfl
  ·exact RowP.nil _
  ·exact RowR.nil _
  ·intro j hj
   exact absurd hj (by simp)
 ·obtain ⟨hu1, hu2, hu3, hu4⟩ := hs
  rw [hu1] at HQN
  rw [hu2] at HQU
  rw [hu3] at HQX
  rw [hu4] at HQW
  obtain ⟨rfl, rfl⟩ := name_not hb hu1
  have l1 := l0
  have hnz : ByteArray.size ⟨#[]⟩ ≤ 140737488351232 := by decide
  obtain ⟨rfl, rfl⟩ := nr_not hc hu2
  have l2 := l1
  have hnl : (0 : Nat) < 18446744073709551616 := by decide
  obtain ⟨rfl, rfl, rfl, rfl⟩ := x_not hd hu3
  have l3 := l2
  have hxl : (0 : Nat) < 4294967296 ∧ ByteArray.size ⟨#[]⟩ ≤ 140737488351232 ∧ ByteArray.size ⟨#[]⟩ ≤ 140737488351232 := by decide
  unfold psS at hp
  rw [if_neg (by rw [hu4]; decide)] at hp
  unfold tsS at ht
  rw [if_neg (by rw [hu4]; decide)] at ht
  obtain ⟨rfl, rfl⟩ : ps = [] ∧ s0 = s4 := ⟨congrArg Prod.fst hp, (congrArg Prod.snd hp).symm⟩
  obtain ⟨rfl, rfl⟩ : ts = [] ∧ s0 = s5 := ⟨congrArg Prod.fst ht, (congrArg Prod.snd ht).symm⟩
  have HZ := Lib.hid (And.intro hnz (And.intro hnl hxl))
  clear hb hc hd hp ht hu1 hu2 hu3 hu4 l0 l1 l2 l3 hnz hnl hxl
  go_enter Tryz.func36, Tryz.ntmps36
  go_wp2_with fail
  refine HO.out.mono ?_
  rintro e w3 ⟨g, d, rfl, hr3, hg3, ⟨hd31, hd32⟩, hb3⟩
  have hA4 := below_boxV w3 (Obj.cells #[.pointer (some ⟨g, 0, none⟩)] 119)
  obtain ⟨W4, hW4⟩ : ∃ W4, W4 = w3.alloc (Obj.cells #[.pointer (some ⟨g, 0, none⟩)] 119) := ⟨_, rfl⟩
  have hrd4 : BoxRd W4 w3.heap.size g := by rw [hW4]; exact heap_alloc_new _ _
  rw [← hW4] at hA4
  have hz4 : W4.heap.size = w3.heap.size + 1 := by rw [hW4]; simp
  have hA5 := below_boxV W4 (Obj.cells #[.pointer (some ⟨w3.heap.size, 0, none⟩)] 115)
  obtain ⟨W5, hW5⟩ : ∃ W5, W5 = W4.alloc (Obj.cells #[.pointer (some ⟨w3.heap.size, 0, none⟩)] 115) := ⟨_, rfl⟩
  have hv5 : W5.heap[w3.heap.size + 1]? = some (.cells #[.pointer (some ⟨w3.heap.size, 0, none⟩)] 115 (0, 0)) := by rw [hW5, ← hz4]; exact heap_alloc_new _ _
  rw [← hW5] at hA5
  have hz5 : W5.heap.size = w3.heap.size + 1 + 1 := by rw [hW5]; simp [hz4]
  have hrd5 : BoxRd W5 w3.heap.size g := (hA5.block _ (by omega)).trans hrd4
  have hr5 := (hr3.below hA4).below hA5
  have hglt := hr3.lt
  have hb05 := ((HB01.out.trans (hb3.mono HB01.out.size)).trans (hA4.mono (by have := HB01.out.size; have := hb3.size; omega))).trans (hA5.mono (by have := HB01.out.size; have := hb3.size; omega))
  have hres5 : W5.heap[w.heap.size]? = some zEnt := (hA5.block _ (by have := hb3.size; omega)).trans ((hA4.block _ (by have := hb3.size; omega)).trans ((hb3.block _ (by omega)).trans HRES.out))
  have HNX := Lib.hid (HN1.out g d W5 hr5)
  have p5 := hrd5.c
  have v5 := cell_of_row W5 (w3.heap.size + 1) 0 _ 115 (0, 0) hv5
  have HD5 := Lib.hid (And.intro hres5 (And.intro hrd5 (And.intro hv5 (And.intro hb05 (And.intro hd32 hd31)))))
  have hz3 := hb3.size
  have HCV := Lib.hid hcv
  clear hA4 hA5 hrd4 hv5 hrd5 hr5 hr3 hb05 hres5 hb3 hd31 hd32 HO hcv
  have hW45 : (w3.alloc (Obj.cells #[.pointer (some ⟨g, 0, none⟩)] 119)).alloc (Obj.cells #[.pointer (some ⟨w3.heap.size, 0, none⟩)] 115) = W5 := by rw [hW5, hW4]
  clear hW4 hW5 hz4
  go_upto_region 2 with fail
  clear hW45
  go_wp2_with fail
  refine HNX.out.mono ?_
  rintro e w6 ⟨rfl, hr6, hg6⟩
  have hA7 := below_boxV w6 (Obj.cells #[.int .u8 k, .string ⟨#[]⟩, .int .u64 0, .int .u32 0, .string ⟨#[]⟩, .string ⟨#[]⟩, .slice none 0 0, .slice none 0 0] 29)
  have hDE : DE w (w3.heap.size + 1) w3.heap.size g d w6.heap.size ⟨k, ⟨#[]⟩, 0, 0, ⟨#[]⟩, ⟨#[]⟩, none, 0, [], none, 0, []⟩ s0 (w6.alloc (Obj.cells #[.int .u8 k, .string ⟨#[]⟩, .int .u64 0, .int .u32 0, .string ⟨#[]⟩, .string ⟨#[]⟩, .slice none 0 0, .slice none 0 0] 29)) := by
   obtain ⟨q1, q2, q3, q4, q5, q6⟩ := HD5.out
   have hz6 := hg6.size
   have hne : ∀ j, j ≠ g → j < W5.heap.size → (w6.alloc (Obj.cells #[.int .u8 k, .string ⟨#[]⟩, .int .u64 0, .int .u32 0, .string ⟨#[]⟩, .string ⟨#[]⟩, .slice none 0 0, .slice none 0 0] 29)).heap[j]? = W5.heap[j]? := fun j hj hl => (hA7.block j (by omega)).trans (hg6.block j hl (fun e => hj (Option.some.inj e)))
   exact ⟨(hne _ (by omega) (by omega)).trans q1, BoxE.new (x := ⟨k, ⟨#[]⟩, 0, 0, ⟨#[]⟩, ⟨#[]⟩, none, 0, [], none, 0, []⟩) w6, (hne _ (by omega) (by omega)).trans q2, (hne _ (by omega) (by omega)).trans q3, hr6.below hA7, (q4.grown hg6 q4.size (fun j hj => by cases hj; omega)).trans (hA7.mono (by have := q4.size; omega)), by omega, by omega, by omega, by omega, by omega, ⟨by omega, by omega, by omega⟩, ⟨by omega, by omega, by omega⟩, by simp; omega⟩
  have HZ3 := Lib.hid (And.intro hz3 hsz1)
  clear hA7 hr6 hg6 HD5 HNX hz5 hz3 hglt p5 v5 hg3 hsz1
  have e0 := hDE.box.cells.1.1
  simp only [] at e0
  go_wp2_with fail
  refine (HF.out _).mono ?_
  rintro e w11 ⟨rfl, rfl⟩
  clear e0
  go_wp2_with fail
  refine (HQN.out _).mono ?_
  rintro e w11 ⟨rfl, rfl⟩
  go_wp2_with fail
  refine (HQU.out _).mono ?_
  rintro e w11 ⟨rfl, rfl⟩
  go_wp2_with fail
  refine (HQX.out _).mono ?_
  rintro e w11 ⟨rfl, rfl⟩
  go_wp2_with fail
  refine (HQW.out _).mono ?_
  rintro e w11 ⟨rfl, rfl⟩
  have hbox := hDE.box.cells
  simp only [] at hbox
  obtain ⟨⟨b0, b1, b2⟩, ⟨b3, b4, b5⟩, b6, b7⟩ := hbox
  obtain ⟨⟨⟨z0, z1, z2, z3⟩, ⟨z4, z5, z6, z7⟩⟩, ⟨⟨f0, f1, f2, f3⟩, ⟨f4, f5, f6, f7⟩⟩⟩ := ent_zero hDE.res
  have h8 := set8_row (.int .u8 k) (.string ⟨#[]⟩) (.int .u64 0) (.int .u32 0) (.string ⟨#[]⟩) (.string ⟨#[]⟩) (.slice none 0 0) (.slice none 0 0) hDE.res
  have h8b := set8_below hDE.bel (Nat.le_refl w.heap.size) (.int .u8 k) (.string ⟨#[]⟩) (.int .u64 0) (.int .u32 0) (.string ⟨#[]⟩) (.string ⟨#[]⟩) (.slice none 0 0) (.slice none 0 0)
  unfold set8 at h8 h8b
  have H8 := Lib.hid (And.intro h8 (And.intro h8b trivial))
  clear h8 h8b hDE
  go_wp2_with fail
  refine bodyPost_ret (results_cell_row rfl _ _ w.heap.size 29 _ (0, 0) _ rfl H8.out.1 Tryz.underlying29 rfl (by kernel_rfl)) rfl ⟨⟨k, ⟨#[]⟩, 0, 0, ⟨#[]⟩, ⟨#[]⟩, none, 0, [], none, 0, []⟩, rfl, ?_, ⟨HK.out, HZ.out.1, HZ.out.2.1, HZ.out.2.2.1, HZ.out.2.2.2.1, HZ.out.2.2.2.2, ?_, ?_⟩, ?_, H8.out.2.1⟩
  ·rfl
  ·exact RowP.nil _
  ·exact RowR.nil _
  ·intro j hj
   exact absurd hj (by simp)
end Go.Proofs.YtdklhcmoilcpgaaGreat
