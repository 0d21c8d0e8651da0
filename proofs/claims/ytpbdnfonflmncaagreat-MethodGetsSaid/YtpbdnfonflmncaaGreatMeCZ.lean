/-
  Texts, together: MeC, MeD.
  Conditions: none but sizes.
-/
import Derived.Test.YtpbdnfonflmncaaGreatMeSZ
import Derived.Test.YtpbdnfonflmncaaGreatMePZ
import Derived.Test.YtpbdnfonflmncaaGreatSpAZ
set_option linter.unusedVariables false
set_option linter.unusedSimpArgs false
namespace Go.Proofs.YtpbdnfonflmncaaGreat
open Go.RowKit
theorem xidGuard : Tryz.prog.eqGuardType Tryz.prog.depth 44 = false := by kernel_rfl
theorem xidFields : Tryz.prog.underlying 44 = some (.struct (Tryz.prog.fieldsOf 44)) := by kernel_rfl
theorem xidHeld : Tryz.prog.stoodInHeld 44 = false := by kernel_rfl
theorem tl_beq (a b : ByteArray) : (a.toList == b.toList) = decide (a = b) := by
 rw [sb_toList, sb_toList]
 by_cases h : a = b
 ·subst h; simp
 ·rw [decide_eq_false h, beq_eq_false_iff_ne]
  exact fun e => h (xsb_inj.1 e)
set_option maxRecDepth 100000 in
theorem run_eq_xid (f1 f2 : Nat) (g1 h1 g2 h2 : ByteArray) (w : World) : (Op.equalIn 10000 44 (.agg #[.int .u32 (f1 : Int), .string g1, .string h1]) (.agg #[.int .u32 (f2 : Int), .string g2, .string h2])).run Tryz.prog w = .ok (decide (f1 = f2 ∧ g1 = g2 ∧ h1 = h2)) w := by
 rw [run_equalIn_agg w 9999 44 _ _ xidFields xidHeld]
 have hm : (Tryz.prog.fieldsOf 44).toList.map (fun f => (f.type, f.offset, f.name == "_")) = [(42, 0, false), (9, 1, false), (9, 2, false)] := by kernel_rfl
 generalize (Tryz.prog.fieldsOf 44).toList = fs at hm ⊢
 obtain ⟨F0, t0, rfl, p0, hm⟩ := List.map_eq_cons_iff.1 hm
 obtain ⟨F1, t1, rfl, p1, hm⟩ := List.map_eq_cons_iff.1 hm
 obtain ⟨F2, t2, rfl, p2, hm⟩ := List.map_eq_cons_iff.1 hm
 obtain rfl : t2 = [] := List.map_eq_nil_iff.1 hm
 simp only [Prod.mk.injEq] at p0 p1 p2
 obtain ⟨a0, b0, c0⟩ := p0
 obtain ⟨a1, b1, c1⟩ := p1
 obtain ⟨a2, b2, c2⟩ := p2
 have d0 : ¬ F0.name = "_" := by simpa using c0
 have d1 : ¬ F1.name = "_" := by simpa using c1
 have d2 : ¬ F2.name = "_" := by simpa using c2
 have e2 : ∀ x y : Nat, (Op.equalIn 9999 42 (.int .u32 (x : Int)) (.int .u32 (y : Int))).run Tryz.prog w = .ok ((x : Int) == (y : Int)) w := fun x y => run_equalIn_int w 9998 42 .u32 .u32 _ _ Tryz.underlying42
 have e4 : ∀ x y : ByteArray, (Op.equalIn 9999 9 (.string x) (.string y)).run Tryz.prog w = .ok (decide (x = y)) w := fun x y => by rw [← tl_beq]; exact run_equalIn_string w 9998 9 _ _ Tryz.underlying9
 by_cases k4 : f1 = f2
 ·by_cases k7 : g1 = g2
  ·by_cases k8 : h1 = h2
   ·simp [Op.eqFields, part, a0, b0, d0, a1, b1, d1, a2, b2, d2, e2, e4, k4, k7, k8]
   ·simp [Op.eqFields, part, a0, b0, d0, a1, b1, d1, a2, b2, d2, e2, e4, k4, k7, k8]
  ·simp [Op.eqFields, part, a0, b0, d0, a1, b1, d1, e2, e4, k4, k7]
 ·simp [Op.eqFields, part, a0, b0, d0, e2, e4, k4]
  intro h
  omega
set_option maxRecDepth 100000 in
set_option maxHeartbeats 1000000 in
theorem sequal_any (A1 A2 : Option Addr) (c1 c2 d1 d2 : Nat) (l m : List Sp) (w : World) (hl : ShowsG spanC w d1 (.slice A1 l.length c1) l) (hm : ShowsG spanC w d2 (.slice A2 m.length c2) m) (hb : l.length ≤ 17592186044416) (hb2 : m.length ≤ 17592186044416) :
    Calls Tryz.prog 78 #[.slice A1 l.length c1, .slice A2 m.length c2] w fun e w' => e = .returned (.bool (decide (l = m))) ∧ ∃ q, w' = w.drewN q := by
  by_cases hlen : l.length = m.length
  · go_enter Tryz.func78, Tryz.ntmps78
    have hne : ((l.length : Int) != (m.length : Int)) = false := by simp; omega
    go_wp2_with fail
    go_loopw [13] (fun i wr => ∃ k q : Nat, k ≤ l.length ∧ i = .int .i64 k ∧ wr = w.drewN q ∧ l.take k = m.take k) (fun i _ => l.length - (intOf i).toNat)
    case atStart => exact ⟨0, 0, Nat.zero_le _, rfl, rfl, rfl⟩
    case round =>
      obtain ⟨k, q, hk, rfl, rfl, hsame⟩ := hrel
      by_cases hlt : k < l.length
      · have hlt2 : k < m.length := by omega
        obtain ⟨o, rfl, _, hcl⟩ := hl.at_ (by omega)
        obtain ⟨o', rfl, _, hcm⟩ := hm.at_ (by omega)
        have e1 := span_cell1 hcl hlt
        have e2 := span_cell2 hcl hlt
        have e3 := span_cell1 hcm hlt2
        have e4 := span_cell2 hcm hlt2
        have hkl : (k : Int) < (l.length : Int) := by omega
        have hkm : (k : Int) < (m.length : Int) := by omega
        have hG := spanGuard
        have hE := run_eq_span
        have hstep : l[k] = m[k] → l.take (k + 1) = m.take (k + 1) := fun h => by
          rw [List.take_succ_eq_append_getElem hlt, List.take_succ_eq_append_getElem hlt2, hsame, h]
        by_cases heq : l[k] = m[k]
        · have HS := Lib.hid (hstep heq)
          have hd : decide ((l[k].1, l[k].2) = (m[k].1, m[k].2)) = true := by rw [heq]; simp
          have E := Lib.hid hE
          generalize l[k].1 = a at *
          generalize l[k].2 = b at *
          generalize m[k].1 = a' at *
          generalize m[k].2 = b' at *
          have hE2 := fun w => E.out a b a' b' w
          rw [hd] at hE2
          clear hcl hcm hE heq hstep hsame hd
          go_wp2_with fail
          go_quiet (fail)
          go_wp2_with fail
          go_roundw
          case rel => exact ⟨k + 1, _, by omega, by go_num, rfl, HS.out⟩
          case measure => simp [intOf]; omega
        · have hfin : decide (l = m) = false := by
            simp
            rintro rfl
            exact heq rfl
          have hd : decide ((l[k].1, l[k].2) = (m[k].1, m[k].2)) = false := by
            simp
            intro h1 h2
            exact heq (Prod.ext h1 h2)
          have E := Lib.hid hE
          generalize l[k].1 = a at *
          generalize l[k].2 = b at *
          generalize m[k].1 = a' at *
          generalize m[k].2 = b' at *
          have hE2 := fun w => E.out a b a' b' w
          rw [hd] at hE2
          clear hcl hcm hE heq hstep hsame hd
          go_wp2_with fail
          go_quiet (fail)
          go_wp2_with fail
          go_ret
          exact ⟨by first | rfl | (rw [hfin]; rfl), q + nq, World.drewN_drewN _ _ _⟩
      · have hfin : decide (l = m) = true := by
          rw [List.take_of_length_le (by omega), List.take_of_length_le (by omega)] at hsame
          simpa using hsame
        clear hsame
        go_wp2_with fail
        go_ret
        exact ⟨by first | rfl | (rw [hfin]; rfl), q, rfl⟩
  · have hfin : decide (l = m) = false := by
      simp
      rintro rfl
      exact hlen rfl
    have hne : ((l.length : Int) != (m.length : Int)) = true := by simp; omega
    go_enter Tryz.func78, Tryz.ntmps78
    go_wp2_with fail
    go_ret
    exact ⟨by first | rfl | (rw [hfin]; rfl), 0, rfl⟩
def argVs (a : ArgP) (qv v0 v1 v2 v3 v4 : Value) : List Value := [.bool a.is, .int .u64 a.n, .string a.s, .int .u32 a.f, .string a.g, .string a.h, qv, v0, v1, v2, v3, v4]
structure SizeA (a : ArgP) : Prop where
  n : a.n < 18446744073709551616
  f : a.f < 4294967296
  u : u32s a.q
  s : a.s.size ≤ 140737488351232
  g : a.g.size ≤ 140737488351232
  h : a.h.size ≤ 140737488351232
  q : a.q.length ≤ 17592186043904
structure ShowsA (w : World) (a : ArgP) (A : Option Addr) (c dq : Nat) (v0 v1 v2 v3 v4 : Value) : Prop where
  sz : SizeA a
  q : ShowsG spanC w dq (.slice A a.q.length c) a.q
  v : ShowsT w a.v [v0, v1, v2, v3, v4]
theorem ShowsA.kept {w w' : World} {B : Nat} {a : ArgP} {A : Option Addr} {c dq : Nat} {v0 v1 v2 v3 v4 : Value} (h : ShowsA w a A c dq v0 v1 v2 v3 v4) (hb : Below B w w') (hB : w.heap.size ≤ B) : ShowsA w' a A c dq v0 v1 v2 v3 v4 :=
 ⟨h.sz, h.q.below' hb hB, h.v.kept hb hB⟩
theorem ShowsA.sub {w w' : World} {a : ArgP} {A : Option Addr} {c dq : Nat} {v0 v1 v2 v3 v4 : Value} (h : ShowsA w a A c dq v0 v1 v2 v3 v4) (hs : Sub w w') : ShowsA w' a A c dq v0 v1 v2 v3 v4 :=
 ⟨h.sz, h.q.sub hs, h.v.sub hs⟩
def BoxG (w : World) (b : Nat) (a : ArgP) (qv v0 v1 v2 v3 v4 : Value) : Prop := w.heap[b]? = some (.cells (argVs a qv v0 v1 v2 v3 v4).toArray 52 (0, 0))
section
variable {w w' : World} {b B : Nat} {a : ArgP} {qv v0 v1 v2 v3 v4 : Value}
theorem BoxG.new (w : World) (a : ArgP) (qv v0 v1 v2 v3 v4 : Value) : BoxG (w.alloc (Obj.cells #[.bool a.is, .int .u64 a.n, .string a.s, .int .u32 a.f, .string a.g, .string a.h, qv, v0, v1, v2, v3, v4] 52)) w.heap.size a qv v0 v1 v2 v3 v4 := heap_alloc_new w _
theorem BoxG.lt (h : BoxG w b a qv v0 v1 v2 v3 v4) : b < w.heap.size := (Array.getElem?_eq_some_iff.1 h).1
theorem BoxG.kept (h : BoxG w b a qv v0 v1 v2 v3 v4) (hb : Below B w w') (hB : w.heap.size ≤ B) : BoxG w' b a qv v0 v1 v2 v3 v4 := (hb.block b (Nat.lt_of_lt_of_le h.lt hB)).trans h
theorem BoxG.fr (h : BoxG w b a qv v0 v1 v2 v3 v4) (i : Nat) : w.frozen? ⟨b, i, none⟩ = false := frozen_of_row w b i _ 52 h
theorem BoxG.cells (h : BoxG w b a qv v0 v1 v2 v3 v4) : (w.cell? ⟨b, 0, none⟩ = some (.bool a.is) ∧ w.cell? ⟨b, 1, none⟩ = some (.int .u64 a.n) ∧ w.cell? ⟨b, 2, none⟩ = some (.string a.s)) ∧
  (w.cell? ⟨b, 3, none⟩ = some (.int .u32 a.f) ∧ w.cell? ⟨b, 4, none⟩ = some (.string a.g) ∧ w.cell? ⟨b, 5, none⟩ = some (.string a.h)) ∧ w.cell? ⟨b, 6, none⟩ = some qv ∧
  (w.cell? ⟨b, 7, none⟩ = some v0 ∧ w.cell? ⟨b, 8, none⟩ = some v1 ∧ w.cell? ⟨b, 9, none⟩ = some v2 ∧ w.cell? ⟨b, 10, none⟩ = some v3 ∧ w.cell? ⟨b, 11, none⟩ = some v4) :=
 ⟨⟨cell_of_row w b 0 _ 52 (0, 0) h, cell_of_row w b 1 _ 52 (0, 0) h, cell_of_row w b 2 _ 52 (0, 0) h⟩, ⟨cell_of_row w b 3 _ 52 (0, 0) h, cell_of_row w b 4 _ 52 (0, 0) h, cell_of_row w b 5 _ 52 (0, 0) h⟩, cell_of_row w b 6 _ 52 (0, 0) h,
  cell_of_row w b 7 _ 52 (0, 0) h, cell_of_row w b 8 _ 52 (0, 0) h, cell_of_row w b 9 _ 52 (0, 0) h, cell_of_row w b 10 _ 52 (0, 0) h, cell_of_row w b 11 _ 52 (0, 0) h⟩
end
def argV (a : ArgP) (qv v0 v1 v2 v3 v4 : Value) : Value := .agg #[.bool a.is, .int .u64 a.n, .string a.s, .int .u32 a.f, .string a.g, .string a.h, qv, v0, v1, v2, v3, v4]
def sameA (a b : ArgP) : Bool := decide (a.is = b.is ∧ a.n = b.n ∧ a.s = b.s ∧ (a.f = b.f ∧ a.g = b.g ∧ a.h = b.h) ∧ a.q = b.q) && sameT a.v b.v
theorem sameA_iff (a b : ArgP) : sameA a b = true ↔ a = b := by
 unfold sameA
 rw [Bool.and_eq_true, decide_eq_true_eq, sameT_iff]
 cases a; cases b
 simp only [ArgP.mk.injEq]
 constructor
 ·rintro ⟨⟨h1, h2, h3, ⟨h4, h5, h6⟩, h7⟩, h8⟩
  exact ⟨h1, h2, h3, h4, h5, h6, h7, h8⟩
 ·rintro ⟨h1, h2, h3, h4, h5, h6, h7, h8⟩
  exact ⟨⟨h1, h2, h3, ⟨h4, h5, h6⟩, h7⟩, h8⟩
end Go.Proofs.YtpbdnfonflmncaaGreat
namespace Go.Proofs.YtpbdnfonflmncaaGreat
open Go.RowKit
set_option maxRecDepth 100000 in
set_option maxHeartbeats 8000000 in
theorem sameArg_any (a b : ArgP) (A1 : Option Addr) (c1 d1 : Nat) (x0 x1 x2 x3 x4 : Value) (A2 : Option Addr) (c2 d2 : Nat) (y0 y1 y2 y3 y4 : Value) (w : World) (ha : ShowsA w a A1 c1 d1 x0 x1 x2 x3 x4) (hb : ShowsA w b A2 c2 d2 y0 y1 y2 y3 y4) (hc : cntT a.v ≤ 1000000) :
  Calls Tryz.prog 56 #[argV a (.slice A1 a.q.length c1) x0 x1 x2 x3 x4, argV b (.slice A2 b.q.length c2) y0 y1 y2 y3 y4] w fun e w' => e = .returned (.bool (sameA a b)) ∧ Below w.heap.size w w' := by
 obtain ⟨R, hR⟩ : ∃ R, R = sameA a b := ⟨_, rfl⟩
 rw [← hR]
 have hXa := (BoxG.new w a (.slice A1 a.q.length c1) x0 x1 x2 x3 x4).kept (below_box _ (Obj.cells #[.bool b.is, .int .u64 b.n, .string b.s, .int .u32 b.f, .string b.g, .string b.h, .slice A2 b.q.length c2, y0, y1, y2, y3, y4] 52)) (Nat.le_refl _)
 have hXb := BoxG.new (w.alloc (Obj.cells #[.bool a.is, .int .u64 a.n, .string a.s, .int .u32 a.f, .string a.g, .string a.h, .slice A1 a.q.length c1, x0, x1, x2, x3, x4] 52)) b (.slice A2 b.q.length c2) y0 y1 y2 y3 y4
 rw [World.size_alloc] at hXb
 have hbw : Below w.heap.size w ((w.alloc (Obj.cells #[.bool a.is, .int .u64 a.n, .string a.s, .int .u32 a.f, .string a.g, .string a.h, .slice A1 a.q.length c1, x0, x1, x2, x3, x4] 52)).alloc (Obj.cells #[.bool b.is, .int .u64 b.n, .string b.s, .int .u32 b.f, .string b.g, .string b.h, .slice A2 b.q.length c2, y0, y1, y2, y3, y4] 52)) := (below_box w _).alloc (by simp) _
 have HB := Lib.hid hbw
 have HS1 := Lib.hid (fun w' (hb' : Below w.heap.size w w') => ha.kept hb' (Nat.le_refl _))
 have HS2 := Lib.hid (fun w' (hb' : Below w.heap.size w w') => hb.kept hb' (Nat.le_refl _))
 have HQ := Lib.hid (fun w' (hb' : Below w.heap.size w w') => sequal_any A1 A2 c1 c2 d1 d2 a.q b.q w' (ha.kept hb' (Nat.le_refl _)).q (hb.kept hb' (Nat.le_refl _)).q (by have := ha.sz.q; omega) (by have := hb.sz.q; omega))
 have HV := Lib.hid (fun w' (hb' : Below w.heap.size w w') => same_any a.v b.v [x0, x1, x2, x3, x4] [y0, y1, y2, y3, y4] w' (ha.kept hb' (Nat.le_refl _)).v (hb.kept hb' (Nat.le_refl _)).v hc)
 have HE := Lib.hid (run_eq_xid a.f b.f a.g a.h b.g b.h)
 have hG := xidGuard
 have hR' : R = (decide (a.is = b.is ∧ a.n = b.n ∧ a.s = b.s ∧ (a.f = b.f ∧ a.g = b.g ∧ a.h = b.h) ∧ a.q = b.q) && sameT a.v b.v) := hR
 have HR := Lib.hid hR'
 unfold argV
 generalize hW : (w.alloc (Obj.cells #[.bool a.is, .int .u64 a.n, .string a.s, .int .u32 a.f, .string a.g, .string a.h, .slice A1 a.q.length c1, x0, x1, x2, x3, x4] 52)).alloc (Obj.cells #[.bool b.is, .int .u64 b.n, .string b.s, .int .u32 b.f, .string b.g, .string b.h, .slice A2 b.q.length c2, y0, y1, y2, y3, y4] 52) = W at *
 have HW := Lib.hid hW
 obtain ⟨⟨p0, p1, p2⟩, ⟨p3, p4, p5⟩, p6, p7, p8, p9, p10, p11⟩ := hXa.cells
 obtain ⟨⟨q0, q1, q2⟩, ⟨q3, q4, q5⟩, q6, q7, q8, q9, q10, q11⟩ := hXb.cells
 clear hR hR' hW hXa hXb hbw ha hb hc HS1 HS2
 obtain ⟨ai, an, az, af, ag, ah, aq, av⟩ := a
 obtain ⟨bi, bn, bz, bf, bg, bh, bq, bv⟩ := b
 simp only [] at *
 generalize sameT av bv = V at *
 by_cases h0 : ai = bi
 ·have t0 : (ai == bi) = true := by simpa using h0
  by_cases h1 : an = bn
  ·have t1 : ((an : Int) == (bn : Int)) = true := by simp; omega
   by_cases h2 : az = bz
   ·have t2 : (az.toList == bz.toList) = true := by rw [tl_beq]; simpa using h2
    by_cases h3 : af = bf ∧ ag = bg ∧ ah = bh
    ·have hE := fun w => HE.out w
     rw [decide_eq_true h3] at hE
     by_cases h4 : aq = bq
     ·have hr : R = V := by rw [HR.out]; simp [h0, h1, h2, h3.1, h3.2.1, h3.2.2, h4]
      have HRR := Lib.hid hr
      rw [decide_eq_true h4] at HQ
      clear h0 h1 h2 h3 h4 hr
      go_enter Tryz.func56, Tryz.ntmps56
      go_upto_region 1 with fail
      rw [HW.out]
      go_wp2_with fail
      refine (HQ.out _ HB.out).mono ?_
      rintro e w1 ⟨rfl, q, rfl⟩
      go_wp2_with fail
      refine (HV.out _ (below_drewN HB.out _)).mono ?_
      rintro e w2 ⟨rfl, hb2⟩
      have hb3 : Below w.heap.size w w2 := (below_drewN HB.out _).trans (hb2.mono HB.out.size)
      go_wp2_with fail
      go_ret
      exact ⟨by rw [HRR.out]; rfl, hb3⟩
     ·have hr : R = false := by rw [HR.out]; simp [h4]
      have HRR := Lib.hid hr
      rw [decide_eq_false h4] at HQ
      clear h0 h1 h2 h3 h4 hr
      go_enter Tryz.func56, Tryz.ntmps56
      go_upto_region 1 with fail
      rw [HW.out]
      go_wp2_with fail
      refine (HQ.out _ HB.out).mono ?_
      rintro e w1 ⟨rfl, q, rfl⟩
      go_wp2_with fail
      go_ret
      exact ⟨by rw [HRR.out]; rfl, below_drewN HB.out _⟩
    ·have hr : R = false := by rw [HR.out]; simp [h3]
     have hE := fun w => HE.out w
     rw [decide_eq_false h3] at hE
     have HRR := Lib.hid hr
     clear h0 h1 h2 h3 hr
     go_enter Tryz.func56, Tryz.ntmps56
     go_upto_region 1 with fail
     rw [HW.out]
     go_wp2_with fail
     go_ret
     exact ⟨by rw [HRR.out]; rfl, HB.out⟩
   ·have hr : R = false := by rw [HR.out]; simp [h2]
    have t2 : (az.toList == bz.toList) = false := by rw [tl_beq]; simpa using h2
    have HRR := Lib.hid hr
    clear h0 h1 h2 hr
    go_enter Tryz.func56, Tryz.ntmps56
    go_upto_region 1 with fail
    rw [HW.out]
    go_wp2_with fail
    go_ret
    exact ⟨by rw [HRR.out]; rfl, HB.out⟩
  ·have hr : R = false := by rw [HR.out]; simp [h1]
   have t1 : ((an : Int) == (bn : Int)) = false := by rw [beq_eq_false_iff_ne]; omega
   have HRR := Lib.hid hr
   clear h0 h1 hr
   go_enter Tryz.func56, Tryz.ntmps56
   go_upto_region 1 with fail
   rw [HW.out]
   go_wp2_with fail
   go_ret
   exact ⟨by rw [HRR.out]; rfl, HB.out⟩
 ·have hr : R = false := by rw [HR.out]; simp [h0]
  have t0 : (ai == bi) = false := by rw [beq_eq_false_iff_ne]; exact h0
  have HRR := Lib.hid hr
  clear h0 hr
  go_enter Tryz.func56, Tryz.ntmps56
  go_upto_region 1 with fail
  rw [HW.out]
  go_wp2_with fail
  go_ret
  exact ⟨by rw [HRR.out]; rfl, HB.out⟩
end Go.Proofs.YtpbdnfonflmncaaGreat
