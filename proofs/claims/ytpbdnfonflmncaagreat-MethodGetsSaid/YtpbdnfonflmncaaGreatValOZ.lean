/-
  Texts, together: MeDq, ValO, MeOp.
  Conditions: none but sizes.
-/
import Derived.Deep.RegionHeld3
import Derived.Test.YtpbdnfonflmncaaGreatMeSmZ
import Derived.Test.YtpbdnfonflmncaaGreatV5AZ
import Derived.Test.YtpbdnfonflmncaaGreatRowkitZ
import Derived.Test.YtpbdnfonflmncaaGreatValGZ
import Derived.Test.YtpbdnfonflmncaaGreatMeJZ
set_option linter.unusedVariables false
set_option linter.unusedSimpArgs false
namespace Go.Proofs.YtpbdnfonflmncaaGreat
open Go.RowKit
set_option maxRecDepth 100000 in
set_option maxHeartbeats 8000000 in
theorem qsameArg_any (a b : ArgP) (A1 : Option Addr) (c1 d1 : Nat) (x0 x1 x2 x3 x4 : Value) (A2 : Option Addr) (c2 d2 : Nat) (y0 y1 y2 y3 y4 : Value) (w : World) (ha : ShowsA w a A1 c1 d1 x0 x1 x2 x3 x4) (hb : ShowsA w b A2 c2 d2 y0 y1 y2 y3 y4) :
  Calls Tryz.prog 27 #[argV a (.slice A1 a.q.length c1) x0 x1 x2 x3 x4, argV b (.slice A2 b.q.length c2) y0 y1 y2 y3 y4] w fun e w' => e = .returned (.bool (sameA a b)) ∧ Below w.heap.size w w' := by
 obtain ⟨R, hR⟩ : ∃ R, R = sameA a b := ⟨_, rfl⟩
 rw [← hR]
 have hXa := (BoxG.new w a (.slice A1 a.q.length c1) x0 x1 x2 x3 x4).kept (below_box _ (Obj.cells #[.bool b.is, .int .u64 b.n, .string b.s, .int .u32 b.f, .string b.g, .string b.h, .slice A2 b.q.length c2, y0, y1, y2, y3, y4] 52)) (Nat.le_refl _)
 have hXb := BoxG.new (w.alloc (Obj.cells #[.bool a.is, .int .u64 a.n, .string a.s, .int .u32 a.f, .string a.g, .string a.h, .slice A1 a.q.length c1, x0, x1, x2, x3, x4] 52)) b (.slice A2 b.q.length c2) y0 y1 y2 y3 y4
 rw [World.size_alloc] at hXb
 have hbw : Below w.heap.size w ((w.alloc (Obj.cells #[.bool a.is, .int .u64 a.n, .string a.s, .int .u32 a.f, .string a.g, .string a.h, .slice A1 a.q.length c1, x0, x1, x2, x3, x4] 52)).alloc (Obj.cells #[.bool b.is, .int .u64 b.n, .string b.s, .int .u32 b.f, .string b.g, .string b.h, .slice A2 b.q.length c2, y0, y1, y2, y3, y4] 52)) := (below_box w _).alloc (by simp) _
 have HB := Lib.hid hbw
 have HS1 := Lib.hid (fun w' (hb' : Below w.heap.size w w') => ha.kept hb' (Nat.le_refl _))
 have HS2 := Lib.hid (fun w' (hb' : Below w.heap.size w w') => hb.kept hb' (Nat.le_refl _))
 have HQ := Lib.hid (fun w' (hb' : Below w.heap.size w w') => qsame_any A1 A2 c1 c2 _ _ d1 d2 a.q b.q w' rfl rfl (ha.kept hb' (Nat.le_refl _)).q (hb.kept hb' (Nat.le_refl _)).q (by have := ha.sz.q; omega) (by have := hb.sz.q; omega))
 have HV := Lib.hid (fun w' (hb' : Below w.heap.size w w') => qsame_main _ a.v b.v [x0, x1, x2, x3, x4] [y0, y1, y2, y3, y4] w' rfl (ha.kept hb' (Nat.le_refl _)).v (hb.kept hb' (Nat.le_refl _)).v)
 have HE := Lib.hid (run_eq_xid a.f b.f a.g a.h b.g b.h)
 have hG := xidGuard
 have hR' : R = (decide (a.is = b.is ∧ a.n = b.n ∧ a.s = b.s ∧ (a.f = b.f ∧ a.g = b.g ∧ a.h = b.h) ∧ a.q = b.q) && sameT a.v b.v) := hR
 have HR := Lib.hid hR'
 unfold argV
 generalize hW : (w.alloc (Obj.cells #[.bool a.is, .int .u64 a.n, .string a.s, .int .u32 a.f, .string a.g, .string a.h, .slice A1 a.q.length c1, x0, x1, x2, x3, x4] 52)).alloc (Obj.cells #[.bool b.is, .int .u64 b.n, .string b.s, .int .u32 b.f, .string b.g, .string b.h, .slice A2 b.q.length c2, y0, y1, y2, y3, y4] 52) = W at *
 have HW := Lib.hid hW
 obtain ⟨⟨p0, p1, p2⟩, ⟨p3, p4, p5⟩, p6, p7, p8, p9, p10, p11⟩ := hXa.cells
 obtain ⟨⟨q0, q1, q2⟩, ⟨q3, q4, q5⟩, q6, q7, q8, q9, q10, q11⟩ := hXb.cells
 clear hR hR' hW hXa hXb hbw ha hb HS1 HS2
 obtain ⟨ai, an, az, af, ag, ah, aq, av⟩ := a
 obtain ⟨bi, bn, bz, bf, bg, bh, bq, bv⟩ := b
 simp only [] at *
 generalize sameT av bv = V at *
 by_cases h0 : ai = bi
 ·have t0 : (ai == bi) = true := by simpa using h0
  by_cases h1 : an = bn
  ·have t1 : ((an : Int) == (bn : Int)) = true := by simp; omega
   by_cases h2 : az = bz
   ·have t2 : (az.toList == bz.toList) = true := by rw [tl_beq]; simpa using h2
    by_cases h3 : af = bf ∧ ag = bg ∧ ah = bh
    ·have hE := fun w => HE.out w
     rw [decide_eq_true h3] at hE
     by_cases h4 : aq = bq
     ·have hr : R = V := by rw [HR.out]; simp [h0, h1, h2, h3.1, h3.2.1, h3.2.2, h4]
      have HRR := Lib.hid hr
      rw [decide_eq_true h4] at HQ
      clear h0 h1 h2 h3 h4 hr
      go_enter Tryz.func27, Tryz.ntmps27
      go_upto_region 1 with fail
      rw [HW.out]
      go_wp2_with fail
      refine (HQ.out _ HB.out).mono ?_
      rintro e w1 ⟨rfl, q, rfl⟩
      go_wp2_with fail
      refine (HV.out _ (below_drewN HB.out _)).mono ?_
      rintro e w2 ⟨rfl, hb2⟩
      have hb3 : Below w.heap.size w w2 := (below_drewN HB.out _).trans (hb2.mono HB.out.size)
      go_wp2_with fail
      go_ret
      exact ⟨by rw [HRR.out]; rfl, hb3⟩
     ·have hr : R = false := by rw [HR.out]; simp [h4]
      have HRR := Lib.hid hr
      rw [decide_eq_false h4] at HQ
      clear h0 h1 h2 h3 h4 hr
      go_enter Tryz.func27, Tryz.ntmps27
      go_upto_region 1 with fail
      rw [HW.out]
      go_wp2_with fail
      refine (HQ.out _ HB.out).mono ?_
      rintro e w1 ⟨rfl, q, rfl⟩
      go_wp2_with fail
      go_ret
      exact ⟨by rw [HRR.out]; rfl, below_drewN HB.out _⟩
    ·have hr : R = false := by rw [HR.out]; simp [h3]
     have hE := fun w => HE.out w
     rw [decide_eq_false h3] at hE
     have HRR := Lib.hid hr
     clear h0 h1 h2 h3 hr
     go_enter Tryz.func27, Tryz.ntmps27
     go_upto_region 1 with fail
     rw [HW.out]
     go_wp2_with fail
     go_ret
     exact ⟨by rw [HRR.out]; rfl, HB.out⟩
   ·have hr : R = false := by rw [HR.out]; simp [h2]
    have t2 : (az.toList == bz.toList) = false := by rw [tl_beq]; simpa using h2
    have HRR := Lib.hid hr
    clear h0 h1 h2 hr
    go_enter Tryz.func27, Tryz.ntmps27
    go_upto_region 1 with fail
    rw [HW.out]
    go_wp2_with fail
    go_ret
    exact ⟨by rw [HRR.out]; rfl, HB.out⟩
  ·have hr : R = false := by rw [HR.out]; simp [h1]
   have t1 : ((an : Int) == (bn : Int)) = false := by rw [beq_eq_false_iff_ne]; omega
   have HRR := Lib.hid hr
   clear h0 h1 hr
   go_enter Tryz.func27, Tryz.ntmps27
   go_upto_region 1 with fail
   rw [HW.out]
   go_wp2_with fail
   go_ret
   exact ⟨by rw [HRR.out]; rfl, HB.out⟩
 ·have hr : R = false := by rw [HR.out]; simp [h0]
  have t0 : (ai == bi) = false := by rw [beq_eq_false_iff_ne]; exact h0
  have HRR := Lib.hid hr
  clear h0 hr
  go_enter Tryz.func27, Tryz.ntmps27
  go_upto_region 1 with fail
  rw [HW.out]
  go_wp2_with fail
  go_ret
  exact ⟨by rw [HRR.out]; rfl, HB.out⟩
theorem sameM_def (k1 c1 : Nat) (s1 : Bool) (l : List ArgP) (k2 c2 : Nat) (s2 : Bool) (m : List ArgP) : sameM ⟨k1, c1, s1, l⟩ ⟨k2, c2, s2, m⟩ = (((k1 : Int) == (k2 : Int)) && ((c1 : Int) == (c2 : Int)) && (s1 == s2) && sameArgs l m) := by
 unfold sameM
 congr 1
 rw [Bool.eq_iff_iff]
 simp only [decide_eq_true_eq, Bool.and_eq_true, beq_iff_eq]
 constructor
 ·rintro ⟨rfl, rfl, rfl⟩
  exact ⟨⟨rfl, rfl⟩, rfl⟩
 ·rintro ⟨⟨h1, h2⟩, h3⟩
  exact ⟨by omega, by omega, h3⟩
structure TwoQ (w0 : World) (k1 c1 : Nat) (s1 : Bool) (v1 : Value) (k2 c2 : Nat) (s2 : Bool) (v2 : Value) (w : World) : Prop where
  a : BoxM w w0.heap.size k1 c1 s1 v1
  b : BoxM w (w0.heap.size + 1) k2 c2 s2 v2
  bel : Below w0.heap.size w0 w
theorem TwoQ.step {w0 w w' : World} {k1 c1 : Nat} {s1 : Bool} {v1 : Value} {k2 c2 : Nat} {s2 : Bool} {v2 : Value} (h : TwoQ w0 k1 c1 s1 v1 k2 c2 s2 v2 w) (hb : Below w.heap.size w w') : TwoQ w0 k1 c1 s1 v1 k2 c2 s2 v2 w' :=
 ⟨h.a.kept hb (Nat.le_refl _), h.b.kept hb (Nat.le_refl _), h.bel.trans (hb.mono h.bel.size)⟩
set_option maxRecDepth 100000 in
set_option maxHeartbeats 16000000 in
theorem qmsame_any (k1 c1 : Nat) (s1 : Bool) (l : List ArgP) (A : Option Addr) (c : Nat) (k2 c2 : Nat) (s2 : Bool) (m : List ArgP) (A' : Option Addr) (c' : Nat) (w : World) (hl : ListA w l A c) (hm : ListA w m A' c') :
    Calls Tryz.prog 11 #[.agg #[.int .u8 k1, .int .u8 c1, .bool s1, .slice A l.length c], .agg #[.int .u8 k2, .int .u8 c2, .bool s2, .slice A' m.length c']] w fun e w' => e = .returned (.bool (sameM ⟨k1, c1, s1, l⟩ ⟨k2, c2, s2, m⟩)) ∧ Below w.heap.size w w' := by
  have hX1 := (BoxM.new w k1 c1 s1 (.slice A l.length c)).kept (below_box _ (Obj.cells #[.int .u8 k2, .int .u8 c2, .bool s2, .slice A' m.length c'] 24)) (Nat.le_refl _)
  have hX2 := BoxM.new (w.alloc (Obj.cells #[.int .u8 k1, .int .u8 c1, .bool s1, .slice A l.length c] 24)) k2 c2 s2 (.slice A' m.length c')
  rw [World.size_alloc] at hX2
  have hB1 := below_box w (Obj.cells #[.int .u8 k1, .int .u8 c1, .bool s1, .slice A l.length c] 24)
  have hB := hB1.trans ((below_box _ (Obj.cells #[.int .u8 k2, .int .u8 c2, .bool s2, .slice A' m.length c'] 24)).mono hB1.size)
  have HT := Lib.hid (show TwoQ w k1 c1 s1 (.slice A l.length c) k2 c2 s2 (.slice A' m.length c') _ from ⟨hX1, hX2, hB⟩)
  have HL := Lib.hid (fun w' (hb : Below w.heap.size w w') => hl.kept hb (Nat.le_refl _))
  have HM := Lib.hid (fun w' (hb : Below w.heap.size w w') => hm.kept hb (Nat.le_refl _))
  have hL40 := hl.lm
  have p0 := hX1.c0
  have p1 := hX1.c1
  have p2 := hX1.c2
  have p3 := hX1.c3
  have q0 := hX2.c0
  have q1 := hX2.c1
  have q2 := hX2.c2
  have q3 := hX2.c3
  rw [sameM_def]
  obtain ⟨e1, he1⟩ : ∃ e1, e1 = ((k1 : Int) == (k2 : Int)) := ⟨_, rfl⟩
  obtain ⟨e2, he2⟩ : ∃ e2, e2 = ((c1 : Int) == (c2 : Int)) := ⟨_, rfl⟩
  obtain ⟨e3, he3⟩ : ∃ e3, e3 = (s1 == s2) := ⟨_, rfl⟩
  rw [← he1, ← he2, ← he3]
  obtain ⟨R, hR⟩ : ∃ R, R = sameArgs l m := ⟨_, rfl⟩
  rw [← hR]
  have HR := Lib.hid hR
  have n1 : ((k1 : Int) != (k2 : Int)) = !e1 := by rw [he1]; rfl
  have n2 : ((c1 : Int) != (c2 : Int)) = !e2 := by rw [he2]; rfl
  clear hB hB1 hX1 hX2 hl hm he1 he2 hR
  cases e1 with
  | false =>
    go_enter Tryz.func11, Tryz.ntmps11
    go_wp2_with fail
    go_ret
    exact ⟨rfl, HT.out.bel⟩
  | true =>
  cases e2 with
  | false =>
    go_enter Tryz.func11, Tryz.ntmps11
    go_wp2_with fail
    go_ret
    exact ⟨rfl, HT.out.bel⟩
  | true =>
  by_cases hs : s1 = s2
  case neg =>
    have h3 : e3 = false := by rw [he3]; simpa using hs
    subst h3
    clear he3
    cases s1 <;> cases s2 <;> first
      | exact absurd rfl hs
      | (go_enter Tryz.func11, Tryz.ntmps11
         go_wp2_with fail
         go_ret
         exact ⟨rfl, HT.out.bel⟩)
  subst hs
  have h3 : e3 = true := by rw [he3]; simp
  subst h3
  clear he3
  by_cases hlen : l.length = m.length
  case neg =>
    have hlenB : ((l.length : Int) != (m.length : Int)) = true := by simp; omega
    have hf : R = false := by
      rw [HR.out]
      cases hs : sameArgs l m with
      | false => rfl
      | true => exact absurd (congrArg List.length ((sameArgs_iff l m).1 hs)) hlen
    rw [hf]
    clear hf
    go_enter Tryz.func11, Tryz.ntmps11
    go_wp2_with fail
    go_ret
    exact ⟨rfl, HT.out.bel⟩
  have hlenB : ((l.length : Int) != (m.length : Int)) = false := by simp; omega
  have HLEN := Lib.hid hlen
  clear hlen
  go_enter Tryz.func11, Tryz.ntmps11
  go_wp2_with fail
  clear hlenB p0 p1 p2 p3 q0 q1 q2 q3
  go_loopw [5] (fun i wr => ∃ j : Nat, j ≤ l.length ∧ i = .int .i64 j ∧ TwoQ w k1 c1 s1 (.slice A l.length c) k2 c2 s1 (.slice A' m.length c') wr ∧ Hid (l.take j = m.take j)) (fun i _ => l.length - (intOf i).toNat)
  case atStart => exact ⟨0, by omega, rfl, HT.out, Lib.hid rfl⟩
  case round =>
    obtain ⟨j, hj, rfl, hT, hE⟩ := hrel
    rename World => wj
    have p3 := hT.a.c3
    have q3 := hT.b.c3
    by_cases hlt : j < l.length
    · have hltm : j < m.length := by have := HLEN.out; omega
      have hjl : (j : Int) < (l.length : Int) := by omega
      have hjm : (j : Int) < (m.length : Int) := by omega
      obtain ⟨d, o, B, e, dq, v0, v1, v2, v3, v4, rfl, hd, hsh, hat⟩ := (HL.out wj hT.bel).at_ j hlt
      obtain ⟨d', o', B', e', dq', u0, u1, u2, u3, u4, rfl, hd', hsh', hat'⟩ := (HM.out wj hT.bel).at_ j hltm
      have HNO := Lib.hid (fun h => sameArgs_no j hlt hltm h)
      have HYES := Lib.hid (fun h => take_eq_snoc hlt hltm hE.out h)
      have HS := Lib.hid (qsameArg_any l[j] m[j] B e dq v0 v1 v2 v3 v4 B' e' dq' u0 u1 u2 u3 u4 wj.drew (hsh.kept (below_drew1 (Below.refl _ _)) (Nat.le_refl _)) (hsh'.kept (below_drew1 (Below.refl _ _)) (Nat.le_refl _)))
      obtain ⟨xk, xn, xs, xa, xb, xc, xd, xe, xf, hxx⟩ := hsh.v.cells5
      simp only [List.cons.injEq, and_true] at hxx
      obtain ⟨rfl, rfl, rfl, rfl, rfl⟩ := hxx
      obtain ⟨yk, yn, ys, ya, yb, yc, yd, ye, yf, hxx⟩ := hsh'.v.cells5
      simp only [List.cons.injEq, and_true] at hxx
      obtain ⟨rfl, rfl, rfl, rfl, rfl⟩ := hxx
      have HTJ := Lib.hid hT
      have hatd : ArgAt wj.drew d (o + j * 12) l[j] (.slice B l[j].q.length e) (.int .u8 xk) (.int .u64 xn) (.string xs) (.slice xa xb xc) (.slice xd xe xf) := hat
      have hatd' : ArgAt wj.drew d' (o' + j * 12) m[j] (.slice B' m[j].q.length e') (.int .u8 yk) (.int .u64 yn) (.string ys) (.slice ya yb yc) (.slice yd ye yf) := hat'
      have p3d : wj.drew.cell? ⟨w.heap.size, 3, none⟩ = some (.slice (some ⟨d, o, none⟩) l.length c) := p3
      have q3d : wj.drew.cell? ⟨w.heap.size + 1, 3, none⟩ = some (.slice (some ⟨d', o', none⟩) m.length c') := q3
      clear hsh hsh' hE hat hat'
      generalize l[j] = aj at *
      generalize m[j] = bj at *
      obtain ⟨ai, an, az, af, ag, ah, aq, av⟩ := aj
      obtain ⟨bi, bn, bz, bf, bg, bh, bq, bv⟩ := bj
      generalize sameA ⟨ai, an, az, af, ag, ah, aq, av⟩ ⟨bi, bn, bz, bf, bg, bh, bq, bv⟩ = S at *
      unfold argV at HS
      have HATA := Lib.hid hatd
      have HATB := Lib.hid hatd'
      unfold ArgAt at hatd hatd'
      simp only [] at HS hatd hatd' HNO HYES
      have HALL := Lib.hid (And.intro (And.intro p3d q3d) (And.intro hatd hatd'))
      clear p3d q3d hatd hatd'
      go_upto_region 6 with fail
      clear p3 q3
      go_region_held3 (fun w' => (w'.cell? ⟨w.heap.size, 3, none⟩ = some (.slice (some ⟨d, o, none⟩) l.length c) ∧ w'.cell? ⟨w.heap.size + 1, 3, none⟩ = some (.slice (some ⟨d', o', none⟩) m.length c')) ∧ ((w'.cell? ⟨d, o + j * 12, none⟩ = some (.bool ai) ∧ w'.cell? ⟨d, o + j * 12 + 1, none⟩ = some (.int .u64 an) ∧ w'.cell? ⟨d, o + j * 12 + 2, none⟩ = some (.string az)) ∧ (w'.cell? ⟨d, o + j * 12 + 3, none⟩ = some (.int .u32 af) ∧ w'.cell? ⟨d, o + j * 12 + 4, none⟩ = some (.string ag) ∧ w'.cell? ⟨d, o + j * 12 + 5, none⟩ = some (.string ah)) ∧ w'.cell? ⟨d, o + j * 12 + 6, none⟩ = some (.slice B aq.length e) ∧ (w'.cell? ⟨d, o + j * 12 + 7, none⟩ = some (.int .u8 xk) ∧ w'.cell? ⟨d, o + j * 12 + 8, none⟩ = some (.int .u64 xn) ∧ w'.cell? ⟨d, o + j * 12 + 9, none⟩ = some (.string xs) ∧ w'.cell? ⟨d, o + j * 12 + 10, none⟩ = some (.slice xa xb xc) ∧ w'.cell? ⟨d, o + j * 12 + 11, none⟩ = some (.slice xd xe xf))) ∧ ((w'.cell? ⟨d', o' + j * 12, none⟩ = some (.bool bi) ∧ w'.cell? ⟨d', o' + j * 12 + 1, none⟩ = some (.int .u64 bn) ∧ w'.cell? ⟨d', o' + j * 12 + 2, none⟩ = some (.string bz)) ∧ (w'.cell? ⟨d', o' + j * 12 + 3, none⟩ = some (.int .u32 bf) ∧ w'.cell? ⟨d', o' + j * 12 + 4, none⟩ = some (.string bg) ∧ w'.cell? ⟨d', o' + j * 12 + 5, none⟩ = some (.string bh)) ∧ w'.cell? ⟨d', o' + j * 12 + 6, none⟩ = some (.slice B' bq.length e') ∧ (w'.cell? ⟨d', o' + j * 12 + 7, none⟩ = some (.int .u8 yk) ∧ w'.cell? ⟨d', o' + j * 12 + 8, none⟩ = some (.int .u64 yn) ∧ w'.cell? ⟨d', o' + j * 12 + 9, none⟩ = some (.string ys) ∧ w'.cell? ⟨d', o' + j * 12 + 10, none⟩ = some (.slice ya yb yc) ∧ w'.cell? ⟨d', o' + j * 12 + 11, none⟩ = some (.slice yd ye yf)))) (first | exact HALL5.out | with_reducible exact HALL.out)
        (first
          | (go_at_call 27
             with_reducible refine HS.out.mono ?_
             rintro e5 w5 ⟨rfl, hb5⟩
             have hT5 := (HTJ.out.step (below_drew1 (Below.refl _ _))).step hb5
             have ha5 := HATA.out.keep (w' := w5) (fun k => World.cell?_of_block (w := wj.drew) (hb5.block d hd))
             have hb5' := HATB.out.keep (w' := w5) (fun k => World.cell?_of_block (w := wj.drew) (hb5.block d' hd'))
             have HALL5 := Lib.hid (And.intro (And.intro hT5.a.c3 hT5.b.c3) (And.intro ha5 hb5'))))
      all_goals
        cases S with
        | true =>
          go_wp2_with fail
          go_roundw
          case rel => exact ⟨j + 1, by omega, by go_num, hT5, Lib.hid (HYES.out rfl)⟩
          case measure => simp [intOf]; omega
        | false =>
          obtain rfl : R = false := by rw [HR.out]; exact HNO.out rfl
          go_wp2_with fail
          go_ret
          exact ⟨rfl, hT5.bel⟩
    · have hjl : ¬ (j : Int) < (l.length : Int) := by omega
      obtain rfl : R = true := by
        have h := hE.out
        rw [List.take_of_length_le (by omega), List.take_of_length_le (by have := HLEN.out; omega)] at h
        rw [HR.out]
        exact (sameArgs_iff _ _).2 h
      go_wp2_with fail
      go_ret
      exact ⟨rfl, hT.bel⟩
end Go.Proofs.YtpbdnfonflmncaaGreat
namespace Go.Proofs.YtpbdnfonflmncaaGreat
open Go.ChangeShapes Go.WideShapes Go.ChangeAt Go.RowKit
open Go.ChangeMaps (open_string shut_string)
section
variable {H : Type} {enc : TypeId × Value → H} {w : World} {base : Nat} {spare : Nat → Bool} {held : Bool}
end
end Go.Proofs.YtpbdnfonflmncaaGreat
namespace Go.Proofs.YtpbdnfonflmncaaGreat
open Go.ChangeShapes Go.WideShapes Go.ChangeAt Go.RowKit
open Go.ChangeMaps (open_string shut_string)
section
variable {H : Type} {enc : TypeId × Value → H} {w : World} {base : Nat} {spare : Nat → Bool} {held : Bool}
end
end Go.Proofs.YtpbdnfonflmncaaGreat
