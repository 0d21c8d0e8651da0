/-
  The contract of the document's own Same for rows of frames.
  Conditions: none but sizes.
-/
import Derived.Test.YtdjdhnopieeibaaFrH
namespace Go.Proofs.Ytdjdhnopieeibaa
open Go.RowKit
set_option linter.unusedVariables false
set_option linter.unusedSimpArgs false

theorem frGuard : Try.prog.eqGuardType Try.prog.depth 40 = false := by kernel_rfl
theorem frFields : Try.prog.underlying 40 = some (.struct (Try.prog.fieldsOf 40)) := by kernel_rfl
theorem frHeld : Try.prog.stoodInHeld 40 = false := by kernel_rfl
theorem toList_ne {a b : ByteArray} (h : a ≠ b) : ¬ a.toList = b.toList := fun e => h (by rw [← str8_sb a, ← str8_sb b, ← sb_toList, ← sb_toList, e])
theorem toList_beq (a b : ByteArray) : (a.toList == b.toList) = decide (a = b) := by
  by_cases h : a = b
  · subst h; simp
  · rw [decide_eq_false h]
    simpa using toList_ne h
theorem run_eq_fr (f g : Fr) (w : World) : (Op.equalIn 10000 40 (.agg #[.bool f.a, .bool f.b, .bool f.c, .bool f.d, .int .u8 f.t, .int .u8 f.k, .int .u16 f.ch, .string f.p]) (.agg #[.bool g.a, .bool g.b, .bool g.c, .bool g.d, .int .u8 g.t, .int .u8 g.k, .int .u16 g.ch, .string g.p])).run Try.prog w = .ok (decide (f = g)) w := by
  rw [run_equalIn_agg w 9999 40 _ _ frFields frHeld]
  have hm : (Try.prog.fieldsOf 40).toList.map (fun f => (f.type, f.offset, f.name == "_")) = [(4, 0, false), (4, 1, false), (4, 2, false), (4, 3, false), (5, 4, false), (5, 5, false), (38, 6, false), (9, 7, false)] := by kernel_rfl
  generalize (Try.prog.fieldsOf 40).toList = fs at hm ⊢
  obtain ⟨f0, t0, rfl, p0, hm⟩ := List.map_eq_cons_iff.1 hm
  obtain ⟨f1, t1, rfl, p1, hm⟩ := List.map_eq_cons_iff.1 hm
  obtain ⟨f2, t2, rfl, p2, hm⟩ := List.map_eq_cons_iff.1 hm
  obtain ⟨f3, t3, rfl, p3, hm⟩ := List.map_eq_cons_iff.1 hm
  obtain ⟨f4, t4, rfl, p4, hm⟩ := List.map_eq_cons_iff.1 hm
  obtain ⟨f5, t5, rfl, p5, hm⟩ := List.map_eq_cons_iff.1 hm
  obtain ⟨f6, t6, rfl, p6, hm⟩ := List.map_eq_cons_iff.1 hm
  obtain ⟨f7, t7, rfl, p7, hm⟩ := List.map_eq_cons_iff.1 hm
  obtain rfl : t7 = [] := List.map_eq_nil_iff.1 hm
  simp only [Prod.mk.injEq] at p0 p1 p2 p3 p4 p5 p6 p7
  obtain ⟨a0, b0, c0⟩ := p0
  obtain ⟨a1, b1, c1⟩ := p1
  obtain ⟨a2, b2, c2⟩ := p2
  obtain ⟨a3, b3, c3⟩ := p3
  obtain ⟨a4, b4, c4⟩ := p4
  obtain ⟨a5, b5, c5⟩ := p5
  obtain ⟨a6, b6, c6⟩ := p6
  obtain ⟨a7, b7, c7⟩ := p7
  have d0 : ¬ f0.name = "_" := by simpa using c0
  have d1 : ¬ f1.name = "_" := by simpa using c1
  have d2 : ¬ f2.name = "_" := by simpa using c2
  have d3 : ¬ f3.name = "_" := by simpa using c3
  have d4 : ¬ f4.name = "_" := by simpa using c4
  have d5 : ¬ f5.name = "_" := by simpa using c5
  have d6 : ¬ f6.name = "_" := by simpa using c6
  have d7 : ¬ f7.name = "_" := by simpa using c7
  have e1 : ∀ x y : Bool, (Op.equalIn 9999 4 (.bool x) (.bool y)).run Try.prog w = .ok (x == y) w := fun x y => run_equalIn_bool w 9998 4 _ _ Try.underlying4
  have e2 : ∀ x y : Nat, (Op.equalIn 9999 5 (.int .u8 (x : Int)) (.int .u8 (y : Int))).run Try.prog w = .ok ((x : Int) == (y : Int)) w := fun x y => run_equalIn_int w 9998 5 .u8 .u8 _ _ Try.underlying5
  have e3 : ∀ x y : Nat, (Op.equalIn 9999 38 (.int .u16 (x : Int)) (.int .u16 (y : Int))).run Try.prog w = .ok ((x : Int) == (y : Int)) w := fun x y => run_equalIn_int w 9998 38 .u16 .u16 _ _ Try.underlying38
  have e4 : ∀ x y : ByteArray, (Op.equalIn 9999 9 (.string x) (.string y)).run Try.prog w = .ok (decide (x = y)) w := fun x y => by rw [← toList_beq]; exact run_equalIn_string w 9998 9 _ _ Try.underlying9
  obtain ⟨fa, fb, fc, fd, ft, fk, fch, fp⟩ := f
  obtain ⟨ga, gb, gc, gd, gt, gk, gch, gp⟩ := g
  simp only [Fr.mk.injEq]
  by_cases k0 : fa = ga
  · by_cases k1 : fb = gb
    · by_cases k2 : fc = gc
      · by_cases k3 : fd = gd
        · by_cases k4 : ft = gt
          · by_cases k5 : fk = gk
            · by_cases k6 : fch = gch
              · by_cases k7 : fp = gp
                · simp [Op.eqFields, part, a0, b0, d0, a1, b1, d1, a2, b2, d2, a3, b3, d3, a4, b4, d4, a5, b5, d5, a6, b6, d6, a7, b7, d7, e1, e2, e3, e4, k0, k1, k2, k3, k4, k5, k6, k7]
                · simp [Op.eqFields, part, a0, b0, d0, a1, b1, d1, a2, b2, d2, a3, b3, d3, a4, b4, d4, a5, b5, d5, a6, b6, d6, a7, b7, d7, e1, e2, e3, e4, k0, k1, k2, k3, k4, k5, k6, k7]
              · simp [Op.eqFields, part, a0, b0, d0, a1, b1, d1, a2, b2, d2, a3, b3, d3, a4, b4, d4, a5, b5, d5, a6, b6, d6, e1, e2, e3, e4, k0, k1, k2, k3, k4, k5, k6]; intro h; omega
            · simp [Op.eqFields, part, a0, b0, d0, a1, b1, d1, a2, b2, d2, a3, b3, d3, a4, b4, d4, a5, b5, d5, e1, e2, e3, e4, k0, k1, k2, k3, k4, k5]; intro h; omega
          · simp [Op.eqFields, part, a0, b0, d0, a1, b1, d1, a2, b2, d2, a3, b3, d3, a4, b4, d4, e1, e2, e3, e4, k0, k1, k2, k3, k4]; intro h; omega
        · simp [Op.eqFields, part, a0, b0, d0, a1, b1, d1, a2, b2, d2, a3, b3, d3, e1, e2, e3, e4, k0, k1, k2, k3]
      · simp [Op.eqFields, part, a0, b0, d0, a1, b1, d1, a2, b2, d2, e1, e2, e3, e4, k0, k1, k2]
    · simp [Op.eqFields, part, a0, b0, d0, a1, b1, d1, e1, e2, e3, e4, k0, k1]
  · simp [Op.eqFields, part, a0, b0, d0, e1, e2, e3, e4, k0]

set_option maxRecDepth 100000 in
set_option maxHeartbeats 2000000 in
theorem qfsame_any (A1 A2 : Option Addr) (c1 c2 n1 n2 d1 d2 : Nat) (l m : List Fr) (w : World) (hn1 : l.length = n1) (hn2 : m.length = n2) (hl : ShowsG frC w d1 (.slice A1 n1 c1) l) (hm : ShowsG frC w d2 (.slice A2 n2 c2) m) (hb : n1 ≤ 17592186044416) (hb2 : n2 ≤ 17592186044416) :
    Calls Try.prog 19 #[.slice A1 n1 c1, .slice A2 n2 c2] w fun e w' => e = .returned (.bool (decide (l = m))) ∧ ∃ q, w' = w.drewN q := by
  subst hn1
  subst hn2
  by_cases hlen : l.length = m.length
  · go_enter Try.func19, Try.ntmps19
    have hne : ((l.length : Int) != (m.length : Int)) = false := by simp; omega
    go_wp2_with fail
    go_loopw [5] (fun i wr => ∃ k q : Nat, k ≤ l.length ∧ i = .int .i64 k ∧ wr = w.drewN q ∧ l.take k = m.take k) (fun i _ => l.length - (intOf i).toNat)
    case atStart => exact ⟨0, 0, Nat.zero_le _, rfl, rfl, rfl⟩
    case round =>
      obtain ⟨k, q, hk, rfl, rfl, hsame⟩ := hrel
      by_cases hlt : k < l.length
      · have hlt2 : k < m.length := by omega
        obtain ⟨o, rfl, _, hcl⟩ := hl.at_ (by omega)
        obtain ⟨o', rfl, _, hcm⟩ := hm.at_ (by omega)
        obtain ⟨x0, x1, x2, x3, x4, x5, x6, x7⟩ := fr_cell hcl hlt
        obtain ⟨y0, y1, y2, y3, y4, y5, y6, y7⟩ := fr_cell hcm hlt2
        have hkl : (k : Int) < (l.length : Int) := by omega
        have hkm : (k : Int) < (m.length : Int) := by omega
        have hG := frGuard
        have hstep : l[k] = m[k] → l.take (k + 1) = m.take (k + 1) := fun h => by
          rw [List.take_succ_eq_append_getElem hlt, List.take_succ_eq_append_getElem hlt2, hsame, h]
        by_cases heq : l[k] = m[k]
        · have HS := Lib.hid (hstep heq)
          have hE2 := run_eq_fr l[k] m[k]
          rw [decide_eq_true heq] at hE2
          clear hcl hcm hstep hsame heq
          generalize l[k] = f at *
          generalize m[k] = g at *
          obtain ⟨fa, fb, fc, fd, ft, fk, fch, fp⟩ := f
          obtain ⟨ga, gb, gc, gd, gt, gk, gch, gp⟩ := g
          simp only [] at hE2 x0 x1 x2 x3 x4 x5 x6 x7 y0 y1 y2 y3 y4 y5 y6 y7
          go_wp2_with fail
          go_quiet (fail)
          go_wp2_with fail
          go_roundw
          case rel => exact ⟨k + 1, _, by omega, by go_num, rfl, HS.out⟩
          case measure => simp [intOf]; omega
        · have hfin : decide (l = m) = false := by
            simp
            rintro rfl
            exact heq rfl
          have hE2 := run_eq_fr l[k] m[k]
          rw [decide_eq_false heq] at hE2
          clear hcl hcm hstep hsame heq
          generalize l[k] = f at *
          generalize m[k] = g at *
          obtain ⟨fa, fb, fc, fd, ft, fk, fch, fp⟩ := f
          obtain ⟨ga, gb, gc, gd, gt, gk, gch, gp⟩ := g
          simp only [] at hE2 x0 x1 x2 x3 x4 x5 x6 x7 y0 y1 y2 y3 y4 y5 y6 y7
          go_wp2_with fail
          go_quiet (fail)
          go_wp2_with fail
          go_ret
          exact ⟨by first | rfl | (rw [hfin]; rfl), q + nq, World.drewN_drewN _ _ _⟩
      · have hfin : decide (l = m) = true := by
          rw [List.take_of_length_le (by omega), List.take_of_length_le (by omega)] at hsame
          simpa using hsame
        clear hsame
        go_wp2_with fail
        go_ret
        exact ⟨by first | rfl | (rw [hfin]; rfl), q, rfl⟩
  · have hfin : decide (l = m) = false := by
      simp
      rintro rfl
      exact hlen rfl
    have hne : ((l.length : Int) != (m.length : Int)) = true := by simp; omega
    go_enter Try.func19, Try.ntmps19
    go_wp2_with fail
    go_ret
    exact ⟨by first | rfl | (rw [hfin]; rfl), 0, rfl⟩

end Go.Proofs.Ytdjdhnopieeibaa
