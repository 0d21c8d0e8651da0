/-
  The contract of the document's own Same for rows of frames.
  Conditions: none but sizes.
-/
import Derived.Test.YtdjahdnaihijjaaGreatDoorFrGZ
namespace Go.Proofs.YtdjahdnaihijjaaGreatDoor
open Go.RowKit
set_option linter.unusedVariables false
set_option linter.unusedSimpArgs false

theorem frGuard : Tryz.prog.eqGuardType Tryz.prog.depth 51 = false := by kernel_rfl
theorem frFields : Tryz.prog.underlying 51 = some (.struct (Tryz.prog.fieldsOf 51)) := by kernel_rfl
theorem frHeld : Tryz.prog.stoodInHeld 51 = false := by kernel_rfl
theorem f_toList_ne {a b : ByteArray} (h : a ≠ b) : ¬ a.toList = b.toList := fun e => h (by rw [← str8_sb a, ← str8_sb b, ← sb_toList, ← sb_toList, e])
theorem toList_beq (a b : ByteArray) : (a.toList == b.toList) = decide (a = b) := by
  by_cases h : a = b
  · subst h; simp
  · rw [decide_eq_false h]
    simpa using f_toList_ne h
theorem run_eq_fr (f g : Fr) (w : World) : (Op.equalIn 10000 51 (.agg #[.bool f.a, .bool f.b, .bool f.c, .bool f.d, .int .u8 f.t, .int .u8 f.k, .int .u16 f.ch, .string f.p]) (.agg #[.bool g.a, .bool g.b, .bool g.c, .bool g.d, .int .u8 g.t, .int .u8 g.k, .int .u16 g.ch, .string g.p])).run Tryz.prog w = .ok (decide (f = g)) w := by
  rw [run_equalIn_agg w 9999 51 _ _ frFields frHeld]
  have hm : (Tryz.prog.fieldsOf 51).toList.map (fun f => (f.type, f.offset, f.name == "_")) = [(4, 0, false), (4, 1, false), (4, 2, false), (4, 3, false), (5, 4, false), (5, 5, false), (30, 6, false), (9, 7, false)] := by kernel_rfl
  generalize (Tryz.prog.fieldsOf 51).toList = fs at hm ⊢
  obtain ⟨f0, t0, rfl, p0, hm⟩ := List.map_eq_cons_iff.1 hm
  obtain ⟨f1, t1, rfl, p1, hm⟩ := List.map_eq_cons_iff.1 hm
  obtain ⟨f2, t2, rfl, p2, hm⟩ := List.map_eq_cons_iff.1 hm
  obtain ⟨f3, t3, rfl, p3, hm⟩ := List.map_eq_cons_iff.1 hm
  obtain ⟨f4, t4, rfl, p4, hm⟩ := List.map_eq_cons_iff.1 hm
  obtain ⟨f5, t5, rfl, p5, hm⟩ := List.map_eq_cons_iff.1 hm
  obtain ⟨f6, t6, rfl, p6, hm⟩ := List.map_eq_cons_iff.1 hm
  obtain ⟨f7, t7, rfl, p7, hm⟩ := List.map_eq_cons_iff.1 hm
  obtain rfl : t7 = [] := List.map_eq_nil_iff.1 hm
  simp only [Prod.mk.injEq] at p0 p1 p2 p3 p4 p5 p6 p7
  obtain ⟨a0, b0, c0⟩ := p0
  obtain ⟨a1, b1, c1⟩ := p1
  obtain ⟨a2, b2, c2⟩ := p2
  obtain ⟨a3, b3, c3⟩ := p3
  obtain ⟨a4, b4, c4⟩ := p4
  obtain ⟨a5, b5, c5⟩ := p5
  obtain ⟨a6, b6, c6⟩ := p6
  obtain ⟨a7, b7, c7⟩ := p7
  have d0 : ¬ f0.name = "_" := by simpa using c0
  have d1 : ¬ f1.name = "_" := by simpa using c1
  have d2 : ¬ f2.name = "_" := by simpa using c2
  have d3 : ¬ f3.name = "_" := by simpa using c3
  have d4 : ¬ f4.name = "_" := by simpa using c4
  have d5 : ¬ f5.name = "_" := by simpa using c5
  have d6 : ¬ f6.name = "_" := by simpa using c6
  have d7 : ¬ f7.name = "_" := by simpa using c7
  have e1 : ∀ x y : Bool, (Op.equalIn 9999 4 (.bool x) (.bool y)).run Tryz.prog w = .ok (x == y) w := fun x y => run_equalIn_bool w 9998 4 _ _ Tryz.underlying4
  have e2 : ∀ x y : Nat, (Op.equalIn 9999 5 (.int .u8 (x : Int)) (.int .u8 (y : Int))).run Tryz.prog w = .ok ((x : Int) == (y : Int)) w := fun x y => run_equalIn_int w 9998 5 .u8 .u8 _ _ Tryz.underlying5
  have e3 : ∀ x y : Nat, (Op.equalIn 9999 30 (.int .u16 (x : Int)) (.int .u16 (y : Int))).run Tryz.prog w = .ok ((x : Int) == (y : Int)) w := fun x y => run_equalIn_int w 9998 30 .u16 .u16 _ _ Tryz.underlying30
  have e4 : ∀ x y : ByteArray, (Op.equalIn 9999 9 (.string x) (.string y)).run Tryz.prog w = .ok (decide (x = y)) w := fun x y => by rw [← toList_beq]; exact run_equalIn_string w 9998 9 _ _ Tryz.underlying9
  obtain ⟨fa, fb, fc, fd, ft, fk, fch, fp⟩ := f
  obtain ⟨ga, gb, gc, gd, gt, gk, gch, gp⟩ := g
  simp only [Fr.mk.injEq]
  by_cases k0 : fa = ga
  · by_cases k1 : fb = gb
    · by_cases k2 : fc = gc
      · by_cases k3 : fd = gd
        · by_cases k4 : ft = gt
          · by_cases k5 : fk = gk
            · by_cases k6 : fch = gch
              · by_cases k7 : fp = gp
                · simp [Op.eqFields, part, a0, b0, d0, a1, b1, d1, a2, b2, d2, a3, b3, d3, a4, b4, d4, a5, b5, d5, a6, b6, d6, a7, b7, d7, e1, e2, e3, e4, k0, k1, k2, k3, k4, k5, k6, k7]
                · simp [Op.eqFields, part, a0, b0, d0, a1, b1, d1, a2, b2, d2, a3, b3, d3, a4, b4, d4, a5, b5, d5, a6, b6, d6, a7, b7, d7, e1, e2, e3, e4, k0, k1, k2, k3, k4, k5, k6, k7]
              · simp [Op.eqFields, part, a0, b0, d0, a1, b1, d1, a2, b2, d2, a3, b3, d3, a4, b4, d4, a5, b5, d5, a6, b6, d6, e1, e2, e3, e4, k0, k1, k2, k3, k4, k5, k6]; intro h; omega
            · simp [Op.eqFields, part, a0, b0, d0, a1, b1, d1, a2, b2, d2, a3, b3, d3, a4, b4, d4, a5, b5, d5, e1, e2, e3, e4, k0, k1, k2, k3, k4, k5]; intro h; omega
          · simp [Op.eqFields, part, a0, b0, d0, a1, b1, d1, a2, b2, d2, a3, b3, d3, a4, b4, d4, e1, e2, e3, e4, k0, k1, k2, k3, k4]; intro h; omega
        · simp [Op.eqFields, part, a0, b0, d0, a1, b1, d1, a2, b2, d2, a3, b3, d3, e1, e2, e3, e4, k0, k1, k2, k3]
      · simp [Op.eqFields, part, a0, b0, d0, a1, b1, d1, a2, b2, d2, e1, e2, e3, e4, k0, k1, k2]
    · simp [Op.eqFields, part, a0, b0, d0, a1, b1, d1, e1, e2, e3, e4, k0, k1]
  · simp [Op.eqFields, part, a0, b0, d0, e1, e2, e3, e4, k0]

end Go.Proofs.YtdjahdnaihijjaaGreatDoor
