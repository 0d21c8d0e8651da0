/-
  The contract of entry.Same.
  Conditions: none but sizes.
-/
import Derived.BigQuiet
import Derived.Test.YtpmafabphlejeaaGreatEnBZ
import Derived.Test.YtpmafabphlejeaaGreatPrFZ
namespace Go.Proofs.YtpmafabphlejeaaGreat
open Go.RowKit
set_option linter.unusedVariables false
set_option linter.unusedSimpArgs false
set_option maxRecDepth 100000

section
variable {α : Type} {f : α → α → Bool}
theorem sameRow_len : ∀ {a b : List α}, a.length ≠ b.length → sameRow f a b = false
  | [], [], h => absurd rfl h
  | [], y :: b, _ => rfl
  | x :: a, [], _ => rfl
  | x :: a, y :: b, h => by
    unfold sameRow
    rw [sameRow_len (by simpa using h), Bool.and_false]
theorem sameRow_diff : ∀ {a b : List α} (j : Nat) (h1 : j < a.length) (h2 : j < b.length), f a[j] b[j] = false → sameRow f a b = false
  | x :: a, y :: b, 0, _, _, h => by
    unfold sameRow
    have h' : f x y = false := h
    rw [h', Bool.false_and]
  | x :: a, y :: b, j + 1, h1, h2, h => by
    unfold sameRow
    rw [sameRow_diff j (by simpa using h1) (by simpa using h2) h, Bool.and_false]
theorem sameRow_all : ∀ {a b : List α}, a.length = b.length → (∀ j (h1 : j < a.length) (h2 : j < b.length), f a[j] b[j] = true) → sameRow f a b = true
  | [], [], _, _ => rfl
  | x :: a, y :: b, h, hf => by
    unfold sameRow
    have h0 : f x y = true := hf 0 (by simp) (by simp)
    rw [h0, Bool.true_and]
    exact sameRow_all (by simpa using h) fun j h1 h2 => hf (j + 1) (by simpa using h1) (by simpa using h2)
end
theorem samePE_eq (a b : PutE) : samePE a b = ((a.q.toList == b.q.toList) && (decide (a.id = b.id) && (samePr a.p b.p && (a.body.toList == b.body.toList)))) := by
  rw [Bool.eq_iff_iff, samePE_iff]
  simp only [Bool.and_eq_true, beq_iff_eq, decide_eq_true_eq, samePr_iff]
  obtain ⟨q, i, p, d⟩ := a
  obtain ⟨q', i', p', d'⟩ := b
  simp only [PutE.mk.injEq]
  constructor
  · rintro ⟨rfl, rfl, rfl, rfl⟩; exact ⟨rfl, rfl, rfl, rfl⟩
  · rintro ⟨h1, rfl, rfl, h4⟩; exact ⟨toList_inj9 h1, rfl, rfl, toList_inj9 h4⟩
theorem sameE_eq (a b : EntE) : sameE a b = (decide (a.k = b.k) && ((a.name.toList == b.name.toList) && (decide (a.n = b.n) && (decide ((a.xf, a.xg, a.xh) = (b.xf, b.xg, b.xh)) && (sameRow samePE a.puts b.puts && sameRow sameRE a.takes b.takes))))) := by
  rw [Bool.eq_iff_iff, sameE_iff]
  simp only [Bool.and_eq_true, beq_iff_eq, decide_eq_true_eq, sameRow_iff _ samePE_iff, sameRow_iff _ sameRE_iff, Prod.mk.injEq]
  obtain ⟨k, nm, n, f, g, h, p, t⟩ := a
  obtain ⟨k', nm', n', f', g', h', p', t'⟩ := b
  simp only [EntE.mk.injEq]
  constructor
  · rintro ⟨rfl, rfl, rfl, rfl, rfl, rfl, rfl, rfl⟩; exact ⟨rfl, rfl, rfl, ⟨rfl, rfl, rfl⟩, rfl, rfl⟩
  · rintro ⟨rfl, h2, rfl, ⟨rfl, rfl, rfl⟩, rfl, rfl⟩; exact ⟨rfl, toList_inj9 h2, rfl, rfl, rfl, rfl, rfl, rfl⟩

theorem refGuard : Tryz.prog.eqGuardType Tryz.prog.depth 37 = false := by kernel_rfl
theorem refFields : Tryz.prog.underlying 37 = some (.struct (Tryz.prog.fieldsOf 37)) := by kernel_rfl
theorem refHeld : Tryz.prog.stoodInHeld 37 = false := by kernel_rfl
theorem run_eq_ref (q q' : ByteArray) (a b : Nat) (w : World) : (Op.equalIn 10000 37 (.agg #[.string q, .int .u64 (a : Int)]) (.agg #[.string q', .int .u64 (b : Int)])).run Tryz.prog w = .ok (decide (q = q' ∧ a = b)) w := by
  rw [run_equalIn_agg w 9999 37 _ _ refFields refHeld]
  have hm : (Tryz.prog.fieldsOf 37).toList.map (fun f => (f.type, f.offset, f.name == "_")) = [(9, 0, false), (26, 1, false)] := by kernel_rfl
  generalize (Tryz.prog.fieldsOf 37).toList = fs at hm ⊢
  obtain ⟨f, t, rfl, hf, ht⟩ := List.map_eq_cons_iff.1 hm
  obtain ⟨f', t2, rfl, hg, ht2⟩ := List.map_eq_cons_iff.1 ht
  obtain rfl : t2 = [] := List.map_eq_nil_iff.1 ht2
  simp only [Prod.mk.injEq] at hf hg
  obtain ⟨f1, f2, f3⟩ := hf
  obtain ⟨g1, g2, g3⟩ := hg
  have f4 : ¬ f.name = "_" := by simpa using f3
  have g4 : ¬ f'.name = "_" := by simpa using g3
  have e1 : ∀ x y : Nat, (Op.equalIn 9999 26 (.int .u64 (x : Int)) (.int .u64 (y : Int))).run Tryz.prog w = .ok ((x : Int) == (y : Int)) w := fun x y => run_equalIn_int w 9998 26 .u64 .u64 _ _ Tryz.underlying26
  have e2 : ∀ x y : ByteArray, (Op.equalIn 9999 9 (.string x) (.string y)).run Tryz.prog w = .ok (decide (x = y)) w := fun x y => by rw [← toList_beq]; exact run_equalIn_string w 9998 9 _ _ Tryz.underlying9
  by_cases k1 : q = q'
  · by_cases k2 : a = b
    · simp [Op.eqFields, part, f1, f2, f4, g1, g2, g4, e1, e2, k1, k2]
    · simp [Op.eqFields, part, f1, f2, f4, g1, g2, g4, e1, e2, k1, k2]; omega
  · simp [Op.eqFields, part, f1, f2, f4, g1, g2, g4, e1, e2, k1]

/-- Two puts in boxes. -/
structure TwoT (w : World) (c c' : PutC) (wx : World) : Prop where
  a : BoxT wx w.heap.size c
  b : BoxT wx (w.heap.size + 1) c'
  bel : Below w.heap.size w wx
theorem TwoT.step {w wx wy : World} {c c' : PutC} (h : TwoT w c c' wx) (hb : Below wx.heap.size wx wy) : TwoT w c c' wy := ⟨h.a.kept hb (Nat.le_refl _), h.b.kept hb (Nat.le_refl _), h.bel.trans (hb.mono h.bel.size)⟩
theorem TwoT.new (w : World) (c c' : PutC) : TwoT w c c' ((w.alloc (Obj.cells #[.string c.e.q, .int .u64 c.e.id, .string c.e.p.key, .bool c.e.p.dur, .bool c.e.p.red, .string c.e.p.id, .int .u8 c.x.k, .int .u64 c.x.n, .string c.x.s, .slice c.x.a3 c.x.n3 c.x.c3, .slice c.x.a4 c.x.n4 c.x.c4, .string c.e.body] 35)).alloc (Obj.cells #[.string c'.e.q, .int .u64 c'.e.id, .string c'.e.p.key, .bool c'.e.p.dur, .bool c'.e.p.red, .string c'.e.p.id, .int .u8 c'.x.k, .int .u64 c'.x.n, .string c'.x.s, .slice c'.x.a3 c'.x.n3 c'.x.c3, .slice c'.x.a4 c'.x.n4 c'.x.c4, .string c'.e.body] 35)) := by
  have hB1 := below_boxV w (Obj.cells #[.string c.e.q, .int .u64 c.e.id, .string c.e.p.key, .bool c.e.p.dur, .bool c.e.p.red, .string c.e.p.id, .int .u8 c.x.k, .int .u64 c.x.n, .string c.x.s, .slice c.x.a3 c.x.n3 c.x.c3, .slice c.x.a4 c.x.n4 c.x.c4, .string c.e.body] 35)
  have hB2 := below_boxV (w.alloc (Obj.cells #[.string c.e.q, .int .u64 c.e.id, .string c.e.p.key, .bool c.e.p.dur, .bool c.e.p.red, .string c.e.p.id, .int .u8 c.x.k, .int .u64 c.x.n, .string c.x.s, .slice c.x.a3 c.x.n3 c.x.c3, .slice c.x.a4 c.x.n4 c.x.c4, .string c.e.body] 35)) (Obj.cells #[.string c'.e.q, .int .u64 c'.e.id, .string c'.e.p.key, .bool c'.e.p.dur, .bool c'.e.p.red, .string c'.e.p.id, .int .u8 c'.x.k, .int .u64 c'.x.n, .string c'.x.s, .slice c'.x.a3 c'.x.n3 c'.x.c3, .slice c'.x.a4 c'.x.n4 c'.x.c4, .string c'.e.body] 35)
  have hX2 := BoxT.new (c := c') (w.alloc (Obj.cells #[.string c.e.q, .int .u64 c.e.id, .string c.e.p.key, .bool c.e.p.dur, .bool c.e.p.red, .string c.e.p.id, .int .u8 c.x.k, .int .u64 c.x.n, .string c.x.s, .slice c.x.a3 c.x.n3 c.x.c3, .slice c.x.a4 c.x.n4 c.x.c4, .string c.e.body] 35))
  rw [World.size_alloc] at hX2
  exact ⟨BoxT.kept (BoxT.new w) hB2 (Nat.le_refl _), hX2, hB1.trans (hB2.mono hB1.size)⟩

/-- Two entries in boxes. -/
structure TwoE (w : World) (x y : EntC) (wx : World) : Prop where
  a : BoxE wx w.heap.size x
  b : BoxE wx (w.heap.size + 1) y
  bel : Below w.heap.size w wx
theorem TwoE.step {w wx wy : World} {x y : EntC} (h : TwoE w x y wx) (hb : Below wx.heap.size wx wy) : TwoE w x y wy := ⟨h.a.kept hb (Nat.le_refl _), h.b.kept hb (Nat.le_refl _), h.bel.trans (hb.mono h.bel.size)⟩
theorem TwoE.new (w : World) (x y : EntC) : TwoE w x y ((w.alloc (Obj.cells #[.int .u8 x.k, .string x.name, .int .u64 x.n, .int .u32 x.xf, .string x.xg, .string x.xh, .slice x.A1 x.cs.length x.c1, .slice x.A2 x.rs.length x.c2] 57)).alloc (Obj.cells #[.int .u8 y.k, .string y.name, .int .u64 y.n, .int .u32 y.xf, .string y.xg, .string y.xh, .slice y.A1 y.cs.length y.c1, .slice y.A2 y.rs.length y.c2] 57)) := by
  have hB1 := below_boxV w (Obj.cells #[.int .u8 x.k, .string x.name, .int .u64 x.n, .int .u32 x.xf, .string x.xg, .string x.xh, .slice x.A1 x.cs.length x.c1, .slice x.A2 x.rs.length x.c2] 57)
  have hB2 := below_boxV (w.alloc (Obj.cells #[.int .u8 x.k, .string x.name, .int .u64 x.n, .int .u32 x.xf, .string x.xg, .string x.xh, .slice x.A1 x.cs.length x.c1, .slice x.A2 x.rs.length x.c2] 57)) (Obj.cells #[.int .u8 y.k, .string y.name, .int .u64 y.n, .int .u32 y.xf, .string y.xg, .string y.xh, .slice y.A1 y.cs.length y.c1, .slice y.A2 y.rs.length y.c2] 57)
  have hX2 := BoxE.new (x := y) (w.alloc (Obj.cells #[.int .u8 x.k, .string x.name, .int .u64 x.n, .int .u32 x.xf, .string x.xg, .string x.xh, .slice x.A1 x.cs.length x.c1, .slice x.A2 x.rs.length x.c2] 57))
  rw [World.size_alloc] at hX2
  exact ⟨BoxE.kept (BoxE.new w) hB2 (Nat.le_refl _), hX2, hB1.trans (hB2.mono hB1.size)⟩

end Go.Proofs.YtpmafabphlejeaaGreat
