/-
  The contracts of props.Same and of the document's Same of properties; the document's Copy and Small.
  Conditions: none but sizes.
-/
import Derived.Test.YtpmafabphlejeaaGreatPrAZ
import Derived.Test.YtpmafabphlejeaaGreatV5AZ
import Derived.Test.YtpmafabphlejeaaGreatValPZ
import Derived.Test.YtpmafabphlejeaaGreatValXZ
namespace Go.Proofs.YtpmafabphlejeaaGreat
open Go.RowKit
set_option linter.unusedVariables false
set_option linter.unusedSimpArgs false

theorem toList_inj9 {a b : ByteArray} (h : a.toList = b.toList) : a = b := by
  rw [sb_toList, sb_toList] at h
  have := congrArg str8 h
  rwa [str8_sb, str8_sb] at this
theorem samePr_eq (p q : PropP) : samePr p q = ((p.key.toList == q.key.toList) && (p.dur == q.dur) && (p.red == q.red) && (p.id.toList == q.id.toList) && sameT p.app q.app) := by
  rw [Bool.eq_iff_iff, samePr_iff]
  obtain ⟨k1, d1, r1, i1, a1⟩ := p
  obtain ⟨k2, d2, r2, i2, a2⟩ := q
  simp only [Bool.and_eq_true, beq_iff_eq, sameT_iff, PropP.mk.injEq]
  constructor
  · rintro ⟨rfl, rfl, rfl, rfl, rfl⟩
    exact ⟨⟨⟨⟨rfl, rfl⟩, rfl⟩, rfl⟩, rfl⟩
  · rintro ⟨⟨⟨⟨h1, rfl⟩, rfl⟩, h4⟩, rfl⟩
    exact ⟨toList_inj9 h1, rfl, rfl, toList_inj9 h4, rfl⟩

set_option maxRecDepth 100000 in
set_option maxHeartbeats 4000000 in
theorem qpsame_any (p q : PropP) (v0 v1 v2 v3 v4 u0 u1 u2 u3 u4 : Value) (w : World) (h : ShowsP w p v0 v1 v2 v3 v4) (h' : ShowsP w q u0 u1 u2 u3 u4) :
    Calls Tryz.prog 86 #[propV p v0 v1 v2 v3 v4, propV q u0 u1 u2 u3 u4] w fun e w' => e = .returned (.bool (samePr p q)) ∧ Below w.heap.size w w' := by
  have HS := Lib.hid (fun w' (hb : Below w.heap.size w w') => qsame_main _ p.app q.app _ _ w' rfl (h.app.kept hb (Nat.le_refl _)) (h'.app.kept hb (Nat.le_refl _)))
  obtain ⟨k1, d1, r1, i1, a1⟩ := p
  obtain ⟨k2, d2, r2, i2, a2⟩ := q
  rw [samePr_eq]
  unfold propV
  have hT := h.app
  have hU := h'.app
  simp only [] at hT hU HS ⊢
  obtain ⟨x0, x1, x2, x3, x4, x5, x6, x7, x8, hvs⟩ := hT.cells5
  simp only [List.cons.injEq, and_true] at hvs
  obtain ⟨rfl, rfl, rfl, rfl, rfl⟩ := hvs
  obtain ⟨y0, y1, y2, y3, y4, y5, y6, y7, y8, hvs⟩ := hU.cells5
  simp only [List.cons.injEq, and_true] at hvs
  obtain ⟨rfl, rfl, rfl, rfl, rfl⟩ := hvs
  have hB1 := below_boxV w (Obj.cells #[.string k1, .bool d1, .bool r1, .string i1, .int .u8 x0, .int .u64 x1, .string x2, .slice x3 x4 x5, .slice x6 x7 x8] 33)
  have hX1 := BoxPr.new (p := ⟨k1, d1, r1, i1, a1⟩) (v0 := .int .u8 x0) (v1 := .int .u64 x1) (v2 := .string x2) (v3 := .slice x3 x4 x5) (v4 := .slice x6 x7 x8) w
  simp only [] at hX1
  obtain ⟨W1, hW1⟩ : ∃ W1, W1 = w.alloc (Obj.cells #[.string k1, .bool d1, .bool r1, .string i1, .int .u8 x0, .int .u64 x1, .string x2, .slice x3 x4 x5, .slice x6 x7 x8] 33) := ⟨_, rfl⟩
  rw [← hW1] at hX1 hB1
  have hz1 : W1.heap.size = w.heap.size + 1 := by rw [hW1]; simp
  have hB2 := below_boxV W1 (Obj.cells #[.string k2, .bool d2, .bool r2, .string i2, .int .u8 y0, .int .u64 y1, .string y2, .slice y3 y4 y5, .slice y6 y7 y8] 33)
  have hX2 := BoxPr.new (p := ⟨k2, d2, r2, i2, a2⟩) (v0 := .int .u8 y0) (v1 := .int .u64 y1) (v2 := .string y2) (v3 := .slice y3 y4 y5) (v4 := .slice y6 y7 y8) W1
  simp only [] at hX2
  have hX1' := hX1.kept hB2 (Nat.le_refl _)
  have hB := hB1.trans (hB2.mono hB1.size)
  rw [hz1] at hX2
  obtain ⟨⟨p0, p1, p2, p3⟩, p4, p5, p6, p7, p8⟩ := hX1'.cells
  obtain ⟨⟨q0, q1, q2, q3⟩, q4, q5, q6, q7, q8⟩ := hX2.cells
  simp only [] at p0 p1 p2 p3 q0 q1 q2 q3
  have HS2 := Lib.hid (HS.out _ hB)
  have HB := Lib.hid hB
  subst hW1
  obtain ⟨e1, he1⟩ : ∃ e1, e1 = (k1.toList == k2.toList) := ⟨_, rfl⟩
  obtain ⟨e2, he2⟩ : ∃ e2, e2 = (d1 == d2) := ⟨_, rfl⟩
  obtain ⟨e3, he3⟩ : ∃ e3, e3 = (r1 == r2) := ⟨_, rfl⟩
  obtain ⟨e4, he4⟩ : ∃ e4, e4 = (i1.toList == i2.toList) := ⟨_, rfl⟩
  rw [← he1, ← he2, ← he3, ← he4]
  generalize sameT a1 a2 = E at *
  replace he1 := he1.symm
  replace he2 := he2.symm
  replace he3 := he3.symm
  replace he4 := he4.symm
  clear hB hB1 hB2 hX1 hX1' hX2 h h' hT hU HS
  go_enter Tryz.func86, Tryz.ntmps86
  cases e1 with
  | false =>
    go_wp2_with fail
    go_ret
    exact ⟨rfl, HB.out⟩
  | true =>
  cases e2 with
  | false =>
    go_wp2_with fail
    go_ret
    exact ⟨rfl, HB.out⟩
  | true =>
  cases e3 with
  | false =>
    go_wp2_with fail
    go_ret
    exact ⟨rfl, HB.out⟩
  | true =>
  cases e4 with
  | false =>
    go_wp2_with fail
    go_ret
    exact ⟨rfl, HB.out⟩
  | true =>
  go_wp2_with fail
  refine HS2.out.mono ?_
  rintro e w3 ⟨rfl, hb3⟩
  go_wp2_with fail
  go_ret
  exact ⟨rfl, HB.out.trans (hb3.mono HB.out.size)⟩

set_option maxRecDepth 100000 in
set_option maxHeartbeats 4000000 in
/-- What the document calls small. -/
def SmallSaid (p : PropP) (w : World) (e : Ending) (w' : World) : Prop := ∃ r : Bool, e = .returned (.bool r) ∧ (r = true → cntT p.app ≤ 400) ∧ Below w.heap.size w w'
theorem small_said {p : PropP} {w w' : World} {e : Ending} (r : Bool) (h1 : e = .returned (.bool r)) (h2 : r = true → cntT p.app ≤ 400) (h3 : Below w.heap.size w w') : SmallSaid p w e w' := ⟨r, h1, h2, h3⟩
theorem psmall_any (p : PropP) (v0 v1 v2 v3 v4 : Value) (w : World) (h : ShowsP w p v0 v1 v2 v3 v4) :
    Calls Tryz.prog 33 #[propV p v0 v1 v2 v3 v4] w (SmallSaid p w) := by
  have HS := Lib.hid (fun w' (hb : Below w.heap.size w w') => small_any p.app _ w' (h.app.kept hb (Nat.le_refl _)))
  obtain ⟨key, dur, red, id, app⟩ := p
  have hT := h.app
  have hz1 := h.key
  have hz2 := h.id
  unfold propV
  simp only [] at hT hz1 hz2 HS ⊢
  obtain ⟨k0, n0, s0, a3, n3, c3, a4, n4, c4, hvs⟩ := hT.cells5
  simp only [List.cons.injEq, and_true] at hvs
  obtain ⟨rfl, rfl, rfl, rfl, rfl⟩ := hvs
  have hB := below_boxV w (Obj.cells #[.string key, .bool dur, .bool red, .string id, .int .u8 k0, .int .u64 n0, .string s0, .slice a3 n3 c3, .slice a4 n4 c4] 33)
  have hX := BoxPr.new (p := ⟨key, dur, red, id, app⟩) (v0 := .int .u8 k0) (v1 := .int .u64 n0) (v2 := .string s0) (v3 := .slice a3 n3 c3) (v4 := .slice a4 n4 c4) w
  obtain ⟨⟨p0, p1, p2, p3⟩, p4, p5, p6, p7, p8⟩ := hX.cells
  simp only [] at p0 p1 p2 p3
  have HS2 := Lib.hid (HS.out _ hB)
  have HB := Lib.hid hB
  clear h hT hB hX HS
  by_cases h1 : key.size ≤ 1000
  · have t1 : decide ((key.size : Int) ≤ 1000) = true := by simp; omega
    by_cases h2 : id.size ≤ 1000
    · have t2 : decide ((id.size : Int) ≤ 1000) = true := by simp; omega
      go_enter Tryz.func33, Tryz.ntmps33
      go_wp2_with fail
      refine HS2.out.mono ?_
      rintro e w1 ⟨r, rfl, hr, hb1⟩
      cases r with
      | false =>
        go_wp2_with fail
        go_ret
        exact small_said false rfl (fun h => by simp at h) (HB.out.trans (hb1.mono HB.out.size))
      | true =>
        go_wp2_with fail
        go_ret
        exact small_said true rfl (fun _ => (hr trivial).1) (HB.out.trans (hb1.mono HB.out.size))
    · have t2 : decide ((id.size : Int) ≤ 1000) = false := by simp; omega
      go_enter Tryz.func33, Tryz.ntmps33
      go_wp2_with fail
      go_ret
      exact small_said false rfl (fun h => by simp at h) HB.out
  · have t1 : decide ((key.size : Int) ≤ 1000) = false := by simp; omega
    go_enter Tryz.func33, Tryz.ntmps33
    go_wp2_with fail
    go_ret
    exact small_said false rfl (fun h => by simp at h) HB.out

end Go.Proofs.YtpmafabphlejeaaGreat
