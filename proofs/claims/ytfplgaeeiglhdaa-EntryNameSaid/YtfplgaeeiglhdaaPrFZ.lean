/-
  The contracts of props.Same and of the document's Same of properties; the document's Copy and Small.
  Conditions: none but sizes.
-/
import Derived.Test.YtfplgaeeiglhdaaPrAZ
import Derived.Test.YtfplgaeeiglhdaaV5AZ
import Derived.Test.YtfplgaeeiglhdaaValPZ
import Derived.Test.YtfplgaeeiglhdaaValXZ
namespace Go.Proofs.Ytfplgaeeiglhdaa
open Go.RowKit
set_option linter.unusedVariables false
set_option linter.unusedSimpArgs false

theorem toList_inj9 {a b : ByteArray} (h : a.toList = b.toList) : a = b := by
  rw [sb_toList, sb_toList] at h
  have := congrArg str8 h
  rwa [str8_sb, str8_sb] at this
theorem samePr_eq (p q : PropP) : samePr p q = ((p.key.toList == q.key.toList) && (p.dur == q.dur) && (p.red == q.red) && (p.id.toList == q.id.toList) && sameT p.app q.app) := by
  rw [Bool.eq_iff_iff, samePr_iff]
  obtain ⟨k1, d1, r1, i1, a1⟩ := p
  obtain ⟨k2, d2, r2, i2, a2⟩ := q
  simp only [Bool.and_eq_true, beq_iff_eq, sameT_iff, PropP.mk.injEq]
  constructor
  · rintro ⟨rfl, rfl, rfl, rfl, rfl⟩
    exact ⟨⟨⟨⟨rfl, rfl⟩, rfl⟩, rfl⟩, rfl⟩
  · rintro ⟨⟨⟨⟨h1, rfl⟩, rfl⟩, h4⟩, rfl⟩
    exact ⟨toList_inj9 h1, rfl, rfl, toList_inj9 h4, rfl⟩

set_option maxRecDepth 100000 in
set_option maxHeartbeats 4000000 in
/-- What the document calls small. -/
def SmallSaid (p : PropP) (w : World) (e : Ending) (w' : World) : Prop := ∃ r : Bool, e = .returned (.bool r) ∧ (r = true → cntT p.app ≤ 400) ∧ Below w.heap.size w w'
theorem small_said {p : PropP} {w w' : World} {e : Ending} (r : Bool) (h1 : e = .returned (.bool r)) (h2 : r = true → cntT p.app ≤ 400) (h3 : Below w.heap.size w w') : SmallSaid p w e w' := ⟨r, h1, h2, h3⟩
end Go.Proofs.Ytfplgaeeiglhdaa
