/-
  The contracts of frame.isStart and of the document's own Well.
  Conditions: none but sizes.
-/
import Derived.Test.YtocankfabgjjmaaFrC
import Derived.Deep.CutRange
namespace Go.Proofs.Ytocankfabgjjmaa
open Go.RowKit
set_option linter.unusedVariables false
set_option linter.unusedSimpArgs false

/-- The byte before. -/
def prevAt (l : List UInt8) (k : Nat) : Nat := if k = 0 then 0 else byteAt l (k - 1)
theorem prevAt_lt (l : List UInt8) (k : Nat) : prevAt l k < 256 := by
  unfold prevAt
  split
  · decide
  · exact byteAt_lt _ _

theorem shows_byte {w : World} {d o : Nat} {l : List UInt8} (h : ∀ j (h : j < l.length), w.cell? ⟨d, o + j, none⟩ = some (u8c l[j])) {k : Nat} (hk : k < l.length) : w.cell? ⟨d, o + k, none⟩ = some (.int .u8 (byteAt l k)) := by
  rw [h k hk]
  show some (Value.int .u8 ((l[k]).toNat : Int)) = _
  rw [byteAt_get hk]

theorem wraps_two (x y z : Nat) (hx : x < 256) (hy : y < 256) (hz : z = 256 * x + y) : IntKind.i64.wrap (x : Int) = (x : Int) ∧ IntKind.i64.wrap (y : Int) = (y : Int) ∧ IntKind.i64.wrap (256 * (x : Int)) = 256 * (x : Int) ∧ IntKind.i64.wrap (256 * (x : Int) + (y : Int)) = (z : Int) ∧
    wrap64 (x : Int) = (x : Int) ∧ wrap64 (y : Int) = (y : Int) ∧ wrap64 (256 * (x : Int)) = 256 * (x : Int) ∧ wrap64 (256 * (x : Int) + (y : Int)) = (z : Int) :=
  ⟨by rw [IntKind.wrap_i64]; omega, by rw [IntKind.wrap_i64]; omega, by rw [IntKind.wrap_i64]; omega, by rw [IntKind.wrap_i64]; omega, w64_id _ (by omega) (by omega), w64_id _ (by omega) (by omega), w64_id _ (by omega) (by omega), by rw [w64_id _ (by omega) (by omega)]; omega⟩
theorem most_le (l : List UInt8) {k : Nat} (h : okAt l k = true) : k = 3 ∨ byteAt l k ≤ mostAt k := by
  unfold okAt at h
  split at h
  · exact .inl (by assumption)
  · exact .inr (by simpa using h)
theorem most_le2 (l : List UInt8) (k : Nat) (hk : k ≠ 3) : okAt l k = decide (byteAt l k ≤ mostAt k) := by unfold okAt; rw [if_neg hk]

end Go.Proofs.Ytocankfabgjjmaa
