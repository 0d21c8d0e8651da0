/-
  How bytes begin well; the contracts of frame.headerRules with its closures, isStart, and of the document's own Well.
  Conditions: none but sizes.
-/
import Derived.Test.YtocankfabgjjmaaFrB
import Derived.Test.YtocankfabgjjmaaOctD
import Derived.Deep.QuietTactic
import Derived.BigQuiet
namespace Go.Proofs.Ytocankfabgjjmaa
open Go.RowKit
set_option linter.unusedVariables false
set_option linter.unusedSimpArgs false

/-! ### the bytes of a header -/
def byteAt (l : List UInt8) (i : Nat) : Nat := (l.getD i 0).toNat
theorem byteAt_lt (l : List UInt8) (i : Nat) : byteAt l i < 256 := (l.getD i 0).toNat_lt
theorem byteAt_get {l : List UInt8} {i : Nat} (h : i < l.length) : (l[i]).toNat = byteAt l i := by simp [byteAt, List.getD, h]
def sizeAt (l : List UInt8) : Nat := 256 * byteAt l 2 + byteAt l 3
/-- The greatest that each byte may be. -/
def mostAt : Nat → Nat
  | 0 => 15 | 1 => 3 | 2 => 16 | 3 => 255 | 4 => 0 | 5 => 15 | 6 => 255 | 7 => 255 | _ => 0
theorem mostAt_lt (i : Nat) : mostAt i < 256 := by
  unfold mostAt
  split <;> decide
def okAt (l : List UInt8) (i : Nat) : Bool := if i = 3 then decide (12 ≤ sizeAt l ∧ sizeAt l ≤ 4096) else decide (byteAt l i ≤ mostAt i)
/-- Do bytes begin well? -/
def wellD (l : List UInt8) : Bool := (List.range (min l.length 12)).all (okAt l)
theorem wellD_iff (l : List UInt8) : wellD l = true ↔ ∀ i, i < l.length → i < 12 → okAt l i = true := by
  unfold wellD
  rw [List.all_eq_true]
  constructor
  · intro h i h1 h2
    exact h i (List.mem_range.2 (by omega))
  · intro h i hi
    have := List.mem_range.1 hi
    exact h i (by omega) (by omega)
theorem wellD_no {l : List UInt8} {i : Nat} (h1 : i < l.length) (h2 : i < 12) (h : okAt l i = false) : wellD l = false := by
  cases hw : wellD l with
  | false => rfl
  | true => rw [(wellD_iff l).1 hw i h1 h2] at h; cases h

/-! ### the rules -/
theorem wraps_i64 (n : Int) (h₀ : 0 ≤ n) (h₁ : n < 2 ^ 62) : IntKind.i64.wrap n = n := by rw [IntKind.wrap_i64]; omega
theorem wraps_u16 (n : Int) (h₀ : 0 ≤ n) (h₁ : n < 2 ^ 16) : IntKind.u16.wrap n = n := by rw [IntKind.wrap_u16]; omega
theorem orJoin64 (x b : Nat) (hx : x < 256) (hb : b < 256) : bits .or .i64 ((x : Int) * 256) (b : Int) = ((256 * x + b : Nat) : Int) := by
  rw [bits_join .i64 62 (by decide) wraps_i64 8 ((x : Int) * 256) (b : Int) (by omega) (by omega) (by omega) (by omega) (by omega) (by omega)]
  omega
theorem orJoin16 (x b : Nat) (hx : x < 256) (hb : b < 256) : bits .or .u16 ((x : Int) * 256) (b : Int) = ((256 * x + b : Nat) : Int) := by
  rw [bits_join .u16 16 (by decide) wraps_u16 8 ((x : Int) * 256) (b : Int) (by omega) (by omega) (by omega) (by omega) (by omega) (by omega)]
  omega

end Go.Proofs.Ytocankfabgjjmaa
