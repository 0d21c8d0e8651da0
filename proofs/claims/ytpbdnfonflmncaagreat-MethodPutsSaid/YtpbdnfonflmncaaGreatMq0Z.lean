/-
  What the document's arg tells; the width of a kind.
  Conditions: none but sizes.
-/
import Derived.Test.YtpbdnfonflmncaaGreatMeEZ
import Derived.Test.YtpbdnfonflmncaaGreatV5AZ
import Derived.Test.YtpbdnfonflmncaaGreatOctBigZ
import Derived.Test.YtpbdnfonflmncaaGreatRef03AZ
import Derived.Test.YtpbdnfonflmncaaGreatRef04AZ
import Derived.Test.YtpbdnfonflmncaaGreatValYZ
namespace Go.Proofs.YtpbdnfonflmncaaGreat
open Go.RowKit
set_option linter.unusedVariables false
set_option linter.unusedSimpArgs false

/-- What arg tells. -/
def ArgSaid (k : Nat) (a : ArgP) (w : World) (e : Ending) (w' : World) : Prop :=
  ∃ (v : Value) (r : Bool), e = .returned (.tuple #[v, .bool r]) ∧ (r = true ↔ validA k a) ∧ (r = true → Own 5 w' w.heap.size v (encA k a)) ∧ Below w.heap.size w w'
theorem arg_no {k : Nat} {a : ArgP} {w w' : World} {e : Ending} (v : Value) (h1 : e = .returned (.tuple #[v, .bool false])) (h2 : ¬ validA k a) (h3 : Below w.heap.size w w') : ArgSaid k a w e w' :=
  ⟨v, false, h1, ⟨fun h => (by cases h), fun h => absurd h h2⟩, fun h => (by cases h), h3⟩
theorem arg_yes {k : Nat} {a : ArgP} {w w' : World} {e : Ending} (v : Value) (h1 : e = .returned (.tuple #[v, .bool true])) (h2 : validA k a) (h4 : Own 5 w' w.heap.size v (encA k a)) (h3 : Below w.heap.size w w') : ArgSaid k a w e w' :=
  ⟨v, true, h1, ⟨fun _ => h2, fun _ => rfl⟩, fun _ => h4, h3⟩
theorem own_below {e : TypeId} {w w' : World} {base : Nat} {v : Value} {l : List UInt8} (h : Own e w base v l) (hb : Below w.heap.size w w') : Own e w' base v l := h.keep fun g hg => hb.block g (h.block g hg).2
theorem is_bare {k : Nat} {a cl : ArgP} (hb : cl = zA ↔ bareA k a) (h : cl = zA) : bareA k a := hb.1 h
theorem shl_1 : IntKind.u64.wrap (2 ^ min (IntKind.u64.wrap (IntKind.i64.wrap 8)).toNat 64) = 256 := by decide
theorem shl_2 : IntKind.u64.wrap (2 ^ min (IntKind.u64.wrap (IntKind.i64.wrap 16)).toNat 64) = 65536 := by decide
theorem shl_4 : IntKind.u64.wrap (2 ^ min (IntKind.u64.wrap (IntKind.i64.wrap 32)).toNat 64) = 4294967296 := by decide
set_option maxRecDepth 100000 in
theorem qwidth_any (k : Nat) (hk : k = 110 ∨ k = 115 ∨ k = 119 ∨ k = 116 ∨ k = 100) (w : World) : Calls Tryz.prog 44 #[.int .u8 k] w fun e w' => e = .returned (.int .i64 (widD k)) ∧ w' = w := by
  rcases hk with rfl | rfl | rfl | rfl | rfl
  all_goals
    go_enter Tryz.func44, Tryz.ntmps44
    go_wp2_with fail
    go_ret
    exact ⟨rfl, rfl⟩

end Go.Proofs.YtpbdnfonflmncaaGreat
