/-
  The contract of the reference's Table.
  Conditions: none.
-/
import Derived.Test.YtpbdnfonflmncaaGreatMePZ
namespace Go.Proofs.YtpbdnfonflmncaaGreat
open Go.RowKit
set_option linter.unusedVariables false
set_option linter.unusedSimpArgs false

set_option maxRecDepth 100000 in
set_option maxHeartbeats 4000000 in
theorem table_any (w : World) : Calls Tryz.prog 41 #[] w fun e w' => ∃ v, e = .returned v ∧ OwnG rowC 64 w' w.heap.size v tabD ∧ Below w.heap.size w w' := by
  go_enter Tryz.func41, Tryz.ntmps41
  go_wp2_with fail
  refine wp_build65 90 64 44 _ rfl (rowC.all tabD).toArray (.agg #[.int .u8 0, .int .u8 0, .string ⟨#[]⟩, .string ⟨#[]⟩]) Tryz.underlying90 (by kernel_rfl) (by kernel_rfl) (by decide) (by decide) (by kernel_rfl) ?_
  go_wp2_with fail
  go_ret
  exact ⟨_, rfl, OwnG.lit tabD (by rfl) (by decide) (Nat.le_refl _), (Below.refl _ _).alloc (Nat.le_refl _) _⟩

end Go.Proofs.YtpbdnfonflmncaaGreat
