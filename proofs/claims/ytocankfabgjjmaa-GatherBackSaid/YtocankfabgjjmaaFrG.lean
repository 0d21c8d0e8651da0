/-
  The contract of frame.Scan.
  Conditions: at most 1000000 bytes.
-/
import Derived.Test.YtocankfabgjjmaaFrP
import Derived.Deep.DeepCutAuto
namespace Go.Proofs.Ytocankfabgjjmaa
open Go.RowKit
set_option linter.unusedVariables false
set_option linter.unusedSimpArgs false

theorem infoFr : (Try.prog.info? 30).map (fun i => (i.zero, i.size, i.bytes)) = some (some (.agg #[.bool false, .bool false, .bool false, .bool false, .int .u8 0, .int .u8 0, .int .u16 0, .string ⟨#[]⟩]), 8, 24) := by kernel_rfl

/-- What Scan says. -/
def ScanSaid (l : List UInt8) (w : World) (e : Ending) (w' : World) : Prop :=
  ∃ v, e = .returned (.tuple #[v, .int .i64 (scanD l).2, .int .i64 (errD l)]) ∧ OwnG frC 30 w' w.heap.size v (scanD l).1 ∧ Below w.heap.size w w'

/-- The bytes behind a place, and these again. -/
theorem tail_at {w : World} {d c : Nat} {A : Option Addr} {l : List UInt8} (h : Shows w d (.slice A l.length c) l) (k : Nat) (hk : k ≤ l.length) (A' : Option Addr) (hA : (if c = k then A else Option.map (fun x => x.add k) A) = A') :
    Shows w d (.slice A' (l.length - k) (c - k)) (l.drop k) :=
  h.tail hk A' (fun hne => by rw [← hA, if_neg hne])

end Go.Proofs.Ytocankfabgjjmaa
