/-
  Facts of this seat's program that all of its texts share; the ranges of integers that came in.
  Conditions: none.
-/
import Derived.WalkKit
import Derived.Outline
import Derived.Test.YtpbdnfonflmncaaGreatChecked
import Derived.Test.YtpbdnfonflmncaaGreatMemZ
namespace Go.Proofs.YtpbdnfonflmncaaGreat
open Go.RowKit
set_option linter.unusedVariables false
set_option linter.unusedSimpArgs false
theorem info5 : (Tryz.prog.info? 5).map (fun i => (i.zero, i.size, i.bytes)) = some (some (.int .u8 0), 1, 1) := by kernel_rfl
theorem own : ownKnob Tryz.prog.godebug = none := by kernel_rfl
theorem laidOut : laidOutB Tryz.prog = true := by kernel_rfl
theorem bytes5 : Tryz.prog.bytesOf 5 = 1 := by kernel_rfl
theorem conv_at {w : World} {d : Nat} {v : Value} {l : List UInt8} (h : Shows w d v l) : (convert 28 9 v).run Tryz.prog w = .ok (.string (str8 l)) w :=
 run_conv8 (P := Tryz.prog) _ 28 5 9 Tryz.underlying28 Tryz.underlying5 Tryz.underlying9 d v l h
theorem i64_id (n : Int) (h1 : -9223372036854775808 ≤ n) (h2 : n ≤ 9223372036854775807) : IntKind.i64.wrap n = n := by
 rw [IntKind.wrap_i64]; omega
theorem w64_id (n : Int) (h1 : -9223372036854775808 ≤ n) (h2 : n ≤ 9223372036854775807) : wrap64 n = n := by
 unfold wrap64; omega
end Go.Proofs.YtpbdnfonflmncaaGreat
