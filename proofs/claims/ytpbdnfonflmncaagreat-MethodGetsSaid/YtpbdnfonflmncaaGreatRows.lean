/-
  NARROWER THAN 'FOR EVERY INPUT', by the rows' own cells (each row's printed sentence says how): MethodPuts: loops.
  DERIVED. THE GIVEN ROWS OF THIS SEAT. 2 by the template 'for every input the law returns true; each argument reads behind the call as it read before'; 0 by the template 'total and deterministic' (their statements: YtpbdnfonflmncaaGreatTotals.lean).
  GIVEN WITH THE SEED: the statements are not yours to turn. If you find one false, say at which input.
  Laid BY PROGRAM, IN A SANDBOX (cutbox-rows.mjs): the forced cells as the released guide's own fill.sh prints them over the translation f374c0e29eaf43d6… (all of the seat's roots in one cut). By AI agents, Wed Nov 11 2026. No macro, syntax, notation, axiom, sorry.
-/
import Derived.Test.YtpbdnfonflmncaaGreatChecked
import GoSem.Claim
import GoSem.ClaimJoined
import GoSem.ClaimMapViews
import Derived.JoinedTies
import Derived.KernelRfl
namespace Go.Proofs.YtpbdnfonflmncaaGreat
/- THE CELL 'sum', in the pinned program and in every row, IS THE sha256 OF THE DUMP (.gsa) THAT YtpbdnfonflmncaaGreatProg.lean LOADS. Nothing in Lean hashes anything: it is a label: what it is worth is what the hold of that sum in a sandbox is worth. -/
noncomputable def Tryz.pinned : Pinned := { name := "ytpbdnfonflmncaagreat", sum := "f374c0e29eaf43d61572c4649653a53fc023e17a5055b651de6a19a6c65a6cf7", checked := Tryz.checked }
namespace Rows
def none {H : Type} : Left H := { results := [], args := [] }

/-- 'posthouselaw08.MethodPuts': WHATEVER THE INPUT: true; the input reads as it did. -/
def methodPutsSpec : ChangeSpec := { name := "methodPuts", fn := fun _ => fun
  | [d] => { results := [.lit (.bool true)], args := [d] }
  | _ => none }
def methodPutsRow : OpenClaim := { program := "ytpbdnfonflmncaagreat", sum := "f374c0e29eaf43d61572c4649653a53fc023e17a5055b651de6a19a6c65a6cf7", func := "posthouse/posthouselaw08.MethodPuts", spec := "methodPuts", unfollowed := true, recurses := true, loops := true, apart := false }
def MethodPutsSaid : Prop := methodPutsRow.holds Tryz.pinned (OpenSpec.ofChange methodPutsSpec)

/-- ITS FALSE NEIGHBOUR: 'it returns false'. Refute it at one input. -/
def methodPutsWrong : ChangeSpec := { name := "methodPuts", fn := fun _ => fun
  | [d] => { results := [.lit (.bool false)], args := [d] }
  | _ => none }
def MethodPutsWrongFalsely : Prop := methodPutsRow.holds Tryz.pinned (OpenSpec.ofChange methodPutsWrong)

/-- 'posthouselaw08.MethodGets': WHATEVER THE INPUT: true; the input reads as it did. -/
def methodGetsSpec : ChangeSpec := { name := "methodGets", fn := fun _ => fun
  | [d] => { results := [.lit (.bool true)], args := [d] }
  | _ => none }
def methodGetsRow : OpenClaim := { program := "ytpbdnfonflmncaagreat", sum := "f374c0e29eaf43d61572c4649653a53fc023e17a5055b651de6a19a6c65a6cf7", func := "posthouse/posthouselaw08.MethodGets", spec := "methodGets", unfollowed := true, recurses := true, apart := false }
def MethodGetsSaid : Prop := methodGetsRow.holds Tryz.pinned (OpenSpec.ofChange methodGetsSpec)

/-- ITS FALSE NEIGHBOUR: 'it returns false'. Refute it at one input. -/
def methodGetsWrong : ChangeSpec := { name := "methodGets", fn := fun _ => fun
  | [d] => { results := [.lit (.bool false)], args := [d] }
  | _ => none }
def MethodGetsWrongFalsely : Prop := methodGetsRow.holds Tryz.pinned (OpenSpec.ofChange methodGetsWrong)

/- THE SECOND FORM. 'bulk': how many values and letters a reading holds, each counted each time it is reached (what is shared counts as often as it is met; a slice's spare places count too). A statement '..UptoSaid' is the law's where the arguments, and the package variables that the reading takes, are together of bulk at most 1048576: NARROWER than '..Said'. Prove '..Said' where nothing that the law and all that it calls make is longer than what came in: it says more and counts as full. Else prove '..UptoSaid'. A law counts once. -/
mutual
def uptoBulk {H : Type} : DataW H → Nat
  | .lit (.string bytes) => bytes.length + 1
  | .lit _ => 1
  | .nil => 1
  | .ptr d => uptoBulk d + 1
  | .slice elems spare => uptoBulkAll elems + uptoBulkAll spare + 1
  | .agg parts => uptoBulkAll parts + 1
  | .iface _ d => uptoBulk d + 1
  | .map entries => uptoBulkEntries entries + 1
  | .held _ => 1
def uptoBulkAll {H : Type} : List (DataW H) → Nat
  | [] => 0
  | d :: r => uptoBulk d + uptoBulkAll r
def uptoBulkEntries {H : Type} : List (Lit × DataW H) → Nat
  | [] => 0
  | x :: r => uptoBulkEntry x + uptoBulkEntries r
def uptoBulkEntry {H : Type} : Lit × DataW H → Nat
  | (.string bytes, d) => bytes.length + uptoBulk d + 1
  | (_, d) => uptoBulk d + 1
 end
def uptoSmall : (H : Type) → List (DataW H) → Bool := fun _ ds => decide (uptoBulkAll ds ≤ 1048576)
def OpenSpec.upto (s : _root_.Go.ChangeSpec) : _root_.Go.OpenSpec := { _root_.Go.OpenSpec.ofChange s with cond := some uptoSmall }

/-- 'posthouselaw08.MethodPuts', WHERE WHAT IT READS IS OF BULK AT MOST 1048576: true; the input reads as it did. -/
def methodPutsUptoRow : OpenClaim := { program := "ytpbdnfonflmncaagreat", sum := "f374c0e29eaf43d61572c4649653a53fc023e17a5055b651de6a19a6c65a6cf7", func := "posthouse/posthouselaw08.MethodPuts", spec := "methodPuts", unfollowed := true, recurses := true, loops := true, apart := false, narrowed := true }
def MethodPutsUptoSaid : Prop := methodPutsUptoRow.holds Tryz.pinned (OpenSpec.upto methodPutsSpec)

/-- 'posthouselaw08.MethodGets', WHERE WHAT IT READS IS OF BULK AT MOST 1048576: true; the input reads as it did. -/
def methodGetsUptoRow : OpenClaim := { program := "ytpbdnfonflmncaagreat", sum := "f374c0e29eaf43d61572c4649653a53fc023e17a5055b651de6a19a6c65a6cf7", func := "posthouse/posthouselaw08.MethodGets", spec := "methodGets", unfollowed := true, recurses := true, apart := false, narrowed := true }
def MethodGetsUptoSaid : Prop := methodGetsUptoRow.holds Tryz.pinned (OpenSpec.upto methodGetsSpec)

end Rows
end Go.Proofs.YtpbdnfonflmncaaGreat
