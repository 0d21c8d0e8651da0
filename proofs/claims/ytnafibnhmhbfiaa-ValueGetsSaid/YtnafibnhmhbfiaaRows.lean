/-
  NARROWER THAN 'FOR EVERY INPUT', by the rows' own cells (each row's printed sentence says how): PropsPuts: loops · PropsSame: loops · PropsBack: loops · PropsOne: loops.
  DERIVED. THE GIVEN ROWS OF THIS SEAT. 6 by the template 'for every input the law returns true; each argument reads behind the call as it read before'; 0 by the template 'total and deterministic' (their statements: YtnafibnhmhbfiaaTotals.lean).
  GIVEN WITH THE SEED: the statements are not yours to turn. If you find one false, say at which input.
  Laid BY PROGRAM, IN A SANDBOX (cutbox-rows.mjs): the forced cells as the released guide's own fill.sh prints them over the translation 7fdd0ddd08a043b7… (all of the seat's roots in one cut). By AI agents, Wed Nov 11 2026. No macro, syntax, notation, axiom, sorry.
-/
import Derived.Test.YtnafibnhmhbfiaaChecked
import GoSem.Claim
import GoSem.ClaimJoined
import GoSem.ClaimMapViews
import Derived.JoinedTies
import Derived.KernelRfl
namespace Go.Proofs.Ytnafibnhmhbfiaa
/- THE CELL 'sum', in the pinned program and in every row, IS THE sha256 OF THE DUMP (.gsa) THAT YtnafibnhmhbfiaaProg.lean LOADS. Nothing in Lean hashes anything: it is a label: what it is worth is what the hold of that sum in a sandbox is worth. -/
noncomputable def Try.pinned : Pinned := { name := "ytnafibnhmhbfiaa", sum := "7fdd0ddd08a043b76859ac7553ae703cab484535e2c2c39f45272c2af0d9eedf", checked := Try.checked }
namespace Rows
def none {H : Type} : Left H := { results := [], args := [] }

/-- 'posthouselaw09.PropsPuts': WHATEVER THE INPUT: true; the input reads as it did. -/
def propsPutsSpec : ChangeSpec := { name := "propsPuts", fn := fun _ => fun
  | [d] => { results := [.lit (.bool true)], args := [d] }
  | _ => none }
def propsPutsRow : OpenClaim := { program := "ytnafibnhmhbfiaa", sum := "7fdd0ddd08a043b76859ac7553ae703cab484535e2c2c39f45272c2af0d9eedf", func := "posthouse/posthouselaw09.PropsPuts", spec := "propsPuts", unfollowed := true, recurses := true, loops := true, apart := false }
def PropsPutsSaid : Prop := propsPutsRow.holds Try.pinned (OpenSpec.ofChange propsPutsSpec)

/-- ITS FALSE NEIGHBOUR: 'it returns false'. Refute it at one input. -/
def propsPutsWrong : ChangeSpec := { name := "propsPuts", fn := fun _ => fun
  | [d] => { results := [.lit (.bool false)], args := [d] }
  | _ => none }
def PropsPutsWrongFalsely : Prop := propsPutsRow.holds Try.pinned (OpenSpec.ofChange propsPutsWrong)

/-- 'posthouselaw09.PropsGets': WHATEVER THE INPUT: true; the input reads as it did. -/
def propsGetsSpec : ChangeSpec := { name := "propsGets", fn := fun _ => fun
  | [d] => { results := [.lit (.bool true)], args := [d] }
  | _ => none }
def propsGetsRow : OpenClaim := { program := "ytnafibnhmhbfiaa", sum := "7fdd0ddd08a043b76859ac7553ae703cab484535e2c2c39f45272c2af0d9eedf", func := "posthouse/posthouselaw09.PropsGets", spec := "propsGets", unfollowed := true, recurses := true, apart := false }
def PropsGetsSaid : Prop := propsGetsRow.holds Try.pinned (OpenSpec.ofChange propsGetsSpec)

/-- ITS FALSE NEIGHBOUR: 'it returns false'. Refute it at one input. -/
def propsGetsWrong : ChangeSpec := { name := "propsGets", fn := fun _ => fun
  | [d] => { results := [.lit (.bool false)], args := [d] }
  | _ => none }
def PropsGetsWrongFalsely : Prop := propsGetsRow.holds Try.pinned (OpenSpec.ofChange propsGetsWrong)

/-- 'posthouselaw09.PropsSame': WHATEVER THE INPUT: true; the input reads as it did. -/
def propsSameSpec : ChangeSpec := { name := "propsSame", fn := fun _ => fun
  | [d1, d2] => { results := [.lit (.bool true)], args := [d1, d2] }
  | _ => none }
def propsSameRow : OpenClaim := { program := "ytnafibnhmhbfiaa", sum := "7fdd0ddd08a043b76859ac7553ae703cab484535e2c2c39f45272c2af0d9eedf", func := "posthouse/posthouselaw09.PropsSame", spec := "propsSame", unfollowed := true, recurses := true, loops := true, apart := false }
def PropsSameSaid : Prop := propsSameRow.holds Try.pinned (OpenSpec.ofChange propsSameSpec)

/-- ITS FALSE NEIGHBOUR: 'it returns false'. Refute it at one input. -/
def propsSameWrong : ChangeSpec := { name := "propsSame", fn := fun _ => fun
  | [d1, d2] => { results := [.lit (.bool false)], args := [d1, d2] }
  | _ => none }
def PropsSameWrongFalsely : Prop := propsSameRow.holds Try.pinned (OpenSpec.ofChange propsSameWrong)

/-- 'posthouselaw09.PropsBack': WHATEVER THE INPUT: true; the input reads as it did. -/
def propsBackSpec : ChangeSpec := { name := "propsBack", fn := fun _ => fun
  | [d1, d2] => { results := [.lit (.bool true)], args := [d1, d2] }
  | _ => none }
def propsBackRow : OpenClaim := { program := "ytnafibnhmhbfiaa", sum := "7fdd0ddd08a043b76859ac7553ae703cab484535e2c2c39f45272c2af0d9eedf", func := "posthouse/posthouselaw09.PropsBack", spec := "propsBack", unfollowed := true, recurses := true, loops := true, apart := false }
def PropsBackSaid : Prop := propsBackRow.holds Try.pinned (OpenSpec.ofChange propsBackSpec)

/-- ITS FALSE NEIGHBOUR: 'it returns false'. Refute it at one input. -/
def propsBackWrong : ChangeSpec := { name := "propsBack", fn := fun _ => fun
  | [d1, d2] => { results := [.lit (.bool false)], args := [d1, d2] }
  | _ => none }
def PropsBackWrongFalsely : Prop := propsBackRow.holds Try.pinned (OpenSpec.ofChange propsBackWrong)

/-- 'posthouselaw09.PropsOne': WHATEVER THE INPUT: true; the input reads as it did. -/
def propsOneSpec : ChangeSpec := { name := "propsOne", fn := fun _ => fun
  | [d1, d2] => { results := [.lit (.bool true)], args := [d1, d2] }
  | _ => none }
def propsOneRow : OpenClaim := { program := "ytnafibnhmhbfiaa", sum := "7fdd0ddd08a043b76859ac7553ae703cab484535e2c2c39f45272c2af0d9eedf", func := "posthouse/posthouselaw09.PropsOne", spec := "propsOne", unfollowed := true, recurses := true, loops := true, apart := false }
def PropsOneSaid : Prop := propsOneRow.holds Try.pinned (OpenSpec.ofChange propsOneSpec)

/-- ITS FALSE NEIGHBOUR: 'it returns false'. Refute it at one input. -/
def propsOneWrong : ChangeSpec := { name := "propsOne", fn := fun _ => fun
  | [d1, d2] => { results := [.lit (.bool false)], args := [d1, d2] }
  | _ => none }
def PropsOneWrongFalsely : Prop := propsOneRow.holds Try.pinned (OpenSpec.ofChange propsOneWrong)

/-- 'posthouselaw05.ValueGets': WHATEVER THE INPUT: true; the input reads as it did. -/
def valueGetsSpec : ChangeSpec := { name := "valueGets", fn := fun _ => fun
  | [d] => { results := [.lit (.bool true)], args := [d] }
  | _ => none }
def valueGetsRow : OpenClaim := { program := "ytnafibnhmhbfiaa", sum := "7fdd0ddd08a043b76859ac7553ae703cab484535e2c2c39f45272c2af0d9eedf", func := "posthouse/posthouselaw05.ValueGets", spec := "valueGets", unfollowed := true, recurses := true, apart := false }
def ValueGetsSaid : Prop := valueGetsRow.holds Try.pinned (OpenSpec.ofChange valueGetsSpec)

/-- ITS FALSE NEIGHBOUR: 'it returns false'. Refute it at one input. -/
def valueGetsWrong : ChangeSpec := { name := "valueGets", fn := fun _ => fun
  | [d] => { results := [.lit (.bool false)], args := [d] }
  | _ => none }
def ValueGetsWrongFalsely : Prop := valueGetsRow.holds Try.pinned (OpenSpec.ofChange valueGetsWrong)

/- THE SECOND FORM. 'bulk': how many values and letters a reading holds, each counted each time it is reached (what is shared counts as often as it is met; a slice's spare places count too). A statement '..UptoSaid' is the law's where the arguments, and the package variables that the reading takes, are together of bulk at most 1048576: NARROWER than '..Said'. Prove '..Said' where nothing that the law and all that it calls make is longer than what came in: it says more and counts as full. Else prove '..UptoSaid'. A law counts once. -/
mutual
def uptoBulk {H : Type} : DataW H → Nat
  | .lit (.string bytes) => bytes.length + 1
  | .lit _ => 1
  | .nil => 1
  | .ptr d => uptoBulk d + 1
  | .slice elems spare => uptoBulkAll elems + uptoBulkAll spare + 1
  | .agg parts => uptoBulkAll parts + 1
  | .iface _ d => uptoBulk d + 1
  | .map entries => uptoBulkEntries entries + 1
  | .held _ => 1
def uptoBulkAll {H : Type} : List (DataW H) → Nat
  | [] => 0
  | d :: r => uptoBulk d + uptoBulkAll r
def uptoBulkEntries {H : Type} : List (Lit × DataW H) → Nat
  | [] => 0
  | x :: r => uptoBulkEntry x + uptoBulkEntries r
def uptoBulkEntry {H : Type} : Lit × DataW H → Nat
  | (.string bytes, d) => bytes.length + uptoBulk d + 1
  | (_, d) => uptoBulk d + 1
 end
def uptoSmall : (H : Type) → List (DataW H) → Bool := fun _ ds => decide (uptoBulkAll ds ≤ 1048576)
def OpenSpec.upto (s : _root_.Go.ChangeSpec) : _root_.Go.OpenSpec := { _root_.Go.OpenSpec.ofChange s with cond := some uptoSmall }

/-- 'posthouselaw09.PropsPuts', WHERE WHAT IT READS IS OF BULK AT MOST 1048576: true; the input reads as it did. -/
def propsPutsUptoRow : OpenClaim := { program := "ytnafibnhmhbfiaa", sum := "7fdd0ddd08a043b76859ac7553ae703cab484535e2c2c39f45272c2af0d9eedf", func := "posthouse/posthouselaw09.PropsPuts", spec := "propsPuts", unfollowed := true, recurses := true, loops := true, apart := false, narrowed := true }
def PropsPutsUptoSaid : Prop := propsPutsUptoRow.holds Try.pinned (OpenSpec.upto propsPutsSpec)

/-- 'posthouselaw09.PropsGets', WHERE WHAT IT READS IS OF BULK AT MOST 1048576: true; the input reads as it did. -/
def propsGetsUptoRow : OpenClaim := { program := "ytnafibnhmhbfiaa", sum := "7fdd0ddd08a043b76859ac7553ae703cab484535e2c2c39f45272c2af0d9eedf", func := "posthouse/posthouselaw09.PropsGets", spec := "propsGets", unfollowed := true, recurses := true, apart := false, narrowed := true }
def PropsGetsUptoSaid : Prop := propsGetsUptoRow.holds Try.pinned (OpenSpec.upto propsGetsSpec)

/-- 'posthouselaw09.PropsSame', WHERE WHAT IT READS IS OF BULK AT MOST 1048576: true; the input reads as it did. -/
def propsSameUptoRow : OpenClaim := { program := "ytnafibnhmhbfiaa", sum := "7fdd0ddd08a043b76859ac7553ae703cab484535e2c2c39f45272c2af0d9eedf", func := "posthouse/posthouselaw09.PropsSame", spec := "propsSame", unfollowed := true, recurses := true, loops := true, apart := false, narrowed := true }
def PropsSameUptoSaid : Prop := propsSameUptoRow.holds Try.pinned (OpenSpec.upto propsSameSpec)

/-- 'posthouselaw09.PropsBack', WHERE WHAT IT READS IS OF BULK AT MOST 1048576: true; the input reads as it did. -/
def propsBackUptoRow : OpenClaim := { program := "ytnafibnhmhbfiaa", sum := "7fdd0ddd08a043b76859ac7553ae703cab484535e2c2c39f45272c2af0d9eedf", func := "posthouse/posthouselaw09.PropsBack", spec := "propsBack", unfollowed := true, recurses := true, loops := true, apart := false, narrowed := true }
def PropsBackUptoSaid : Prop := propsBackUptoRow.holds Try.pinned (OpenSpec.upto propsBackSpec)

/-- 'posthouselaw09.PropsOne', WHERE WHAT IT READS IS OF BULK AT MOST 1048576: true; the input reads as it did. -/
def propsOneUptoRow : OpenClaim := { program := "ytnafibnhmhbfiaa", sum := "7fdd0ddd08a043b76859ac7553ae703cab484535e2c2c39f45272c2af0d9eedf", func := "posthouse/posthouselaw09.PropsOne", spec := "propsOne", unfollowed := true, recurses := true, loops := true, apart := false, narrowed := true }
def PropsOneUptoSaid : Prop := propsOneUptoRow.holds Try.pinned (OpenSpec.upto propsOneSpec)

/-- 'posthouselaw05.ValueGets', WHERE WHAT IT READS IS OF BULK AT MOST 1048576: true; the input reads as it did. -/
def valueGetsUptoRow : OpenClaim := { program := "ytnafibnhmhbfiaa", sum := "7fdd0ddd08a043b76859ac7553ae703cab484535e2c2c39f45272c2af0d9eedf", func := "posthouse/posthouselaw05.ValueGets", spec := "valueGets", unfollowed := true, recurses := true, apart := false, narrowed := true }
def ValueGetsUptoSaid : Prop := valueGetsUptoRow.holds Try.pinned (OpenSpec.upto valueGetsSpec)

end Rows
end Go.Proofs.Ytnafibnhmhbfiaa
