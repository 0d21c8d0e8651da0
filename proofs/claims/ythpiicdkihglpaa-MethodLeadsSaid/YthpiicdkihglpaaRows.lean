/-
  NARROWER THAN 'FOR EVERY INPUT', by the rows' own cells (each row's printed sentence says how): MethodSame: loops · MethodBack: loops · MethodOne: loops.
  DERIVED. THE GIVEN ROWS OF THIS SEAT. 9 by the template 'for every input the law returns true; each argument reads behind the call as it read before'; 0 by the template 'total and deterministic' (their statements: YthpiicdkihglpaaTotals.lean).
  GIVEN WITH THE SEED: the statements are not yours to turn. If you find one false, say at which input.
  Laid BY PROGRAM, IN A SANDBOX (cutbox-rows.mjs): the forced cells as the released guide's own fill.sh prints them over the translation 5ad6757a4b85118a… (all of the seat's roots in one cut). By AI agents, Wed Nov 11 2026. No macro, syntax, notation, axiom, sorry.
-/
import Derived.Test.YthpiicdkihglpaaChecked
import GoSem.Claim
import GoSem.ClaimJoined
import GoSem.ClaimMapViews
import Derived.JoinedTies
import Derived.KernelRfl
namespace Go.Proofs.Ythpiicdkihglpaa
/- THE CELL 'sum', in the pinned program and in every row, IS THE sha256 OF THE DUMP (.gsa) THAT YthpiicdkihglpaaProg.lean LOADS. Nothing in Lean hashes anything: it is a label: what it is worth is what the hold of that sum in a sandbox is worth. -/
noncomputable def Try.pinned : Pinned := { name := "ythpiicdkihglpaa", sum := "5ad6757a4b85118a22677cb28d7a425298fa4299e88b818f1ac2c7c8a2e022d8", checked := Try.checked }
namespace Rows
def none {H : Type} : Left H := { results := [], args := [] }

/-- 'posthouselaw05.ValueGets': WHATEVER THE INPUT: true; the input reads as it did. -/
def valueGetsSpec : ChangeSpec := { name := "valueGets", fn := fun _ => fun
  | [d] => { results := [.lit (.bool true)], args := [d] }
  | _ => none }
def valueGetsRow : OpenClaim := { program := "ythpiicdkihglpaa", sum := "5ad6757a4b85118a22677cb28d7a425298fa4299e88b818f1ac2c7c8a2e022d8", func := "posthouse/posthouselaw05.ValueGets", spec := "valueGets", unfollowed := true, recurses := true, plainKeys := false, apart := false }
def ValueGetsSaid : Prop := valueGetsRow.holds Try.pinned (OpenSpec.ofChange valueGetsSpec)

/-- ITS FALSE NEIGHBOUR: 'it returns false'. Refute it at one input. -/
def valueGetsWrong : ChangeSpec := { name := "valueGets", fn := fun _ => fun
  | [d] => { results := [.lit (.bool false)], args := [d] }
  | _ => none }
def ValueGetsWrongFalsely : Prop := valueGetsRow.holds Try.pinned (OpenSpec.ofChange valueGetsWrong)

/-- 'posthouselaw07.GatherFeeds': WHATEVER THE INPUT: true; the input reads as it did. -/
def gatherFeedsSpec : ChangeSpec := { name := "gatherFeeds", fn := fun _ => fun
  | [d] => { results := [.lit (.bool true)], args := [d] }
  | _ => none }
def gatherFeedsRow : OpenClaim := { program := "ythpiicdkihglpaa", sum := "5ad6757a4b85118a22677cb28d7a425298fa4299e88b818f1ac2c7c8a2e022d8", func := "posthouse/posthouselaw07.GatherFeeds", spec := "gatherFeeds", plainKeys := false, apart := false }
def GatherFeedsSaid : Prop := gatherFeedsRow.holds Try.pinned (OpenSpec.ofChange gatherFeedsSpec)

/-- ITS FALSE NEIGHBOUR: 'it returns false'. Refute it at one input. -/
def gatherFeedsWrong : ChangeSpec := { name := "gatherFeeds", fn := fun _ => fun
  | [d] => { results := [.lit (.bool false)], args := [d] }
  | _ => none }
def GatherFeedsWrongFalsely : Prop := gatherFeedsRow.holds Try.pinned (OpenSpec.ofChange gatherFeedsWrong)

/-- 'posthouselaw07.GatherBack': WHATEVER THE INPUT: true; the input reads as it did. -/
def gatherBackSpec : ChangeSpec := { name := "gatherBack", fn := fun _ => fun
  | [d1, d2, d3] => { results := [.lit (.bool true)], args := [d1, d2, d3] }
  | _ => none }
def gatherBackRow : OpenClaim := { program := "ythpiicdkihglpaa", sum := "5ad6757a4b85118a22677cb28d7a425298fa4299e88b818f1ac2c7c8a2e022d8", func := "posthouse/posthouselaw07.GatherBack", spec := "gatherBack", plainKeys := false, apart := false }
def GatherBackSaid : Prop := gatherBackRow.holds Try.pinned (OpenSpec.ofChange gatherBackSpec)

/-- ITS FALSE NEIGHBOUR: 'it returns false'. Refute it at one input. -/
def gatherBackWrong : ChangeSpec := { name := "gatherBack", fn := fun _ => fun
  | [d1, d2, d3] => { results := [.lit (.bool false)], args := [d1, d2, d3] }
  | _ => none }
def GatherBackWrongFalsely : Prop := gatherBackRow.holds Try.pinned (OpenSpec.ofChange gatherBackWrong)

/-- 'posthouselaw08.MethodTable': WHATEVER THE INPUT: true; the input reads as it did. -/
def methodTableSpec : ChangeSpec := { name := "methodTable", fn := fun _ => fun
  | [d1, d2] => { results := [.lit (.bool true)], args := [d1, d2] }
  | _ => none }
def methodTableRow : OpenClaim := { program := "ythpiicdkihglpaa", sum := "5ad6757a4b85118a22677cb28d7a425298fa4299e88b818f1ac2c7c8a2e022d8", func := "posthouse/posthouselaw08.MethodTable", spec := "methodTable", unfollowed := true, recurses := true, plainKeys := false, apart := false }
def MethodTableSaid : Prop := methodTableRow.holds Try.pinned (OpenSpec.ofChange methodTableSpec)

/-- ITS FALSE NEIGHBOUR: 'it returns false'. Refute it at one input. -/
def methodTableWrong : ChangeSpec := { name := "methodTable", fn := fun _ => fun
  | [d1, d2] => { results := [.lit (.bool false)], args := [d1, d2] }
  | _ => none }
def MethodTableWrongFalsely : Prop := methodTableRow.holds Try.pinned (OpenSpec.ofChange methodTableWrong)

/-- 'posthouselaw08.MethodNamed': WHATEVER THE INPUT: true; the input reads as it did. -/
def methodNamedSpec : ChangeSpec := { name := "methodNamed", fn := fun _ => fun
  | [d] => { results := [.lit (.bool true)], args := [d] }
  | _ => none }
def methodNamedRow : OpenClaim := { program := "ythpiicdkihglpaa", sum := "5ad6757a4b85118a22677cb28d7a425298fa4299e88b818f1ac2c7c8a2e022d8", func := "posthouse/posthouselaw08.MethodNamed", spec := "methodNamed", inPlace := ["internal/bytealg.IndexByteString", "internal/bytealg.IndexString"], unfollowed := true, recurses := true, named := ["internal/bytealg.MaxLen"], plainKeys := false, apart := false }
def MethodNamedSaid : Prop := methodNamedRow.holds Try.pinned (OpenSpec.ofChange methodNamedSpec)

/-- ITS FALSE NEIGHBOUR: 'it returns false'. Refute it at one input. -/
def methodNamedWrong : ChangeSpec := { name := "methodNamed", fn := fun _ => fun
  | [d] => { results := [.lit (.bool false)], args := [d] }
  | _ => none }
def MethodNamedWrongFalsely : Prop := methodNamedRow.holds Try.pinned (OpenSpec.ofChange methodNamedWrong)

/-- 'posthouselaw08.MethodSame': WHATEVER THE INPUT: true; the input reads as it did. -/
def methodSameSpec : ChangeSpec := { name := "methodSame", fn := fun _ => fun
  | [d1, d2] => { results := [.lit (.bool true)], args := [d1, d2] }
  | _ => none }
def methodSameRow : OpenClaim := { program := "ythpiicdkihglpaa", sum := "5ad6757a4b85118a22677cb28d7a425298fa4299e88b818f1ac2c7c8a2e022d8", func := "posthouse/posthouselaw08.MethodSame", spec := "methodSame", unfollowed := true, recurses := true, loops := true, plainKeys := false, apart := false }
def MethodSameSaid : Prop := methodSameRow.holds Try.pinned (OpenSpec.ofChange methodSameSpec)

/-- ITS FALSE NEIGHBOUR: 'it returns false'. Refute it at one input. -/
def methodSameWrong : ChangeSpec := { name := "methodSame", fn := fun _ => fun
  | [d1, d2] => { results := [.lit (.bool false)], args := [d1, d2] }
  | _ => none }
def MethodSameWrongFalsely : Prop := methodSameRow.holds Try.pinned (OpenSpec.ofChange methodSameWrong)

/-- 'posthouselaw08.MethodBack': WHATEVER THE INPUT: true; the input reads as it did. -/
def methodBackSpec : ChangeSpec := { name := "methodBack", fn := fun _ => fun
  | [d1, d2] => { results := [.lit (.bool true)], args := [d1, d2] }
  | _ => none }
def methodBackRow : OpenClaim := { program := "ythpiicdkihglpaa", sum := "5ad6757a4b85118a22677cb28d7a425298fa4299e88b818f1ac2c7c8a2e022d8", func := "posthouse/posthouselaw08.MethodBack", spec := "methodBack", unfollowed := true, recurses := true, loops := true, plainKeys := false, apart := false }
def MethodBackSaid : Prop := methodBackRow.holds Try.pinned (OpenSpec.ofChange methodBackSpec)

/-- ITS FALSE NEIGHBOUR: 'it returns false'. Refute it at one input. -/
def methodBackWrong : ChangeSpec := { name := "methodBack", fn := fun _ => fun
  | [d1, d2] => { results := [.lit (.bool false)], args := [d1, d2] }
  | _ => none }
def MethodBackWrongFalsely : Prop := methodBackRow.holds Try.pinned (OpenSpec.ofChange methodBackWrong)

/-- 'posthouselaw08.MethodOne': WHATEVER THE INPUT: true; the input reads as it did. -/
def methodOneSpec : ChangeSpec := { name := "methodOne", fn := fun _ => fun
  | [d1, d2] => { results := [.lit (.bool true)], args := [d1, d2] }
  | _ => none }
def methodOneRow : OpenClaim := { program := "ythpiicdkihglpaa", sum := "5ad6757a4b85118a22677cb28d7a425298fa4299e88b818f1ac2c7c8a2e022d8", func := "posthouse/posthouselaw08.MethodOne", spec := "methodOne", unfollowed := true, recurses := true, loops := true, plainKeys := false, apart := false }
def MethodOneSaid : Prop := methodOneRow.holds Try.pinned (OpenSpec.ofChange methodOneSpec)

/-- ITS FALSE NEIGHBOUR: 'it returns false'. Refute it at one input. -/
def methodOneWrong : ChangeSpec := { name := "methodOne", fn := fun _ => fun
  | [d1, d2] => { results := [.lit (.bool false)], args := [d1, d2] }
  | _ => none }
def MethodOneWrongFalsely : Prop := methodOneRow.holds Try.pinned (OpenSpec.ofChange methodOneWrong)

/-- 'posthouselaw08.MethodLeads': WHATEVER THE INPUT: true; the input reads as it did. -/
def methodLeadsSpec : ChangeSpec := { name := "methodLeads", fn := fun _ => fun
  | [d1, d2] => { results := [.lit (.bool true)], args := [d1, d2] }
  | _ => none }
def methodLeadsRow : OpenClaim := { program := "ythpiicdkihglpaa", sum := "5ad6757a4b85118a22677cb28d7a425298fa4299e88b818f1ac2c7c8a2e022d8", func := "posthouse/posthouselaw08.MethodLeads", spec := "methodLeads", inPlace := ["internal/bytealg.IndexByteString", "internal/bytealg.IndexString"], unfollowed := true, recurses := true, named := ["internal/bytealg.MaxLen"], plainKeys := false, apart := false }
def MethodLeadsSaid : Prop := methodLeadsRow.holds Try.pinned (OpenSpec.ofChange methodLeadsSpec)

/-- ITS FALSE NEIGHBOUR: 'it returns false'. Refute it at one input. -/
def methodLeadsWrong : ChangeSpec := { name := "methodLeads", fn := fun _ => fun
  | [d1, d2] => { results := [.lit (.bool false)], args := [d1, d2] }
  | _ => none }
def MethodLeadsWrongFalsely : Prop := methodLeadsRow.holds Try.pinned (OpenSpec.ofChange methodLeadsWrong)

/- THE SECOND FORM. 'bulk': how many values and letters a reading holds, each counted each time it is reached (what is shared counts as often as it is met; a slice's spare places count too). A statement '..UptoSaid' is the law's where the arguments, and the package variables that the reading takes, are together of bulk at most 1048576: NARROWER than '..Said'. Prove '..Said' where nothing that the law and all that it calls make is longer than what came in: it says more and counts as full. Else prove '..UptoSaid'. A law counts once. -/
mutual
def uptoBulk {H : Type} : DataW H → Nat
  | .lit (.string bytes) => bytes.length + 1
  | .lit _ => 1
  | .nil => 1
  | .ptr d => uptoBulk d + 1
  | .slice elems spare => uptoBulkAll elems + uptoBulkAll spare + 1
  | .agg parts => uptoBulkAll parts + 1
  | .iface _ d => uptoBulk d + 1
  | .map entries => uptoBulkEntries entries + 1
  | .held _ => 1
def uptoBulkAll {H : Type} : List (DataW H) → Nat
  | [] => 0
  | d :: r => uptoBulk d + uptoBulkAll r
def uptoBulkEntries {H : Type} : List (Lit × DataW H) → Nat
  | [] => 0
  | x :: r => uptoBulkEntry x + uptoBulkEntries r
def uptoBulkEntry {H : Type} : Lit × DataW H → Nat
  | (.string bytes, d) => bytes.length + uptoBulk d + 1
  | (_, d) => uptoBulk d + 1
 end
def uptoSmall : (H : Type) → List (DataW H) → Bool := fun _ ds => decide (uptoBulkAll ds ≤ 1048576)
def OpenSpec.upto (s : _root_.Go.ChangeSpec) : _root_.Go.OpenSpec := { _root_.Go.OpenSpec.ofChange s with cond := some uptoSmall }

/-- 'posthouselaw05.ValueGets', WHERE WHAT IT READS IS OF BULK AT MOST 1048576: true; the input reads as it did. -/
def valueGetsUptoRow : OpenClaim := { program := "ythpiicdkihglpaa", sum := "5ad6757a4b85118a22677cb28d7a425298fa4299e88b818f1ac2c7c8a2e022d8", func := "posthouse/posthouselaw05.ValueGets", spec := "valueGets", unfollowed := true, recurses := true, plainKeys := false, apart := false, narrowed := true }
def ValueGetsUptoSaid : Prop := valueGetsUptoRow.holds Try.pinned (OpenSpec.upto valueGetsSpec)

/-- 'posthouselaw07.GatherFeeds', WHERE WHAT IT READS IS OF BULK AT MOST 1048576: true; the input reads as it did. -/
def gatherFeedsUptoRow : OpenClaim := { program := "ythpiicdkihglpaa", sum := "5ad6757a4b85118a22677cb28d7a425298fa4299e88b818f1ac2c7c8a2e022d8", func := "posthouse/posthouselaw07.GatherFeeds", spec := "gatherFeeds", plainKeys := false, apart := false, narrowed := true }
def GatherFeedsUptoSaid : Prop := gatherFeedsUptoRow.holds Try.pinned (OpenSpec.upto gatherFeedsSpec)

/-- 'posthouselaw07.GatherBack', WHERE WHAT IT READS IS OF BULK AT MOST 1048576: true; the input reads as it did. -/
def gatherBackUptoRow : OpenClaim := { program := "ythpiicdkihglpaa", sum := "5ad6757a4b85118a22677cb28d7a425298fa4299e88b818f1ac2c7c8a2e022d8", func := "posthouse/posthouselaw07.GatherBack", spec := "gatherBack", plainKeys := false, apart := false, narrowed := true }
def GatherBackUptoSaid : Prop := gatherBackUptoRow.holds Try.pinned (OpenSpec.upto gatherBackSpec)

/-- 'posthouselaw08.MethodTable', WHERE WHAT IT READS IS OF BULK AT MOST 1048576: true; the input reads as it did. -/
def methodTableUptoRow : OpenClaim := { program := "ythpiicdkihglpaa", sum := "5ad6757a4b85118a22677cb28d7a425298fa4299e88b818f1ac2c7c8a2e022d8", func := "posthouse/posthouselaw08.MethodTable", spec := "methodTable", unfollowed := true, recurses := true, plainKeys := false, apart := false, narrowed := true }
def MethodTableUptoSaid : Prop := methodTableUptoRow.holds Try.pinned (OpenSpec.upto methodTableSpec)

/-- 'posthouselaw08.MethodNamed', WHERE WHAT IT READS IS OF BULK AT MOST 1048576: true; the input reads as it did. -/
def methodNamedUptoRow : OpenClaim := { program := "ythpiicdkihglpaa", sum := "5ad6757a4b85118a22677cb28d7a425298fa4299e88b818f1ac2c7c8a2e022d8", func := "posthouse/posthouselaw08.MethodNamed", spec := "methodNamed", inPlace := ["internal/bytealg.IndexByteString", "internal/bytealg.IndexString"], unfollowed := true, recurses := true, named := ["internal/bytealg.MaxLen"], plainKeys := false, apart := false, narrowed := true }
def MethodNamedUptoSaid : Prop := methodNamedUptoRow.holds Try.pinned (OpenSpec.upto methodNamedSpec)

/-- 'posthouselaw08.MethodSame', WHERE WHAT IT READS IS OF BULK AT MOST 1048576: true; the input reads as it did. -/
def methodSameUptoRow : OpenClaim := { program := "ythpiicdkihglpaa", sum := "5ad6757a4b85118a22677cb28d7a425298fa4299e88b818f1ac2c7c8a2e022d8", func := "posthouse/posthouselaw08.MethodSame", spec := "methodSame", unfollowed := true, recurses := true, loops := true, plainKeys := false, apart := false, narrowed := true }
def MethodSameUptoSaid : Prop := methodSameUptoRow.holds Try.pinned (OpenSpec.upto methodSameSpec)

/-- 'posthouselaw08.MethodBack', WHERE WHAT IT READS IS OF BULK AT MOST 1048576: true; the input reads as it did. -/
def methodBackUptoRow : OpenClaim := { program := "ythpiicdkihglpaa", sum := "5ad6757a4b85118a22677cb28d7a425298fa4299e88b818f1ac2c7c8a2e022d8", func := "posthouse/posthouselaw08.MethodBack", spec := "methodBack", unfollowed := true, recurses := true, loops := true, plainKeys := false, apart := false, narrowed := true }
def MethodBackUptoSaid : Prop := methodBackUptoRow.holds Try.pinned (OpenSpec.upto methodBackSpec)

/-- 'posthouselaw08.MethodOne', WHERE WHAT IT READS IS OF BULK AT MOST 1048576: true; the input reads as it did. -/
def methodOneUptoRow : OpenClaim := { program := "ythpiicdkihglpaa", sum := "5ad6757a4b85118a22677cb28d7a425298fa4299e88b818f1ac2c7c8a2e022d8", func := "posthouse/posthouselaw08.MethodOne", spec := "methodOne", unfollowed := true, recurses := true, loops := true, plainKeys := false, apart := false, narrowed := true }
def MethodOneUptoSaid : Prop := methodOneUptoRow.holds Try.pinned (OpenSpec.upto methodOneSpec)

/-- 'posthouselaw08.MethodLeads', WHERE WHAT IT READS IS OF BULK AT MOST 1048576: true; the input reads as it did. -/
def methodLeadsUptoRow : OpenClaim := { program := "ythpiicdkihglpaa", sum := "5ad6757a4b85118a22677cb28d7a425298fa4299e88b818f1ac2c7c8a2e022d8", func := "posthouse/posthouselaw08.MethodLeads", spec := "methodLeads", inPlace := ["internal/bytealg.IndexByteString", "internal/bytealg.IndexString"], unfollowed := true, recurses := true, named := ["internal/bytealg.MaxLen"], plainKeys := false, apart := false, narrowed := true }
def MethodLeadsUptoSaid : Prop := methodLeadsUptoRow.holds Try.pinned (OpenSpec.upto methodLeadsSpec)

end Rows
end Go.Proofs.Ythpiicdkihglpaa
