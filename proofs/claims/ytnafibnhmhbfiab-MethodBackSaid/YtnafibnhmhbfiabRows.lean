/-
  NARROWER THAN 'FOR EVERY INPUT', by the rows' own cells (each row's printed sentence says how): MethodSame: loops · MethodBack: loops · MethodOne: loops.
  DERIVED. THE GIVEN ROWS OF THIS SEAT. 5 by the template 'for every input the law returns true; each argument reads behind the call as it read before'; 0 by the template 'total and deterministic' (their statements: YtnafibnhmhbfiabTotals.lean).
  GIVEN WITH THE SEED: the statements are not yours to turn. If you find one false, say at which input.
  Laid BY PROGRAM, IN A SANDBOX (cutbox-rows.mjs): the forced cells as the released guide's own fill.sh prints them over the translation 98bc68745beaafcf… (all of the seat's roots in one cut). By AI agents, Wed Nov 11 2026. No macro, syntax, notation, axiom, sorry.
-/
import Derived.Test.YtnafibnhmhbfiabChecked
import GoSem.Claim
import GoSem.ClaimJoined
import GoSem.ClaimMapViews
import Derived.JoinedTies
import Derived.KernelRfl
namespace Go.Proofs.Ytnafibnhmhbfiab
/- THE CELL 'sum', in the pinned program and in every row, IS THE sha256 OF THE DUMP (.gsa) THAT YtnafibnhmhbfiabProg.lean LOADS. Nothing in Lean hashes anything: it is a label: what it is worth is what the hold of that sum in a sandbox is worth. -/
noncomputable def Try.pinned : Pinned := { name := "ytnafibnhmhbfiab", sum := "98bc68745beaafcf5f744a4aae9267372eb9a4f59d3c40f041c0e1b3069ec820", checked := Try.checked }
namespace Rows
def none {H : Type} : Left H := { results := [], args := [] }

/-- 'posthouselaw07.GatherFeeds': WHATEVER THE INPUT: true; the input reads as it did. -/
def gatherFeedsSpec : ChangeSpec := { name := "gatherFeeds", fn := fun _ => fun
  | [d] => { results := [.lit (.bool true)], args := [d] }
  | _ => none }
def gatherFeedsRow : OpenClaim := { program := "ytnafibnhmhbfiab", sum := "98bc68745beaafcf5f744a4aae9267372eb9a4f59d3c40f041c0e1b3069ec820", func := "posthouse/posthouselaw07.GatherFeeds", spec := "gatherFeeds", plainKeys := false, apart := false }
def GatherFeedsSaid : Prop := gatherFeedsRow.holds Try.pinned (OpenSpec.ofChange gatherFeedsSpec)

/-- ITS FALSE NEIGHBOUR: 'it returns false'. Refute it at one input. -/
def gatherFeedsWrong : ChangeSpec := { name := "gatherFeeds", fn := fun _ => fun
  | [d] => { results := [.lit (.bool false)], args := [d] }
  | _ => none }
def GatherFeedsWrongFalsely : Prop := gatherFeedsRow.holds Try.pinned (OpenSpec.ofChange gatherFeedsWrong)

/-- 'posthouselaw07.GatherBack': WHATEVER THE INPUT: true; the input reads as it did. -/
def gatherBackSpec : ChangeSpec := { name := "gatherBack", fn := fun _ => fun
  | [d1, d2, d3] => { results := [.lit (.bool true)], args := [d1, d2, d3] }
  | _ => none }
def gatherBackRow : OpenClaim := { program := "ytnafibnhmhbfiab", sum := "98bc68745beaafcf5f744a4aae9267372eb9a4f59d3c40f041c0e1b3069ec820", func := "posthouse/posthouselaw07.GatherBack", spec := "gatherBack", plainKeys := false, apart := false }
def GatherBackSaid : Prop := gatherBackRow.holds Try.pinned (OpenSpec.ofChange gatherBackSpec)

/-- ITS FALSE NEIGHBOUR: 'it returns false'. Refute it at one input. -/
def gatherBackWrong : ChangeSpec := { name := "gatherBack", fn := fun _ => fun
  | [d1, d2, d3] => { results := [.lit (.bool false)], args := [d1, d2, d3] }
  | _ => none }
def GatherBackWrongFalsely : Prop := gatherBackRow.holds Try.pinned (OpenSpec.ofChange gatherBackWrong)

/-- 'posthouselaw08.MethodSame': WHATEVER THE INPUT: true; the input reads as it did. -/
def methodSameSpec : ChangeSpec := { name := "methodSame", fn := fun _ => fun
  | [d1, d2] => { results := [.lit (.bool true)], args := [d1, d2] }
  | _ => none }
def methodSameRow : OpenClaim := { program := "ytnafibnhmhbfiab", sum := "98bc68745beaafcf5f744a4aae9267372eb9a4f59d3c40f041c0e1b3069ec820", func := "posthouse/posthouselaw08.MethodSame", spec := "methodSame", unfollowed := true, recurses := true, loops := true, plainKeys := false, apart := false }
def MethodSameSaid : Prop := methodSameRow.holds Try.pinned (OpenSpec.ofChange methodSameSpec)

/-- ITS FALSE NEIGHBOUR: 'it returns false'. Refute it at one input. -/
def methodSameWrong : ChangeSpec := { name := "methodSame", fn := fun _ => fun
  | [d1, d2] => { results := [.lit (.bool false)], args := [d1, d2] }
  | _ => none }
def MethodSameWrongFalsely : Prop := methodSameRow.holds Try.pinned (OpenSpec.ofChange methodSameWrong)

/-- 'posthouselaw08.MethodBack': WHATEVER THE INPUT: true; the input reads as it did. -/
def methodBackSpec : ChangeSpec := { name := "methodBack", fn := fun _ => fun
  | [d1, d2] => { results := [.lit (.bool true)], args := [d1, d2] }
  | _ => none }
def methodBackRow : OpenClaim := { program := "ytnafibnhmhbfiab", sum := "98bc68745beaafcf5f744a4aae9267372eb9a4f59d3c40f041c0e1b3069ec820", func := "posthouse/posthouselaw08.MethodBack", spec := "methodBack", unfollowed := true, recurses := true, loops := true, plainKeys := false, apart := false }
def MethodBackSaid : Prop := methodBackRow.holds Try.pinned (OpenSpec.ofChange methodBackSpec)

/-- ITS FALSE NEIGHBOUR: 'it returns false'. Refute it at one input. -/
def methodBackWrong : ChangeSpec := { name := "methodBack", fn := fun _ => fun
  | [d1, d2] => { results := [.lit (.bool false)], args := [d1, d2] }
  | _ => none }
def MethodBackWrongFalsely : Prop := methodBackRow.holds Try.pinned (OpenSpec.ofChange methodBackWrong)

/-- 'posthouselaw08.MethodOne': WHATEVER THE INPUT: true; the input reads as it did. -/
def methodOneSpec : ChangeSpec := { name := "methodOne", fn := fun _ => fun
  | [d1, d2] => { results := [.lit (.bool true)], args := [d1, d2] }
  | _ => none }
def methodOneRow : OpenClaim := { program := "ytnafibnhmhbfiab", sum := "98bc68745beaafcf5f744a4aae9267372eb9a4f59d3c40f041c0e1b3069ec820", func := "posthouse/posthouselaw08.MethodOne", spec := "methodOne", unfollowed := true, recurses := true, loops := true, plainKeys := false, apart := false }
def MethodOneSaid : Prop := methodOneRow.holds Try.pinned (OpenSpec.ofChange methodOneSpec)

/-- ITS FALSE NEIGHBOUR: 'it returns false'. Refute it at one input. -/
def methodOneWrong : ChangeSpec := { name := "methodOne", fn := fun _ => fun
  | [d1, d2] => { results := [.lit (.bool false)], args := [d1, d2] }
  | _ => none }
def MethodOneWrongFalsely : Prop := methodOneRow.holds Try.pinned (OpenSpec.ofChange methodOneWrong)

/- THE SECOND FORM. 'bulk': how many values and letters a reading holds, each counted each time it is reached (what is shared counts as often as it is met; a slice's spare places count too). A statement '..UptoSaid' is the law's where the arguments, and the package variables that the reading takes, are together of bulk at most 1048576: NARROWER than '..Said'. Prove '..Said' where nothing that the law and all that it calls make is longer than what came in: it says more and counts as full. Else prove '..UptoSaid'. A law counts once. -/
mutual
def uptoBulk {H : Type} : DataW H → Nat
  | .lit (.string bytes) => bytes.length + 1
  | .lit _ => 1
  | .nil => 1
  | .ptr d => uptoBulk d + 1
  | .slice elems spare => uptoBulkAll elems + uptoBulkAll spare + 1
  | .agg parts => uptoBulkAll parts + 1
  | .iface _ d => uptoBulk d + 1
  | .map entries => uptoBulkEntries entries + 1
  | .held _ => 1
def uptoBulkAll {H : Type} : List (DataW H) → Nat
  | [] => 0
  | d :: r => uptoBulk d + uptoBulkAll r
def uptoBulkEntries {H : Type} : List (Lit × DataW H) → Nat
  | [] => 0
  | x :: r => uptoBulkEntry x + uptoBulkEntries r
def uptoBulkEntry {H : Type} : Lit × DataW H → Nat
  | (.string bytes, d) => bytes.length + uptoBulk d + 1
  | (_, d) => uptoBulk d + 1
 end
def uptoSmall : (H : Type) → List (DataW H) → Bool := fun _ ds => decide (uptoBulkAll ds ≤ 1048576)
def OpenSpec.upto (s : _root_.Go.ChangeSpec) : _root_.Go.OpenSpec := { _root_.Go.OpenSpec.ofChange s with cond := some uptoSmall }

/-- 'posthouselaw07.GatherFeeds', WHERE WHAT IT READS IS OF BULK AT MOST 1048576: true; the input reads as it did. -/
def gatherFeedsUptoRow : OpenClaim := { program := "ytnafibnhmhbfiab", sum := "98bc68745beaafcf5f744a4aae9267372eb9a4f59d3c40f041c0e1b3069ec820", func := "posthouse/posthouselaw07.GatherFeeds", spec := "gatherFeeds", plainKeys := false, apart := false, narrowed := true }
def GatherFeedsUptoSaid : Prop := gatherFeedsUptoRow.holds Try.pinned (OpenSpec.upto gatherFeedsSpec)

/-- 'posthouselaw07.GatherBack', WHERE WHAT IT READS IS OF BULK AT MOST 1048576: true; the input reads as it did. -/
def gatherBackUptoRow : OpenClaim := { program := "ytnafibnhmhbfiab", sum := "98bc68745beaafcf5f744a4aae9267372eb9a4f59d3c40f041c0e1b3069ec820", func := "posthouse/posthouselaw07.GatherBack", spec := "gatherBack", plainKeys := false, apart := false, narrowed := true }
def GatherBackUptoSaid : Prop := gatherBackUptoRow.holds Try.pinned (OpenSpec.upto gatherBackSpec)

/-- 'posthouselaw08.MethodSame', WHERE WHAT IT READS IS OF BULK AT MOST 1048576: true; the input reads as it did. -/
def methodSameUptoRow : OpenClaim := { program := "ytnafibnhmhbfiab", sum := "98bc68745beaafcf5f744a4aae9267372eb9a4f59d3c40f041c0e1b3069ec820", func := "posthouse/posthouselaw08.MethodSame", spec := "methodSame", unfollowed := true, recurses := true, loops := true, plainKeys := false, apart := false, narrowed := true }
def MethodSameUptoSaid : Prop := methodSameUptoRow.holds Try.pinned (OpenSpec.upto methodSameSpec)

/-- 'posthouselaw08.MethodBack', WHERE WHAT IT READS IS OF BULK AT MOST 1048576: true; the input reads as it did. -/
def methodBackUptoRow : OpenClaim := { program := "ytnafibnhmhbfiab", sum := "98bc68745beaafcf5f744a4aae9267372eb9a4f59d3c40f041c0e1b3069ec820", func := "posthouse/posthouselaw08.MethodBack", spec := "methodBack", unfollowed := true, recurses := true, loops := true, plainKeys := false, apart := false, narrowed := true }
def MethodBackUptoSaid : Prop := methodBackUptoRow.holds Try.pinned (OpenSpec.upto methodBackSpec)

/-- 'posthouselaw08.MethodOne', WHERE WHAT IT READS IS OF BULK AT MOST 1048576: true; the input reads as it did. -/
def methodOneUptoRow : OpenClaim := { program := "ytnafibnhmhbfiab", sum := "98bc68745beaafcf5f744a4aae9267372eb9a4f59d3c40f041c0e1b3069ec820", func := "posthouse/posthouselaw08.MethodOne", spec := "methodOne", unfollowed := true, recurses := true, loops := true, plainKeys := false, apart := false, narrowed := true }
def MethodOneUptoSaid : Prop := methodOneUptoRow.holds Try.pinned (OpenSpec.upto methodOneSpec)

end Rows
end Go.Proofs.Ytnafibnhmhbfiab
