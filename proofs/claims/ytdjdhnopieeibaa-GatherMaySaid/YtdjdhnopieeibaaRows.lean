/-
  No cell of these rows narrows 'for every input' (looked for: loops, veiled, ifaces, maps, wideKeys, modest, calm, conditions, laid).
  DERIVED. THE GIVEN ROWS OF THIS SEAT. 7 by the template 'for every input the law returns true; each argument reads behind the call as it read before'; 0 by the template 'total and deterministic' (their statements: YtdjdhnopieeibaaTotals.lean).
  GIVEN WITH THE SEED: the statements are not yours to turn. If you find one false, say at which input.
  Laid BY PROGRAM, IN A SANDBOX (cutbox-rows.mjs): the forced cells as the released guide's own fill.sh prints them over the translation 7be6e5c1349c2688… (all of the seat's roots in one cut). By AI agents, Wed Nov 11 2026. No macro, syntax, notation, axiom, sorry.
-/
import Derived.Test.YtdjdhnopieeibaaChecked
import GoSem.Claim
import GoSem.ClaimJoined
import GoSem.ClaimMapViews
import Derived.JoinedTies
import Derived.KernelRfl
namespace Go.Proofs.Ytdjdhnopieeibaa
/- THE CELL 'sum', in the pinned program and in every row, IS THE sha256 OF THE DUMP (.gsa) THAT YtdjdhnopieeibaaProg.lean LOADS. Nothing in Lean hashes anything: it is a label: what it is worth is what the hold of that sum in a sandbox is worth. -/
noncomputable def Try.pinned : Pinned := { name := "ytdjdhnopieeibaa", sum := "7be6e5c1349c268804e73c2dc48296fa86420c12f49618d771965fc6f342b2db", checked := Try.checked }
namespace Rows
def none {H : Type} : Left H := { results := [], args := [] }

/-- 'posthouselaw05.ValueGets': WHATEVER THE INPUT: true; the input reads as it did. -/
def valueGetsSpec : ChangeSpec := { name := "valueGets", fn := fun _ => fun
  | [d] => { results := [.lit (.bool true)], args := [d] }
  | _ => none }
def valueGetsRow : OpenClaim := { program := "ytdjdhnopieeibaa", sum := "7be6e5c1349c268804e73c2dc48296fa86420c12f49618d771965fc6f342b2db", func := "posthouse/posthouselaw05.ValueGets", spec := "valueGets", unfollowed := true, recurses := true, plainKeys := false, apart := false }
def ValueGetsSaid : Prop := valueGetsRow.holds Try.pinned (OpenSpec.ofChange valueGetsSpec)

/-- ITS FALSE NEIGHBOUR: 'it returns false'. Refute it at one input. -/
def valueGetsWrong : ChangeSpec := { name := "valueGets", fn := fun _ => fun
  | [d] => { results := [.lit (.bool false)], args := [d] }
  | _ => none }
def ValueGetsWrongFalsely : Prop := valueGetsRow.holds Try.pinned (OpenSpec.ofChange valueGetsWrong)

/-- 'posthouselaw06.FrameBack': WHATEVER THE INPUT: true; the input reads as it did. -/
def frameBackSpec : ChangeSpec := { name := "frameBack", fn := fun _ => fun
  | [d1, d2, d3] => { results := [.lit (.bool true)], args := [d1, d2, d3] }
  | _ => none }
def frameBackRow : OpenClaim := { program := "ytdjdhnopieeibaa", sum := "7be6e5c1349c268804e73c2dc48296fa86420c12f49618d771965fc6f342b2db", func := "posthouse/posthouselaw06.FrameBack", spec := "frameBack", unfollowed := true, recurses := true, plainKeys := false, apart := false }
def FrameBackSaid : Prop := frameBackRow.holds Try.pinned (OpenSpec.ofChange frameBackSpec)

/-- ITS FALSE NEIGHBOUR: 'it returns false'. Refute it at one input. -/
def frameBackWrong : ChangeSpec := { name := "frameBack", fn := fun _ => fun
  | [d1, d2, d3] => { results := [.lit (.bool false)], args := [d1, d2, d3] }
  | _ => none }
def FrameBackWrongFalsely : Prop := frameBackRow.holds Try.pinned (OpenSpec.ofChange frameBackWrong)

/-- 'posthouselaw07.GatherCuts': WHATEVER THE INPUT: true; the input reads as it did. -/
def gatherCutsSpec : ChangeSpec := { name := "gatherCuts", fn := fun _ => fun
  | [d1, d2] => { results := [.lit (.bool true)], args := [d1, d2] }
  | _ => none }
def gatherCutsRow : OpenClaim := { program := "ytdjdhnopieeibaa", sum := "7be6e5c1349c268804e73c2dc48296fa86420c12f49618d771965fc6f342b2db", func := "posthouse/posthouselaw07.GatherCuts", spec := "gatherCuts", plainKeys := false, apart := false }
def GatherCutsSaid : Prop := gatherCutsRow.holds Try.pinned (OpenSpec.ofChange gatherCutsSpec)

/-- ITS FALSE NEIGHBOUR: 'it returns false'. Refute it at one input. -/
def gatherCutsWrong : ChangeSpec := { name := "gatherCuts", fn := fun _ => fun
  | [d1, d2] => { results := [.lit (.bool false)], args := [d1, d2] }
  | _ => none }
def GatherCutsWrongFalsely : Prop := gatherCutsRow.holds Try.pinned (OpenSpec.ofChange gatherCutsWrong)

/-- 'posthouselaw07.GatherFeeds': WHATEVER THE INPUT: true; the input reads as it did. -/
def gatherFeedsSpec : ChangeSpec := { name := "gatherFeeds", fn := fun _ => fun
  | [d] => { results := [.lit (.bool true)], args := [d] }
  | _ => none }
def gatherFeedsRow : OpenClaim := { program := "ytdjdhnopieeibaa", sum := "7be6e5c1349c268804e73c2dc48296fa86420c12f49618d771965fc6f342b2db", func := "posthouse/posthouselaw07.GatherFeeds", spec := "gatherFeeds", plainKeys := false, apart := false }
def GatherFeedsSaid : Prop := gatherFeedsRow.holds Try.pinned (OpenSpec.ofChange gatherFeedsSpec)

/-- ITS FALSE NEIGHBOUR: 'it returns false'. Refute it at one input. -/
def gatherFeedsWrong : ChangeSpec := { name := "gatherFeeds", fn := fun _ => fun
  | [d] => { results := [.lit (.bool false)], args := [d] }
  | _ => none }
def GatherFeedsWrongFalsely : Prop := gatherFeedsRow.holds Try.pinned (OpenSpec.ofChange gatherFeedsWrong)

/-- 'posthouselaw07.GatherBack': WHATEVER THE INPUT: true; the input reads as it did. -/
def gatherBackSpec : ChangeSpec := { name := "gatherBack", fn := fun _ => fun
  | [d1, d2, d3] => { results := [.lit (.bool true)], args := [d1, d2, d3] }
  | _ => none }
def gatherBackRow : OpenClaim := { program := "ytdjdhnopieeibaa", sum := "7be6e5c1349c268804e73c2dc48296fa86420c12f49618d771965fc6f342b2db", func := "posthouse/posthouselaw07.GatherBack", spec := "gatherBack", plainKeys := false, apart := false }
def GatherBackSaid : Prop := gatherBackRow.holds Try.pinned (OpenSpec.ofChange gatherBackSpec)

/-- ITS FALSE NEIGHBOUR: 'it returns false'. Refute it at one input. -/
def gatherBackWrong : ChangeSpec := { name := "gatherBack", fn := fun _ => fun
  | [d1, d2, d3] => { results := [.lit (.bool false)], args := [d1, d2, d3] }
  | _ => none }
def GatherBackWrongFalsely : Prop := gatherBackRow.holds Try.pinned (OpenSpec.ofChange gatherBackWrong)

/-- 'posthouselaw07.GatherMay': WHATEVER THE INPUT: true; the input reads as it did. -/
def gatherMaySpec : ChangeSpec := { name := "gatherMay", fn := fun _ => fun
  | [d] => { results := [.lit (.bool true)], args := [d] }
  | _ => none }
def gatherMayRow : OpenClaim := { program := "ytdjdhnopieeibaa", sum := "7be6e5c1349c268804e73c2dc48296fa86420c12f49618d771965fc6f342b2db", func := "posthouse/posthouselaw07.GatherMay", spec := "gatherMay", plainKeys := false, apart := false }
def GatherMaySaid : Prop := gatherMayRow.holds Try.pinned (OpenSpec.ofChange gatherMaySpec)

/-- ITS FALSE NEIGHBOUR: 'it returns false'. Refute it at one input. -/
def gatherMayWrong : ChangeSpec := { name := "gatherMay", fn := fun _ => fun
  | [d] => { results := [.lit (.bool false)], args := [d] }
  | _ => none }
def GatherMayWrongFalsely : Prop := gatherMayRow.holds Try.pinned (OpenSpec.ofChange gatherMayWrong)

/-- 'posthouselaw07.GatherNone': WHATEVER THE INPUT: true; the input reads as it did. -/
def gatherNoneSpec : ChangeSpec := { name := "gatherNone", fn := fun _ => fun
  | [d] => { results := [.lit (.bool true)], args := [d] }
  | _ => none }
def gatherNoneRow : OpenClaim := { program := "ytdjdhnopieeibaa", sum := "7be6e5c1349c268804e73c2dc48296fa86420c12f49618d771965fc6f342b2db", func := "posthouse/posthouselaw07.GatherNone", spec := "gatherNone", plainKeys := false, apart := false }
def GatherNoneSaid : Prop := gatherNoneRow.holds Try.pinned (OpenSpec.ofChange gatherNoneSpec)

/-- ITS FALSE NEIGHBOUR: 'it returns false'. Refute it at one input. -/
def gatherNoneWrong : ChangeSpec := { name := "gatherNone", fn := fun _ => fun
  | [d] => { results := [.lit (.bool false)], args := [d] }
  | _ => none }
def GatherNoneWrongFalsely : Prop := gatherNoneRow.holds Try.pinned (OpenSpec.ofChange gatherNoneWrong)

/- THE SECOND FORM. 'bulk': how many values and letters a reading holds, each counted each time it is reached (what is shared counts as often as it is met; a slice's spare places count too). A statement '..UptoSaid' is the law's where the arguments, and the package variables that the reading takes, are together of bulk at most 1048576: NARROWER than '..Said'. Prove '..Said' where nothing that the law and all that it calls make is longer than what came in: it says more and counts as full. Else prove '..UptoSaid'. A law counts once. -/
mutual
def uptoBulk {H : Type} : DataW H → Nat
  | .lit (.string bytes) => bytes.length + 1
  | .lit _ => 1
  | .nil => 1
  | .ptr d => uptoBulk d + 1
  | .slice elems spare => uptoBulkAll elems + uptoBulkAll spare + 1
  | .agg parts => uptoBulkAll parts + 1
  | .iface _ d => uptoBulk d + 1
  | .map entries => uptoBulkEntries entries + 1
  | .held _ => 1
def uptoBulkAll {H : Type} : List (DataW H) → Nat
  | [] => 0
  | d :: r => uptoBulk d + uptoBulkAll r
def uptoBulkEntries {H : Type} : List (Lit × DataW H) → Nat
  | [] => 0
  | x :: r => uptoBulkEntry x + uptoBulkEntries r
def uptoBulkEntry {H : Type} : Lit × DataW H → Nat
  | (.string bytes, d) => bytes.length + uptoBulk d + 1
  | (_, d) => uptoBulk d + 1
 end
def uptoSmall : (H : Type) → List (DataW H) → Bool := fun _ ds => decide (uptoBulkAll ds ≤ 1048576)
def OpenSpec.upto (s : _root_.Go.ChangeSpec) : _root_.Go.OpenSpec := { _root_.Go.OpenSpec.ofChange s with cond := some uptoSmall }

/-- 'posthouselaw05.ValueGets', WHERE WHAT IT READS IS OF BULK AT MOST 1048576: true; the input reads as it did. -/
def valueGetsUptoRow : OpenClaim := { program := "ytdjdhnopieeibaa", sum := "7be6e5c1349c268804e73c2dc48296fa86420c12f49618d771965fc6f342b2db", func := "posthouse/posthouselaw05.ValueGets", spec := "valueGets", unfollowed := true, recurses := true, plainKeys := false, apart := false, narrowed := true }
def ValueGetsUptoSaid : Prop := valueGetsUptoRow.holds Try.pinned (OpenSpec.upto valueGetsSpec)

/-- 'posthouselaw06.FrameBack', WHERE WHAT IT READS IS OF BULK AT MOST 1048576: true; the input reads as it did. -/
def frameBackUptoRow : OpenClaim := { program := "ytdjdhnopieeibaa", sum := "7be6e5c1349c268804e73c2dc48296fa86420c12f49618d771965fc6f342b2db", func := "posthouse/posthouselaw06.FrameBack", spec := "frameBack", unfollowed := true, recurses := true, plainKeys := false, apart := false, narrowed := true }
def FrameBackUptoSaid : Prop := frameBackUptoRow.holds Try.pinned (OpenSpec.upto frameBackSpec)

/-- 'posthouselaw07.GatherCuts', WHERE WHAT IT READS IS OF BULK AT MOST 1048576: true; the input reads as it did. -/
def gatherCutsUptoRow : OpenClaim := { program := "ytdjdhnopieeibaa", sum := "7be6e5c1349c268804e73c2dc48296fa86420c12f49618d771965fc6f342b2db", func := "posthouse/posthouselaw07.GatherCuts", spec := "gatherCuts", plainKeys := false, apart := false, narrowed := true }
def GatherCutsUptoSaid : Prop := gatherCutsUptoRow.holds Try.pinned (OpenSpec.upto gatherCutsSpec)

/-- 'posthouselaw07.GatherFeeds', WHERE WHAT IT READS IS OF BULK AT MOST 1048576: true; the input reads as it did. -/
def gatherFeedsUptoRow : OpenClaim := { program := "ytdjdhnopieeibaa", sum := "7be6e5c1349c268804e73c2dc48296fa86420c12f49618d771965fc6f342b2db", func := "posthouse/posthouselaw07.GatherFeeds", spec := "gatherFeeds", plainKeys := false, apart := false, narrowed := true }
def GatherFeedsUptoSaid : Prop := gatherFeedsUptoRow.holds Try.pinned (OpenSpec.upto gatherFeedsSpec)

/-- 'posthouselaw07.GatherBack', WHERE WHAT IT READS IS OF BULK AT MOST 1048576: true; the input reads as it did. -/
def gatherBackUptoRow : OpenClaim := { program := "ytdjdhnopieeibaa", sum := "7be6e5c1349c268804e73c2dc48296fa86420c12f49618d771965fc6f342b2db", func := "posthouse/posthouselaw07.GatherBack", spec := "gatherBack", plainKeys := false, apart := false, narrowed := true }
def GatherBackUptoSaid : Prop := gatherBackUptoRow.holds Try.pinned (OpenSpec.upto gatherBackSpec)

/-- 'posthouselaw07.GatherMay', WHERE WHAT IT READS IS OF BULK AT MOST 1048576: true; the input reads as it did. -/
def gatherMayUptoRow : OpenClaim := { program := "ytdjdhnopieeibaa", sum := "7be6e5c1349c268804e73c2dc48296fa86420c12f49618d771965fc6f342b2db", func := "posthouse/posthouselaw07.GatherMay", spec := "gatherMay", plainKeys := false, apart := false, narrowed := true }
def GatherMayUptoSaid : Prop := gatherMayUptoRow.holds Try.pinned (OpenSpec.upto gatherMaySpec)

/-- 'posthouselaw07.GatherNone', WHERE WHAT IT READS IS OF BULK AT MOST 1048576: true; the input reads as it did. -/
def gatherNoneUptoRow : OpenClaim := { program := "ytdjdhnopieeibaa", sum := "7be6e5c1349c268804e73c2dc48296fa86420c12f49618d771965fc6f342b2db", func := "posthouse/posthouselaw07.GatherNone", spec := "gatherNone", plainKeys := false, apart := false, narrowed := true }
def GatherNoneUptoSaid : Prop := gatherNoneUptoRow.holds Try.pinned (OpenSpec.upto gatherNoneSpec)

end Rows
end Go.Proofs.Ytdjdhnopieeibaa
