/-
  NARROWER THAN 'FOR EVERY INPUT', by the rows' own cells (each row's printed sentence says how): RecordPuts: laid · RecordLong: laid · RecordScans: laid · RecordCut: laid · RecordAgain: laid · RecordTurned: laid.
  DERIVED. THE GIVEN ROWS OF THIS SEAT. 6 by the template 'for every input the law returns true; each argument reads behind the call as it read before'; 0 by the template 'total and deterministic' (their statements: YtmpcddljgcckcaaDoorTotals.lean).
  GIVEN WITH THE SEED: the statements are not yours to turn. If you find one false, say at which input.
  Laid BY PROGRAM, IN A SANDBOX (cutbox-rows.mjs): the forced cells as the released guide's own fill.sh prints them over the translation da10dd464140a8a2… (all of the seat's roots in one cut). By AI agents, Wed Nov 11 2026. No macro, syntax, notation, axiom, sorry.
-/
import Derived.Test.YtmpcddljgcckcaaDoorChecked
import GoSem.Claim
import GoSem.ClaimJoined
import GoSem.ClaimMapViews
import Derived.JoinedTies
import Derived.KernelRfl
namespace Go.Proofs.YtmpcddljgcckcaaDoor
/- THE CELL 'sum', in the pinned program and in every row, IS THE sha256 OF THE DUMP (.gsa) THAT YtmpcddljgcckcaaDoorProg.lean LOADS. Nothing in Lean hashes anything: it is a label: what it is worth is what the hold of that sum in a sandbox is worth. -/
noncomputable def Tryd.pinned : Pinned := { name := "ytmpcddljgcckcaadoor", sum := "da10dd464140a8a27d885e5d1975b30bffe94cedbc883a2d81fa7c1a1d81a609", checked := Tryd.checked }
namespace Rows
def none {H : Type} : Left H := { results := [], args := [] }

/- WHAT THE LISTED PACKAGE-LEVEL VARIABLES READ AS WHEN THE CALL BEGINS. Each datum BY PROGRAM (the guide's laid-datum.mjs) off the statement by which the dump's own 'gosem.cut.vars' lays the variable. In a bare row this is a premise. The card (YtmpcddljgcckcaaDoorCards.lean) ties it to the program's text. -/
def laid_posthouse_crc_effects {H : Type} : DataW H := .agg [.lit (.int .u32 0), .lit (.int .u32 274646895), .lit (.int .u32 549293790), .lit (.int .u32 820201905), .lit (.int .u32 1098587580), .lit (.int .u32 1361435347), .lit (.int .u32 1640403810), .lit (.int .u32 1905808397), .lit (.int .u32 2197175160), .lit (.int .u32 2460548119), .lit (.int .u32 2722870694), .lit (.int .u32 2987750089), .lit (.int .u32 3280807620), .lit (.int .u32 3553878443), .lit (.int .u32 3811616794), .lit (.int .u32 4084100981)]

/-- 'posthouselaw11.RecordPuts': WHATEVER THE INPUT: true; the input reads as it did. -/
def recordPutsSpec : ChangeSpec := { name := "recordPuts", fn := fun _ => fun
  | [d] => { results := [.lit (.bool true)], args := [d] }
  | _ => none }
def recordPutsRow : OpenClaim := { program := "ytmpcddljgcckcaadoor", sum := "da10dd464140a8a27d885e5d1975b30bffe94cedbc883a2d81fa7c1a1d81a609", func := "posthouse/posthouselaw11.RecordPuts", spec := "recordPuts", inPlace := ["internal/abi.NoEscape"], named := ["posthouse/crc.effects"], apart := false, laid := [("posthouse/crc.effects", laid_posthouse_crc_effects)] }
def RecordPutsSaid : Prop := recordPutsRow.holds Tryd.pinned (OpenSpec.ofChange recordPutsSpec)

/-- ITS FALSE NEIGHBOUR: 'it returns false'. Refute it at one input. -/
def recordPutsWrong : ChangeSpec := { name := "recordPuts", fn := fun _ => fun
  | [d] => { results := [.lit (.bool false)], args := [d] }
  | _ => none }
def RecordPutsWrongFalsely : Prop := recordPutsRow.holds Tryd.pinned (OpenSpec.ofChange recordPutsWrong)

/-- 'posthouselaw11.RecordLong': WHATEVER THE INPUT: true; the input reads as it did. -/
def recordLongSpec : ChangeSpec := { name := "recordLong", fn := fun _ => fun
  | [d1, d2] => { results := [.lit (.bool true)], args := [d1, d2] }
  | _ => none }
def recordLongRow : OpenClaim := { program := "ytmpcddljgcckcaadoor", sum := "da10dd464140a8a27d885e5d1975b30bffe94cedbc883a2d81fa7c1a1d81a609", func := "posthouse/posthouselaw11.RecordLong", spec := "recordLong", inPlace := ["internal/abi.NoEscape"], named := ["posthouse/crc.effects"], apart := false, laid := [("posthouse/crc.effects", laid_posthouse_crc_effects)] }
def RecordLongSaid : Prop := recordLongRow.holds Tryd.pinned (OpenSpec.ofChange recordLongSpec)

/-- ITS FALSE NEIGHBOUR: 'it returns false'. Refute it at one input. -/
def recordLongWrong : ChangeSpec := { name := "recordLong", fn := fun _ => fun
  | [d1, d2] => { results := [.lit (.bool false)], args := [d1, d2] }
  | _ => none }
def RecordLongWrongFalsely : Prop := recordLongRow.holds Tryd.pinned (OpenSpec.ofChange recordLongWrong)

/-- 'posthouselaw11.RecordScans': WHATEVER THE INPUT: true; the input reads as it did. -/
def recordScansSpec : ChangeSpec := { name := "recordScans", fn := fun _ => fun
  | [d] => { results := [.lit (.bool true)], args := [d] }
  | _ => none }
def recordScansRow : OpenClaim := { program := "ytmpcddljgcckcaadoor", sum := "da10dd464140a8a27d885e5d1975b30bffe94cedbc883a2d81fa7c1a1d81a609", func := "posthouse/posthouselaw11.RecordScans", spec := "recordScans", inPlace := ["internal/abi.NoEscape"], named := ["posthouse/crc.effects"], apart := false, laid := [("posthouse/crc.effects", laid_posthouse_crc_effects)] }
def RecordScansSaid : Prop := recordScansRow.holds Tryd.pinned (OpenSpec.ofChange recordScansSpec)

/-- ITS FALSE NEIGHBOUR: 'it returns false'. Refute it at one input. -/
def recordScansWrong : ChangeSpec := { name := "recordScans", fn := fun _ => fun
  | [d] => { results := [.lit (.bool false)], args := [d] }
  | _ => none }
def RecordScansWrongFalsely : Prop := recordScansRow.holds Tryd.pinned (OpenSpec.ofChange recordScansWrong)

/-- 'posthouselaw11.RecordCut': WHATEVER THE INPUT: true; the input reads as it did. -/
def recordCutSpec : ChangeSpec := { name := "recordCut", fn := fun _ => fun
  | [d1, d2] => { results := [.lit (.bool true)], args := [d1, d2] }
  | _ => none }
def recordCutRow : OpenClaim := { program := "ytmpcddljgcckcaadoor", sum := "da10dd464140a8a27d885e5d1975b30bffe94cedbc883a2d81fa7c1a1d81a609", func := "posthouse/posthouselaw11.RecordCut", spec := "recordCut", inPlace := ["internal/abi.NoEscape"], named := ["posthouse/crc.effects"], apart := false, laid := [("posthouse/crc.effects", laid_posthouse_crc_effects)] }
def RecordCutSaid : Prop := recordCutRow.holds Tryd.pinned (OpenSpec.ofChange recordCutSpec)

/-- ITS FALSE NEIGHBOUR: 'it returns false'. Refute it at one input. -/
def recordCutWrong : ChangeSpec := { name := "recordCut", fn := fun _ => fun
  | [d1, d2] => { results := [.lit (.bool false)], args := [d1, d2] }
  | _ => none }
def RecordCutWrongFalsely : Prop := recordCutRow.holds Tryd.pinned (OpenSpec.ofChange recordCutWrong)

/-- 'posthouselaw11.RecordAgain': WHATEVER THE INPUT: true; the input reads as it did. -/
def recordAgainSpec : ChangeSpec := { name := "recordAgain", fn := fun _ => fun
  | [d] => { results := [.lit (.bool true)], args := [d] }
  | _ => none }
def recordAgainRow : OpenClaim := { program := "ytmpcddljgcckcaadoor", sum := "da10dd464140a8a27d885e5d1975b30bffe94cedbc883a2d81fa7c1a1d81a609", func := "posthouse/posthouselaw11.RecordAgain", spec := "recordAgain", inPlace := ["internal/abi.NoEscape"], named := ["posthouse/crc.effects"], apart := false, laid := [("posthouse/crc.effects", laid_posthouse_crc_effects)] }
def RecordAgainSaid : Prop := recordAgainRow.holds Tryd.pinned (OpenSpec.ofChange recordAgainSpec)

/-- ITS FALSE NEIGHBOUR: 'it returns false'. Refute it at one input. -/
def recordAgainWrong : ChangeSpec := { name := "recordAgain", fn := fun _ => fun
  | [d] => { results := [.lit (.bool false)], args := [d] }
  | _ => none }
def RecordAgainWrongFalsely : Prop := recordAgainRow.holds Tryd.pinned (OpenSpec.ofChange recordAgainWrong)

/-- 'posthouselaw11.RecordTurned': WHATEVER THE INPUT: true; the input reads as it did. -/
def recordTurnedSpec : ChangeSpec := { name := "recordTurned", fn := fun _ => fun
  | [d1, d2] => { results := [.lit (.bool true)], args := [d1, d2] }
  | _ => none }
def recordTurnedRow : OpenClaim := { program := "ytmpcddljgcckcaadoor", sum := "da10dd464140a8a27d885e5d1975b30bffe94cedbc883a2d81fa7c1a1d81a609", func := "posthouse/posthouselaw11.RecordTurned", spec := "recordTurned", inPlace := ["internal/abi.NoEscape"], named := ["posthouse/crc.effects"], apart := false, laid := [("posthouse/crc.effects", laid_posthouse_crc_effects)] }
def RecordTurnedSaid : Prop := recordTurnedRow.holds Tryd.pinned (OpenSpec.ofChange recordTurnedSpec)

/-- ITS FALSE NEIGHBOUR: 'it returns false'. Refute it at one input. -/
def recordTurnedWrong : ChangeSpec := { name := "recordTurned", fn := fun _ => fun
  | [d1, d2] => { results := [.lit (.bool false)], args := [d1, d2] }
  | _ => none }
def RecordTurnedWrongFalsely : Prop := recordTurnedRow.holds Tryd.pinned (OpenSpec.ofChange recordTurnedWrong)

/- THE SECOND FORM. 'bulk': how many values and letters a reading holds, each counted each time it is reached (what is shared counts as often as it is met; a slice's spare places count too). A statement '..UptoSaid' is the law's where the arguments, and the package variables that the reading takes, are together of bulk at most 1048576: NARROWER than '..Said'. Prove '..Said' where nothing that the law and all that it calls make is longer than what came in: it says more and counts as full. Else prove '..UptoSaid'. A law counts once. -/
mutual
def uptoBulk {H : Type} : DataW H → Nat
  | .lit (.string bytes) => bytes.length + 1
  | .lit _ => 1
  | .nil => 1
  | .ptr d => uptoBulk d + 1
  | .slice elems spare => uptoBulkAll elems + uptoBulkAll spare + 1
  | .agg parts => uptoBulkAll parts + 1
  | .iface _ d => uptoBulk d + 1
  | .map entries => uptoBulkEntries entries + 1
  | .held _ => 1
def uptoBulkAll {H : Type} : List (DataW H) → Nat
  | [] => 0
  | d :: r => uptoBulk d + uptoBulkAll r
def uptoBulkEntries {H : Type} : List (Lit × DataW H) → Nat
  | [] => 0
  | x :: r => uptoBulkEntry x + uptoBulkEntries r
def uptoBulkEntry {H : Type} : Lit × DataW H → Nat
  | (.string bytes, d) => bytes.length + uptoBulk d + 1
  | (_, d) => uptoBulk d + 1
 end
def uptoSmall : (H : Type) → List (DataW H) → Bool := fun _ ds => decide (uptoBulkAll ds ≤ 1048576)
def OpenSpec.upto (s : _root_.Go.ChangeSpec) : _root_.Go.OpenSpec := { _root_.Go.OpenSpec.ofChange s with cond := some uptoSmall }

/-- 'posthouselaw11.RecordPuts', WHERE WHAT IT READS IS OF BULK AT MOST 1048576: true; the input reads as it did. -/
def recordPutsUptoRow : OpenClaim := { program := "ytmpcddljgcckcaadoor", sum := "da10dd464140a8a27d885e5d1975b30bffe94cedbc883a2d81fa7c1a1d81a609", func := "posthouse/posthouselaw11.RecordPuts", spec := "recordPuts", inPlace := ["internal/abi.NoEscape"], named := ["posthouse/crc.effects"], apart := false, laid := [("posthouse/crc.effects", laid_posthouse_crc_effects)], narrowed := true }
def RecordPutsUptoSaid : Prop := recordPutsUptoRow.holds Tryd.pinned (OpenSpec.upto recordPutsSpec)

/-- 'posthouselaw11.RecordLong', WHERE WHAT IT READS IS OF BULK AT MOST 1048576: true; the input reads as it did. -/
def recordLongUptoRow : OpenClaim := { program := "ytmpcddljgcckcaadoor", sum := "da10dd464140a8a27d885e5d1975b30bffe94cedbc883a2d81fa7c1a1d81a609", func := "posthouse/posthouselaw11.RecordLong", spec := "recordLong", inPlace := ["internal/abi.NoEscape"], named := ["posthouse/crc.effects"], apart := false, laid := [("posthouse/crc.effects", laid_posthouse_crc_effects)], narrowed := true }
def RecordLongUptoSaid : Prop := recordLongUptoRow.holds Tryd.pinned (OpenSpec.upto recordLongSpec)

/-- 'posthouselaw11.RecordScans', WHERE WHAT IT READS IS OF BULK AT MOST 1048576: true; the input reads as it did. -/
def recordScansUptoRow : OpenClaim := { program := "ytmpcddljgcckcaadoor", sum := "da10dd464140a8a27d885e5d1975b30bffe94cedbc883a2d81fa7c1a1d81a609", func := "posthouse/posthouselaw11.RecordScans", spec := "recordScans", inPlace := ["internal/abi.NoEscape"], named := ["posthouse/crc.effects"], apart := false, laid := [("posthouse/crc.effects", laid_posthouse_crc_effects)], narrowed := true }
def RecordScansUptoSaid : Prop := recordScansUptoRow.holds Tryd.pinned (OpenSpec.upto recordScansSpec)

/-- 'posthouselaw11.RecordCut', WHERE WHAT IT READS IS OF BULK AT MOST 1048576: true; the input reads as it did. -/
def recordCutUptoRow : OpenClaim := { program := "ytmpcddljgcckcaadoor", sum := "da10dd464140a8a27d885e5d1975b30bffe94cedbc883a2d81fa7c1a1d81a609", func := "posthouse/posthouselaw11.RecordCut", spec := "recordCut", inPlace := ["internal/abi.NoEscape"], named := ["posthouse/crc.effects"], apart := false, laid := [("posthouse/crc.effects", laid_posthouse_crc_effects)], narrowed := true }
def RecordCutUptoSaid : Prop := recordCutUptoRow.holds Tryd.pinned (OpenSpec.upto recordCutSpec)

/-- 'posthouselaw11.RecordAgain', WHERE WHAT IT READS IS OF BULK AT MOST 1048576: true; the input reads as it did. -/
def recordAgainUptoRow : OpenClaim := { program := "ytmpcddljgcckcaadoor", sum := "da10dd464140a8a27d885e5d1975b30bffe94cedbc883a2d81fa7c1a1d81a609", func := "posthouse/posthouselaw11.RecordAgain", spec := "recordAgain", inPlace := ["internal/abi.NoEscape"], named := ["posthouse/crc.effects"], apart := false, laid := [("posthouse/crc.effects", laid_posthouse_crc_effects)], narrowed := true }
def RecordAgainUptoSaid : Prop := recordAgainUptoRow.holds Tryd.pinned (OpenSpec.upto recordAgainSpec)

/-- 'posthouselaw11.RecordTurned', WHERE WHAT IT READS IS OF BULK AT MOST 1048576: true; the input reads as it did. -/
def recordTurnedUptoRow : OpenClaim := { program := "ytmpcddljgcckcaadoor", sum := "da10dd464140a8a27d885e5d1975b30bffe94cedbc883a2d81fa7c1a1d81a609", func := "posthouse/posthouselaw11.RecordTurned", spec := "recordTurned", inPlace := ["internal/abi.NoEscape"], named := ["posthouse/crc.effects"], apart := false, laid := [("posthouse/crc.effects", laid_posthouse_crc_effects)], narrowed := true }
def RecordTurnedUptoSaid : Prop := recordTurnedUptoRow.holds Tryd.pinned (OpenSpec.upto recordTurnedSpec)

end Rows
end Go.Proofs.YtmpcddljgcckcaaDoor
