/-
  NARROWER THAN 'FOR EVERY INPUT', by the rows' own cells (each row's printed sentence says how): WorkAdds: loops · WorkTells: loops · WorkLooks: loops · WorkMay: loops.
  DERIVED. THE GIVEN ROWS OF THIS SEAT. 4 by the template 'for every input the law returns true; each argument reads behind the call as it read before'; 0 by the template 'total and deterministic' (their statements: YtpmafabphlejeaaGreatTotals.lean).
  GIVEN WITH THE SEED: the statements are not yours to turn. If you find one false, say at which input.
  Laid BY PROGRAM, IN A SANDBOX (cutbox-rows.mjs): the forced cells as the released guide's own fill.sh prints them over the translation 6bc093bbd7c113fd… (all of the seat's roots in one cut). By AI agents, Wed Nov 11 2026. No macro, syntax, notation, axiom, sorry.
-/
import Derived.Test.YtpmafabphlejeaaGreatChecked
import GoSem.Claim
import GoSem.ClaimJoined
import GoSem.ClaimMapViews
import Derived.JoinedTies
import Derived.KernelRfl
namespace Go.Proofs.YtpmafabphlejeaaGreat
/- THE CELL 'sum', in the pinned program and in every row, IS THE sha256 OF THE DUMP (.gsa) THAT YtpmafabphlejeaaGreatProg.lean LOADS. Nothing in Lean hashes anything: it is a label: what it is worth is what the hold of that sum in a sandbox is worth. -/
noncomputable def Tryz.pinned : Pinned := { name := "ytpmafabphlejeaagreat", sum := "6bc093bbd7c113fdb7a4e3987f71dcf8f0e125bd189c7ebf903c5fabdc5db6db", checked := Tryz.checked }
namespace Rows
def none {H : Type} : Left H := { results := [], args := [] }

/-- 'posthouselaw17.WorkAdds': WHATEVER THE INPUT: true; the input reads as it did. -/
def workAddsSpec : ChangeSpec := { name := "workAdds", fn := fun _ => fun
  | [d1, d2, d3] => { results := [.lit (.bool true)], args := [d1, d2, d3] }
  | _ => none }
def workAddsRow : OpenClaim := { program := "ytpmafabphlejeaagreat", sum := "6bc093bbd7c113fdb7a4e3987f71dcf8f0e125bd189c7ebf903c5fabdc5db6db", func := "posthouse/posthouselaw17.WorkAdds", spec := "workAdds", unfollowed := true, recurses := true, loops := true, plainKeys := false, apart := false }
def WorkAddsSaid : Prop := workAddsRow.holds Tryz.pinned (OpenSpec.ofChange workAddsSpec)

/-- ITS FALSE NEIGHBOUR: 'it returns false'. Refute it at one input. -/
def workAddsWrong : ChangeSpec := { name := "workAdds", fn := fun _ => fun
  | [d1, d2, d3] => { results := [.lit (.bool false)], args := [d1, d2, d3] }
  | _ => none }
def WorkAddsWrongFalsely : Prop := workAddsRow.holds Tryz.pinned (OpenSpec.ofChange workAddsWrong)

/-- 'posthouselaw17.WorkTells': WHATEVER THE INPUT: true; the input reads as it did. -/
def workTellsSpec : ChangeSpec := { name := "workTells", fn := fun _ => fun
  | [d1, d2, d3] => { results := [.lit (.bool true)], args := [d1, d2, d3] }
  | _ => none }
def workTellsRow : OpenClaim := { program := "ytpmafabphlejeaagreat", sum := "6bc093bbd7c113fdb7a4e3987f71dcf8f0e125bd189c7ebf903c5fabdc5db6db", func := "posthouse/posthouselaw17.WorkTells", spec := "workTells", unfollowed := true, recurses := true, loops := true, plainKeys := false, apart := false }
def WorkTellsSaid : Prop := workTellsRow.holds Tryz.pinned (OpenSpec.ofChange workTellsSpec)

/-- ITS FALSE NEIGHBOUR: 'it returns false'. Refute it at one input. -/
def workTellsWrong : ChangeSpec := { name := "workTells", fn := fun _ => fun
  | [d1, d2, d3] => { results := [.lit (.bool false)], args := [d1, d2, d3] }
  | _ => none }
def WorkTellsWrongFalsely : Prop := workTellsRow.holds Tryz.pinned (OpenSpec.ofChange workTellsWrong)

/-- 'posthouselaw17.WorkLooks': WHATEVER THE INPUT: true; the input reads as it did. -/
def workLooksSpec : ChangeSpec := { name := "workLooks", fn := fun _ => fun
  | [d1, d2] => { results := [.lit (.bool true)], args := [d1, d2] }
  | _ => none }
def workLooksRow : OpenClaim := { program := "ytpmafabphlejeaagreat", sum := "6bc093bbd7c113fdb7a4e3987f71dcf8f0e125bd189c7ebf903c5fabdc5db6db", func := "posthouse/posthouselaw17.WorkLooks", spec := "workLooks", unfollowed := true, recurses := true, loops := true, plainKeys := false, apart := false }
def WorkLooksSaid : Prop := workLooksRow.holds Tryz.pinned (OpenSpec.ofChange workLooksSpec)

/-- ITS FALSE NEIGHBOUR: 'it returns false'. Refute it at one input. -/
def workLooksWrong : ChangeSpec := { name := "workLooks", fn := fun _ => fun
  | [d1, d2] => { results := [.lit (.bool false)], args := [d1, d2] }
  | _ => none }
def WorkLooksWrongFalsely : Prop := workLooksRow.holds Tryz.pinned (OpenSpec.ofChange workLooksWrong)

/-- 'posthouselaw17.WorkMay': WHATEVER THE INPUT: true; the input reads as it did. -/
def workMaySpec : ChangeSpec := { name := "workMay", fn := fun _ => fun
  | [d1, d2, d3] => { results := [.lit (.bool true)], args := [d1, d2, d3] }
  | _ => none }
def workMayRow : OpenClaim := { program := "ytpmafabphlejeaagreat", sum := "6bc093bbd7c113fdb7a4e3987f71dcf8f0e125bd189c7ebf903c5fabdc5db6db", func := "posthouse/posthouselaw17.WorkMay", spec := "workMay", unfollowed := true, recurses := true, loops := true, plainKeys := false, apart := false }
def WorkMaySaid : Prop := workMayRow.holds Tryz.pinned (OpenSpec.ofChange workMaySpec)

/-- ITS FALSE NEIGHBOUR: 'it returns false'. Refute it at one input. -/
def workMayWrong : ChangeSpec := { name := "workMay", fn := fun _ => fun
  | [d1, d2, d3] => { results := [.lit (.bool false)], args := [d1, d2, d3] }
  | _ => none }
def WorkMayWrongFalsely : Prop := workMayRow.holds Tryz.pinned (OpenSpec.ofChange workMayWrong)

/- THE SECOND FORM. 'bulk': how many values and letters a reading holds, each counted each time it is reached (what is shared counts as often as it is met; a slice's spare places count too). A statement '..UptoSaid' is the law's where the arguments, and the package variables that the reading takes, are together of bulk at most 1048576: NARROWER than '..Said'. Prove '..Said' where nothing that the law and all that it calls make is longer than what came in: it says more and counts as full. Else prove '..UptoSaid'. A law counts once. -/
mutual
def uptoBulk {H : Type} : DataW H → Nat
  | .lit (.string bytes) => bytes.length + 1
  | .lit _ => 1
  | .nil => 1
  | .ptr d => uptoBulk d + 1
  | .slice elems spare => uptoBulkAll elems + uptoBulkAll spare + 1
  | .agg parts => uptoBulkAll parts + 1
  | .iface _ d => uptoBulk d + 1
  | .map entries => uptoBulkEntries entries + 1
  | .held _ => 1
def uptoBulkAll {H : Type} : List (DataW H) → Nat
  | [] => 0
  | d :: r => uptoBulk d + uptoBulkAll r
def uptoBulkEntries {H : Type} : List (Lit × DataW H) → Nat
  | [] => 0
  | x :: r => uptoBulkEntry x + uptoBulkEntries r
def uptoBulkEntry {H : Type} : Lit × DataW H → Nat
  | (.string bytes, d) => bytes.length + uptoBulk d + 1
  | (_, d) => uptoBulk d + 1
 end
def uptoSmall : (H : Type) → List (DataW H) → Bool := fun _ ds => decide (uptoBulkAll ds ≤ 1048576)
def OpenSpec.upto (s : _root_.Go.ChangeSpec) : _root_.Go.OpenSpec := { _root_.Go.OpenSpec.ofChange s with cond := some uptoSmall }

/-- 'posthouselaw17.WorkAdds', WHERE WHAT IT READS IS OF BULK AT MOST 1048576: true; the input reads as it did. -/
def workAddsUptoRow : OpenClaim := { program := "ytpmafabphlejeaagreat", sum := "6bc093bbd7c113fdb7a4e3987f71dcf8f0e125bd189c7ebf903c5fabdc5db6db", func := "posthouse/posthouselaw17.WorkAdds", spec := "workAdds", unfollowed := true, recurses := true, loops := true, plainKeys := false, apart := false, narrowed := true }
def WorkAddsUptoSaid : Prop := workAddsUptoRow.holds Tryz.pinned (OpenSpec.upto workAddsSpec)

/-- 'posthouselaw17.WorkTells', WHERE WHAT IT READS IS OF BULK AT MOST 1048576: true; the input reads as it did. -/
def workTellsUptoRow : OpenClaim := { program := "ytpmafabphlejeaagreat", sum := "6bc093bbd7c113fdb7a4e3987f71dcf8f0e125bd189c7ebf903c5fabdc5db6db", func := "posthouse/posthouselaw17.WorkTells", spec := "workTells", unfollowed := true, recurses := true, loops := true, plainKeys := false, apart := false, narrowed := true }
def WorkTellsUptoSaid : Prop := workTellsUptoRow.holds Tryz.pinned (OpenSpec.upto workTellsSpec)

/-- 'posthouselaw17.WorkLooks', WHERE WHAT IT READS IS OF BULK AT MOST 1048576: true; the input reads as it did. -/
def workLooksUptoRow : OpenClaim := { program := "ytpmafabphlejeaagreat", sum := "6bc093bbd7c113fdb7a4e3987f71dcf8f0e125bd189c7ebf903c5fabdc5db6db", func := "posthouse/posthouselaw17.WorkLooks", spec := "workLooks", unfollowed := true, recurses := true, loops := true, plainKeys := false, apart := false, narrowed := true }
def WorkLooksUptoSaid : Prop := workLooksUptoRow.holds Tryz.pinned (OpenSpec.upto workLooksSpec)

/-- 'posthouselaw17.WorkMay', WHERE WHAT IT READS IS OF BULK AT MOST 1048576: true; the input reads as it did. -/
def workMayUptoRow : OpenClaim := { program := "ytpmafabphlejeaagreat", sum := "6bc093bbd7c113fdb7a4e3987f71dcf8f0e125bd189c7ebf903c5fabdc5db6db", func := "posthouse/posthouselaw17.WorkMay", spec := "workMay", unfollowed := true, recurses := true, loops := true, plainKeys := false, apart := false, narrowed := true }
def WorkMayUptoSaid : Prop := workMayUptoRow.holds Tryz.pinned (OpenSpec.upto workMaySpec)

end Rows
end Go.Proofs.YtpmafabphlejeaaGreat
