/-
  No cell of these rows narrows 'for every input' (looked for: loops, veiled, ifaces, maps, wideKeys, modest, calm, conditions, laid).
  DERIVED. THE GIVEN ROWS OF THIS SEAT. 4 by the template 'for every input the law returns true; each argument reads behind the call as it read before'; 0 by the template 'total and deterministic' (their statements: YtknfiiacalfelaaTotals.lean).
  GIVEN WITH THE SEED: the statements are not yours to turn. If you find one false, say at which input.
  Laid BY PROGRAM, IN A SANDBOX (cutbox-rows.mjs): the forced cells as the released guide's own fill.sh prints them over the translation 1ac58ac0007a5786… (all of the seat's roots in one cut). By AI agents, Wed Nov 11 2026. No macro, syntax, notation, axiom, sorry.
-/
import Derived.Test.YtknfiiacalfelaaChecked
import GoSem.Claim
import GoSem.ClaimJoined
import GoSem.ClaimMapViews
import Derived.JoinedTies
import Derived.KernelRfl
namespace Go.Proofs.Ytknfiiacalfelaa
/- THE CELL 'sum', in the pinned program and in every row, IS THE sha256 OF THE DUMP (.gsa) THAT YtknfiiacalfelaaProg.lean LOADS. Nothing in Lean hashes anything: it is a label: what it is worth is what the hold of that sum in a sandbox is worth. -/
noncomputable def Try.pinned : Pinned := { name := "ytknfiiacalfelaa", sum := "1ac58ac0007a57864bb64a948320a80f2b37e7d05243feee0648b141f4eaf50d", checked := Try.checked }
namespace Rows
def none {H : Type} : Left H := { results := [], args := [] }

/-- 'posthouselaw16.CreditPlays': WHATEVER THE INPUT: true; the input reads as it did. -/
def creditPlaysSpec : ChangeSpec := { name := "creditPlays", fn := fun _ => fun
  | [d] => { results := [.lit (.bool true)], args := [d] }
  | _ => none }
def creditPlaysRow : OpenClaim := { program := "ytknfiiacalfelaa", sum := "1ac58ac0007a57864bb64a948320a80f2b37e7d05243feee0648b141f4eaf50d", func := "posthouse/posthouselaw16.CreditPlays", spec := "creditPlays", unfollowed := true, recurses := true, apart := false }
def CreditPlaysSaid : Prop := creditPlaysRow.holds Try.pinned (OpenSpec.ofChange creditPlaysSpec)

/-- ITS FALSE NEIGHBOUR: 'it returns false'. Refute it at one input. -/
def creditPlaysWrong : ChangeSpec := { name := "creditPlays", fn := fun _ => fun
  | [d] => { results := [.lit (.bool false)], args := [d] }
  | _ => none }
def CreditPlaysWrongFalsely : Prop := creditPlaysRow.holds Try.pinned (OpenSpec.ofChange creditPlaysWrong)

/-- 'posthouselaw16.CreditSpends': WHATEVER THE INPUT: true; the input reads as it did. -/
def creditSpendsSpec : ChangeSpec := { name := "creditSpends", fn := fun _ => fun
  | [d] => { results := [.lit (.bool true)], args := [d] }
  | _ => none }
def creditSpendsRow : OpenClaim := { program := "ytknfiiacalfelaa", sum := "1ac58ac0007a57864bb64a948320a80f2b37e7d05243feee0648b141f4eaf50d", func := "posthouse/posthouselaw16.CreditSpends", spec := "creditSpends", unfollowed := true, recurses := true, apart := false }
def CreditSpendsSaid : Prop := creditSpendsRow.holds Try.pinned (OpenSpec.ofChange creditSpendsSpec)

/-- ITS FALSE NEIGHBOUR: 'it returns false'. Refute it at one input. -/
def creditSpendsWrong : ChangeSpec := { name := "creditSpends", fn := fun _ => fun
  | [d] => { results := [.lit (.bool false)], args := [d] }
  | _ => none }
def CreditSpendsWrongFalsely : Prop := creditSpendsRow.holds Try.pinned (OpenSpec.ofChange creditSpendsWrong)

/-- 'posthouselaw16.CreditFair': WHATEVER THE INPUT: true; the input reads as it did. -/
def creditFairSpec : ChangeSpec := { name := "creditFair", fn := fun _ => fun
  | [d1, d2] => { results := [.lit (.bool true)], args := [d1, d2] }
  | _ => none }
def creditFairRow : OpenClaim := { program := "ytknfiiacalfelaa", sum := "1ac58ac0007a57864bb64a948320a80f2b37e7d05243feee0648b141f4eaf50d", func := "posthouse/posthouselaw16.CreditFair", spec := "creditFair", unfollowed := true, recurses := true, apart := false }
def CreditFairSaid : Prop := creditFairRow.holds Try.pinned (OpenSpec.ofChange creditFairSpec)

/-- ITS FALSE NEIGHBOUR: 'it returns false'. Refute it at one input. -/
def creditFairWrong : ChangeSpec := { name := "creditFair", fn := fun _ => fun
  | [d1, d2] => { results := [.lit (.bool false)], args := [d1, d2] }
  | _ => none }
def CreditFairWrongFalsely : Prop := creditFairRow.holds Try.pinned (OpenSpec.ofChange creditFairWrong)

/-- 'posthouselaw16.CreditNone': WHATEVER THE INPUT: true; the input reads as it did. -/
def creditNoneSpec : ChangeSpec := { name := "creditNone", fn := fun _ => fun
  | [d1, d2] => { results := [.lit (.bool true)], args := [d1, d2] }
  | _ => none }
def creditNoneRow : OpenClaim := { program := "ytknfiiacalfelaa", sum := "1ac58ac0007a57864bb64a948320a80f2b37e7d05243feee0648b141f4eaf50d", func := "posthouse/posthouselaw16.CreditNone", spec := "creditNone", unfollowed := true, recurses := true, apart := false }
def CreditNoneSaid : Prop := creditNoneRow.holds Try.pinned (OpenSpec.ofChange creditNoneSpec)

/-- ITS FALSE NEIGHBOUR: 'it returns false'. Refute it at one input. -/
def creditNoneWrong : ChangeSpec := { name := "creditNone", fn := fun _ => fun
  | [d1, d2] => { results := [.lit (.bool false)], args := [d1, d2] }
  | _ => none }
def CreditNoneWrongFalsely : Prop := creditNoneRow.holds Try.pinned (OpenSpec.ofChange creditNoneWrong)

/- THE SECOND FORM. 'bulk': how many values and letters a reading holds, each counted each time it is reached (what is shared counts as often as it is met; a slice's spare places count too). A statement '..UptoSaid' is the law's where the arguments, and the package variables that the reading takes, are together of bulk at most 1048576: NARROWER than '..Said'. Prove '..Said' where nothing that the law and all that it calls make is longer than what came in: it says more and counts as full. Else prove '..UptoSaid'. A law counts once. -/
mutual
def uptoBulk {H : Type} : DataW H → Nat
  | .lit (.string bytes) => bytes.length + 1
  | .lit _ => 1
  | .nil => 1
  | .ptr d => uptoBulk d + 1
  | .slice elems spare => uptoBulkAll elems + uptoBulkAll spare + 1
  | .agg parts => uptoBulkAll parts + 1
  | .iface _ d => uptoBulk d + 1
  | .map entries => uptoBulkEntries entries + 1
  | .held _ => 1
def uptoBulkAll {H : Type} : List (DataW H) → Nat
  | [] => 0
  | d :: r => uptoBulk d + uptoBulkAll r
def uptoBulkEntries {H : Type} : List (Lit × DataW H) → Nat
  | [] => 0
  | x :: r => uptoBulkEntry x + uptoBulkEntries r
def uptoBulkEntry {H : Type} : Lit × DataW H → Nat
  | (.string bytes, d) => bytes.length + uptoBulk d + 1
  | (_, d) => uptoBulk d + 1
 end
def uptoSmall : (H : Type) → List (DataW H) → Bool := fun _ ds => decide (uptoBulkAll ds ≤ 1048576)
def OpenSpec.upto (s : _root_.Go.ChangeSpec) : _root_.Go.OpenSpec := { _root_.Go.OpenSpec.ofChange s with cond := some uptoSmall }

/-- 'posthouselaw16.CreditPlays', WHERE WHAT IT READS IS OF BULK AT MOST 1048576: true; the input reads as it did. -/
def creditPlaysUptoRow : OpenClaim := { program := "ytknfiiacalfelaa", sum := "1ac58ac0007a57864bb64a948320a80f2b37e7d05243feee0648b141f4eaf50d", func := "posthouse/posthouselaw16.CreditPlays", spec := "creditPlays", unfollowed := true, recurses := true, apart := false, narrowed := true }
def CreditPlaysUptoSaid : Prop := creditPlaysUptoRow.holds Try.pinned (OpenSpec.upto creditPlaysSpec)

/-- 'posthouselaw16.CreditSpends', WHERE WHAT IT READS IS OF BULK AT MOST 1048576: true; the input reads as it did. -/
def creditSpendsUptoRow : OpenClaim := { program := "ytknfiiacalfelaa", sum := "1ac58ac0007a57864bb64a948320a80f2b37e7d05243feee0648b141f4eaf50d", func := "posthouse/posthouselaw16.CreditSpends", spec := "creditSpends", unfollowed := true, recurses := true, apart := false, narrowed := true }
def CreditSpendsUptoSaid : Prop := creditSpendsUptoRow.holds Try.pinned (OpenSpec.upto creditSpendsSpec)

/-- 'posthouselaw16.CreditFair', WHERE WHAT IT READS IS OF BULK AT MOST 1048576: true; the input reads as it did. -/
def creditFairUptoRow : OpenClaim := { program := "ytknfiiacalfelaa", sum := "1ac58ac0007a57864bb64a948320a80f2b37e7d05243feee0648b141f4eaf50d", func := "posthouse/posthouselaw16.CreditFair", spec := "creditFair", unfollowed := true, recurses := true, apart := false, narrowed := true }
def CreditFairUptoSaid : Prop := creditFairUptoRow.holds Try.pinned (OpenSpec.upto creditFairSpec)

/-- 'posthouselaw16.CreditNone', WHERE WHAT IT READS IS OF BULK AT MOST 1048576: true; the input reads as it did. -/
def creditNoneUptoRow : OpenClaim := { program := "ytknfiiacalfelaa", sum := "1ac58ac0007a57864bb64a948320a80f2b37e7d05243feee0648b141f4eaf50d", func := "posthouse/posthouselaw16.CreditNone", spec := "creditNone", unfollowed := true, recurses := true, apart := false, narrowed := true }
def CreditNoneUptoSaid : Prop := creditNoneUptoRow.holds Try.pinned (OpenSpec.upto creditNoneSpec)

end Rows
end Go.Proofs.Ytknfiiacalfelaa
