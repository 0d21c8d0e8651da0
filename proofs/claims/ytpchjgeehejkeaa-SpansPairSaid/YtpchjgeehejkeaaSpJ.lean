/-
  How a slice of spans that came in is opened, and what the statements share.
  Conditions: none.
-/
import Derived.Test.YtpchjgeehejkeaaSpI
import Derived.Test.YtpchjgeehejkeaaGenOpen
import Derived.Test.YtpchjgeehejkeaaRowkit
namespace Go.Proofs.Ytpchjgeehejkeaa
open Go.ChangeShapes Go.WideShapes Go.ChangeAt Go.RowKit
set_option linter.unusedVariables false
set_option linter.unusedSimpArgs false

theorem bytesSpan : Try.prog.bytesOf 37 = 8 := by kernel_rfl
theorem spanTypes (i : Nat) (f : Field) (h : (Try.prog.fieldsOf 37)[i]? = some f) : Try.prog.underlying f.type = some (.int .u32) := by
  have hm : (Try.prog.fieldsOf 37).toList.map (fun f => f.type) = [23, 23] := by kernel_rfl
  have hf : f.type ∈ (Try.prog.fieldsOf 37).toList.map (fun f => f.type) := List.mem_map.2 ⟨f, by
    have := Array.mem_of_getElem? h
    simpa using this, rfl⟩
  rw [hm] at hf
  have : f.type = 23 := by simpa using hf
  rw [this]
  exact Try.underlying23

section
variable {H : Type} {enc : TypeId × Value → H} {w : World} {base : Nat} {spare : Nat → Bool} {held : Bool}
/-- A slice of spans of the arguments. -/
theorem open_spans {r : Reach} {b0 : Nat} {v : Value} {d : DataW H} {p : List MemPlace} (hv : Value.okWide Try.prog w r b0 22 v) (h : DataW.Trod enc Try.prog w base spare held 22 v d p) {ts : List TypeId} {ds : List (DataW H)}
    (hsz : (DataW.weightsEach Try.prog ts ds).all (· ≤ reachBytes) = true) (j : Nat) (hj : ts[j]? = some 22) (hd : ds[j]? = some d) :
    ∃ (A : Option Addr) (c d0 : Nat) (l : List Sp), v = .slice A l.length c ∧ ShowsG spanC w d0 (.slice A l.length c) l ∧ l.length * 8 ≤ 140737488351232 ∧ u32s l := by
  obtain ⟨A, c, d0, l, h1, h2, h3, h4⟩ := open_pairs Try.underlying22 spanFields (by kernel_rfl) (by kernel_rfl) (by kernel_rfl) spanTypes (fun z hz => (u32_range hz).1) hv h hsz j hj hd
  rw [bytesSpan] at h3
  exact ⟨A, c, d0, l, h1, h2, h3, fun s hs => by have := u32_range (h4 s hs).1; have := u32_range (h4 s hs).2; omega⟩
end

theorem lt32 {n : Nat} (h : (n : Int) < 4294967296) : n < 4294967296 := by omega

end Go.Proofs.Ytpchjgeehejkeaa
