/-
  The contracts of slices.EqualFunc over arguments and of method.Same; the document's Small of methods.
  Conditions: none but sizes.
-/
import Derived.Test.YtpbdnfonflmncaaGreatMeCZ
import Derived.Test.YtpbdnfonflmncaaGreatMeJZ
import Derived.Test.YtpbdnfonflmncaaGreatValPZ
namespace Go.Proofs.YtpbdnfonflmncaaGreat
open Go.RowKit
set_option linter.unusedVariables false
set_option linter.unusedSimpArgs false
def sameArgs (l m : List ArgP) : Bool := decide (l.length = m.length) && (List.range l.length).all (fun j => match l[j]?, m[j]? with | some a, some b => sameA a b | _, _ => false)
theorem sameArgs_iff (l m : List ArgP) : sameArgs l m = true ↔ l = m := by
 unfold sameArgs
 rw [Bool.and_eq_true, decide_eq_true_eq, List.all_eq_true]
 constructor
 ·rintro ⟨h1, h2⟩
  refine List.ext_getElem h1 fun i hi hi' => ?_
  have := h2 i (List.mem_range.2 hi)
  rw [List.getElem?_eq_getElem hi, List.getElem?_eq_getElem hi'] at this
  exact (sameA_iff _ _).1 this
 ·rintro rfl
  refine ⟨rfl, fun i hi => ?_⟩
  rw [List.mem_range] at hi
  rw [List.getElem?_eq_getElem hi]
  exact (sameA_iff _ _).2 rfl
theorem sameArgs_no {l m : List ArgP} (j : Nat) (hl : j < l.length) (hm : j < m.length) (h : sameA l[j] m[j] = false) : sameArgs l m = false := by
 cases hs : sameArgs l m with
 | false => rfl
 | true =>
  have := (sameArgs_iff l m).1 hs
  subst this
  rw [(sameA_iff _ _).2 rfl] at h
  cases h
theorem take_eq_snoc {l m : List ArgP} {j : Nat} (hl : j < l.length) (hm : j < m.length) (h : l.take j = m.take j) (hs : sameA l[j] m[j] = true) : l.take (j + 1) = m.take (j + 1) := by
 rw [List.take_succ_eq_append_getElem hl, List.take_succ_eq_append_getElem hm, h, (sameA_iff _ _).1 hs]
def sameM (a b : MethP) : Bool := decide (a.cl = b.cl ∧ a.co = b.co ∧ a.sy = b.sy) && sameArgs a.args b.args
theorem sameM_iff (a b : MethP) : sameM a b = true ↔ a = b := by
 unfold sameM
 rw [Bool.and_eq_true, decide_eq_true_eq, sameArgs_iff]
 cases a; cases b
 simp only [MethP.mk.injEq]
 constructor
 ·rintro ⟨⟨h1, h2, h3⟩, h4⟩
  exact ⟨h1, h2, h3, h4⟩
 ·rintro ⟨h1, h2, h3, h4⟩
  exact ⟨⟨h1, h2, h3⟩, h4⟩
def SmallM (l : List ArgP) (w : World) (e : Ending) (w' : World) : Prop := ∃ r : Bool, e = .returned (.bool r) ∧ (r = true → l.length ≤ 8 ∧ ∀ a ∈ l, cntT a.v ≤ 400) ∧ Below w.heap.size w w'
end Go.Proofs.YtpbdnfonflmncaaGreat
