/-
  How each kind is laid out (value.layoutOf).
  Conditions: none.
-/
import Derived.Test.YtnafibnhmhbfiaaV5A
import Derived.WalkKit
namespace Go.Proofs.Ytnafibnhmhbfiaa
open Go.RowKit
set_option linter.unusedVariables false
set_option linter.unusedSimpArgs false

/-- A layout. -/
structure Lay where
  num : Nat
  most : Nat
  text : Nat
  bytes : Nat
  list : Bool
  keys : Bool
def layD (k : Nat) : Lay :=
  if k = 8 then ⟨1, 1, 0, 0, false, false⟩ else if k = 2 then ⟨1, 255, 0, 0, false, false⟩ else if k = 50 ∨ k = 49 then ⟨8, 18446744073709551615, 0, 0, false, false⟩
  else if k = 149 then ⟨0, 0, 2, 4096, false, false⟩ else if k = 160 then ⟨0, 0, 4, 4096, false, false⟩ else if k = 169 then ⟨0, 0, 0, 0, true, false⟩ else if k = 168 then ⟨0, 0, 0, 0, true, true⟩ else ⟨0, 0, 0, 0, false, false⟩
def knownD (k : Nat) : Bool := decide (k = 240 ∨ k = 8 ∨ k = 2 ∨ k = 50 ∨ k = 49 ∨ k = 149 ∨ k = 160 ∨ k = 169 ∨ k = 168)
def Lay.cells (y : Lay) : Array Value := #[.int .i64 y.num, .int .u64 y.most, .int .i64 y.text, .int .i64 y.bytes, .bool y.list, .bool y.keys]

theorem results_row_tmp {P : Program} {fn : Func} {p u : Tmp} {ty : TypeId} (h : fn.results = #[.cell p ty, .tmp u]) (tmps : Array Value) (w : World) (g : Nat) (t : TypeId) (cs : Array Value) (fr : Nat × Nat) (d : TypeDesc)
    (hp : tmps.getD p undef = .pointer (some ⟨g, 0, none⟩)) (hg : w.heap[g]? = some (.cells cs t fr))
    (hu : P.underlying ty = some d) (hd : (match d with | .struct _ | .array _ _ => true | _ => false) = true) (hi : (P.info? ty).map (·.size) = some cs.size) :
    (results fn tmps).run P w = .ok (.tuple #[.agg cs, tmps.getD u undef]) w := by
  have hp' : tmps[p]?.getD undef = .pointer (some ⟨g, 0, none⟩) := by simpa using hp
  simp [results, h, hp', asAddr, run_loadVar_row w g t ty cs fr d hg hu hd hi]

set_option maxRecDepth 100000 in
set_option maxHeartbeats 1000000 in
theorem layoutOf_any (k : Nat) (w : World) : Calls Try.prog 76 #[.int .u8 k] w fun e w' => e = .returned (.tuple #[.agg (layD k).cells, .bool (knownD k)]) ∧ Below w.heap.size w w' := by
  by_cases h240 : k = 240
  · subst h240
    go_enter Try.func76, Try.ntmps76
    go_wp2_with fail
    exact bodyPost_ret (results_row_tmp rfl _ _ w.heap.size 115 _ (0, 0) _ rfl (heap_alloc_new w _) Try.underlying115 rfl (by kernel_rfl)) rfl ⟨rfl, (Below.refl _ _).alloc (Nat.le_refl _) _⟩
  by_cases h8 : k = 8
  · subst h8
    go_enter Try.func76, Try.ntmps76
    go_wp2_with fail
    exact bodyPost_ret (results_row_tmp rfl _ _ w.heap.size 115 _ (0, 0) _ rfl (heap_alloc_new w _) Try.underlying115 rfl (by kernel_rfl)) rfl ⟨rfl, (Below.refl _ _).alloc (Nat.le_refl _) _⟩
  by_cases h2 : k = 2
  · subst h2
    go_enter Try.func76, Try.ntmps76
    go_wp2_with fail
    exact bodyPost_ret (results_row_tmp rfl _ _ w.heap.size 115 _ (0, 0) _ rfl (heap_alloc_new w _) Try.underlying115 rfl (by kernel_rfl)) rfl ⟨rfl, (Below.refl _ _).alloc (Nat.le_refl _) _⟩
  by_cases h50 : k = 50
  · subst h50
    go_enter Try.func76, Try.ntmps76
    go_wp2_with fail
    exact bodyPost_ret (results_row_tmp rfl _ _ w.heap.size 115 _ (0, 0) _ rfl (heap_alloc_new w _) Try.underlying115 rfl (by kernel_rfl)) rfl ⟨rfl, (Below.refl _ _).alloc (Nat.le_refl _) _⟩
  by_cases h49 : k = 49
  · subst h49
    go_enter Try.func76, Try.ntmps76
    go_wp2_with fail
    exact bodyPost_ret (results_row_tmp rfl _ _ w.heap.size 115 _ (0, 0) _ rfl (heap_alloc_new w _) Try.underlying115 rfl (by kernel_rfl)) rfl ⟨rfl, (Below.refl _ _).alloc (Nat.le_refl _) _⟩
  by_cases h149 : k = 149
  · subst h149
    go_enter Try.func76, Try.ntmps76
    go_wp2_with fail
    exact bodyPost_ret (results_row_tmp rfl _ _ w.heap.size 115 _ (0, 0) _ rfl (heap_alloc_new w _) Try.underlying115 rfl (by kernel_rfl)) rfl ⟨rfl, (Below.refl _ _).alloc (Nat.le_refl _) _⟩
  by_cases h160 : k = 160
  · subst h160
    go_enter Try.func76, Try.ntmps76
    go_wp2_with fail
    exact bodyPost_ret (results_row_tmp rfl _ _ w.heap.size 115 _ (0, 0) _ rfl (heap_alloc_new w _) Try.underlying115 rfl (by kernel_rfl)) rfl ⟨rfl, (Below.refl _ _).alloc (Nat.le_refl _) _⟩
  by_cases h169 : k = 169
  · subst h169
    go_enter Try.func76, Try.ntmps76
    go_wp2_with fail
    exact bodyPost_ret (results_row_tmp rfl _ _ w.heap.size 115 _ (0, 0) _ rfl (heap_alloc_new w _) Try.underlying115 rfl (by kernel_rfl)) rfl ⟨rfl, (Below.refl _ _).alloc (Nat.le_refl _) _⟩
  by_cases h168 : k = 168
  · subst h168
    go_enter Try.func76, Try.ntmps76
    go_wp2_with fail
    exact bodyPost_ret (results_row_tmp rfl _ _ w.heap.size 115 _ (0, 0) _ rfl (heap_alloc_new w _) Try.underlying115 rfl (by kernel_rfl)) rfl ⟨rfl, (Below.refl _ _).alloc (Nat.le_refl _) _⟩
  have e240 : ((k : Int) == 240) = false := by simp; omega
  have e8 : ((k : Int) == 8) = false := by simp; omega
  have e2 : ((k : Int) == 2) = false := by simp; omega
  have e50 : ((k : Int) == 50) = false := by simp; omega
  have e49 : ((k : Int) == 49) = false := by simp; omega
  have e149 : ((k : Int) == 149) = false := by simp; omega
  have e160 : ((k : Int) == 160) = false := by simp; omega
  have e169 : ((k : Int) == 169) = false := by simp; omega
  have e168 : ((k : Int) == 168) = false := by simp; omega
  have hl : layD k = ⟨0, 0, 0, 0, false, false⟩ := by simp [layD, *]
  have hk : knownD k = false := by simp [knownD, *]
  rw [hl, hk]
  clear hl hk h240 h8 h2 h50 h49 h149 h160 h169 h168
  go_enter Try.func76, Try.ntmps76
  go_wp2_with fail
  exact bodyPost_ret (results_row_tmp rfl _ _ w.heap.size 115 _ (0, 0) _ rfl (heap_alloc_new w _) Try.underlying115 rfl (by kernel_rfl)) rfl ⟨rfl, (Below.refl _ _).alloc (Nat.le_refl _) _⟩

end Go.Proofs.Ytnafibnhmhbfiaa
