/-
  The contracts of value.Get's deferred closure and of value.Get.
  Conditions: at most 2^47 bytes.
-/
import Derived.Test.YtnafibnhmhbfiaaValI
import Derived.Defers
import Derived.Recover
namespace Go.Proofs.Ytnafibnhmhbfiaa
open Go.RowKit
set_option linter.unusedVariables false
set_option linter.unusedSimpArgs false

/-- Three results in their cells. -/
structure Res3 (w : World) (r n er : Nat) (v0 v1 v2 v3 v4 x y : Value) : Prop where
  r : BoxV w r v0 v1 v2 v3 v4
  n : w.heap[n]? = some (.cells #[x] 3 (0, 0))
  e : w.heap[er]? = some (.cells #[y] 33 (0, 0))

theorem run_assert (w : World) : (Instr.typeAssert (.iface 79 (.agg #[])) 20 79 true).run Try.prog w = .ok (.tuple #[.agg #[], .bool true]) w := by kernel_rfl

set_option maxRecDepth 100000 in
theorem catch_panicking (r n er : Nat) (v0 v1 v2 v3 v4 x y : Value) (w : World) (hv : v3 = .slice none 0 0 ∨ True) (h : Res3 w r n er v0 v1 v2 v3 v4 x y) (h1 : r ≠ n) (h2 : r ≠ er) (h3 : n ≠ er) :
    CallsD Try.prog 47 #[.pointer (some ⟨r, 0, none⟩), .pointer (some ⟨n, 0, none⟩), .pointer (some ⟨er, 0, none⟩)] (.panicking refu) w fun e u' w' =>
      e = .returned (.tuple #[]) ∧ u' = .panicking [{ v := .iface 79 (.agg #[]), recovered := true }] ∧ Res3 w' r n er (.int .u8 0) (.int .u64 0) (.string ⟨#[]⟩) (.slice none 0 0) (.slice none 0 0) (.int .i64 0) (.int .i64 5) ∧ ∀ B, B ≤ r → B ≤ n → B ≤ er → Below B w w' := by
  refine callsD_of_wpS Try.func47 rfl fun c₀ cs hu => ?_
  apply wpS_seq
  apply wpS_region
  simp [wpOpsS, go_sem, recoverD, hu, Try.ntmps47, Exit.thenS, refu]
  refine wpS_of_wp ?_
  change Code.wp _ _ _ { tmps := #[.pointer (some ⟨r, 0, none⟩), .pointer (some ⟨n, 0, none⟩), .pointer (some ⟨er, 0, none⟩), .iface 79 (.agg #[]), undef, undef, .iface 79 (.agg #[]), undef, undef, undef, undef, undef, undef, undef, undef, undef, undef, undef], defers := [] } w
  obtain ⟨Q, hQ⟩ : ∃ Q : Exit → Act → World → Prop, Q = (fun e a' w' => bodyPostS Try.prog Try.f47 c₀ cs (fun e u' w' => e = Ending.returned (Value.tuple #[]) ∧ u' = FrameMode.panicking [{ v := Value.iface 79 (Value.agg #[]), recovered := true }] ∧ Res3 w' r n er (.int .u8 0) (.int .u64 0) (.string ⟨#[]⟩) (.slice none 0 0) (.slice none 0 0) (.int .i64 0) (.int .i64 5) ∧ ∀ B, B ≤ r → B ≤ n → B ≤ er → Below B w w') e a' ({ fn := c₀.fn, tmps := c₀.tmps, todo := c₀.todo, defers := c₀.defers, mode := FrameMode.panicking [{ v := Value.iface 79 (Value.agg #[]), recovered := true }], kind := c₀.kind, roundOf := c₀.roundOf } :: cs) w') := ⟨_, rfl⟩
  rw [← hQ]
  have HQ := Lib.hid hQ
  have hta := run_assert
  obtain ⟨W, hW⟩ : ∃ W, W = w.alloc (Obj.cells #[] 79) := ⟨_, rfl⟩
  have hbW : Below w.heap.size w W := by rw [hW]; exact (Below.refl _ _).alloc (Nat.le_refl _) _
  have hR : BoxV W r v0 v1 v2 v3 v4 := h.r.kept hbW (Nat.le_refl _)
  have hN : W.heap[n]? = some (.cells #[x] 3 (0, 0)) := (hbW.block n (Array.getElem?_eq_some_iff.1 h.n).1).trans h.n
  have hE : W.heap[er]? = some (.cells #[y] 33 (0, 0)) := (hbW.block er (Array.getElem?_eq_some_iff.1 h.e).1).trans h.e
  have hbB : ∀ B, B ≤ r → Below B w W := fun B hB => hbW.mono (by have := h.r.lt; omega)
  have c0 := hR.c0
  have c1 := hR.c1
  have c2 := hR.c2
  have c3 := hR.c3
  have c4 := hR.c4
  have cn : W.cell? ⟨n, 0, none⟩ = some x := by rw [cell_of_row W n 0 _ 3 (0, 0) hN]; rfl
  have ce : W.cell? ⟨er, 0, none⟩ = some y := by rw [cell_of_row W er 0 _ 33 (0, 0) hE]; rfl
  have fr : ∀ i, W.frozen? ⟨r, i, none⟩ = false := fun i => frozen_of_row W r i _ 27 hR
  have fn : ∀ i, W.frozen? ⟨n, i, none⟩ = false := fun i => frozen_of_row W n i _ 3 hN
  have fe : ∀ i, W.frozen? ⟨er, i, none⟩ = false := fun i => frozen_of_row W er i _ 33 hE
  have r1 := heap_setCell_same _ r 0 _ 27 (.int .u8 0) hR
  have r2 := heap_setCell_same _ r 1 _ 27 (.int .u64 0) r1
  have r3 := heap_setCell_same _ r 2 _ 27 (.string ⟨#[]⟩) r2
  have r4 := heap_setCell_same _ r 3 _ 27 (.slice none 0 0) r3
  have r5 := heap_setCell_same _ r 4 _ 27 (.slice none 0 0) r4
  have HALL := Lib.hid (And.intro r5 (And.intro hN (And.intro hE hbB)))
  clear hQ h r1 r2 r3 r4 r5 hR hN hE hbW hbB hv
  subst hW
  go_wp2_with fail
  rw [HQ.out]
  obtain ⟨g1, g2, g3, g4⟩ := HALL.out
  refine ⟨rfl, _, rfl, .tuple #[], results_none rfl _ _ _, rfl, rfl, ⟨?_, ?_, ?_⟩, fun B h1' h2' h3' => ?_⟩
  · exact (Below.heap_setCell _ _ _ _ h2).trans ((Below.heap_setCell _ _ _ _ h1).trans g1)
  · refine (Below.heap_setCell _ _ _ _ h3).trans ?_
    refine heap_setCell_same _ n 0 #[x] 3 (.int .i64 0) ?_
    exact (Below.heap_setCell _ _ _ _ (Ne.symm h1)).trans ((Below.heap_setCell _ _ _ _ (Ne.symm h1)).trans ((Below.heap_setCell _ _ _ _ (Ne.symm h1)).trans ((Below.heap_setCell _ _ _ _ (Ne.symm h1)).trans ((Below.heap_setCell _ _ _ _ (Ne.symm h1)).trans g2))))
  · refine heap_setCell_same _ er 0 #[y] 33 (.int .i64 5) ?_
    exact (Below.heap_setCell _ _ _ _ (Ne.symm h3)).trans ((Below.heap_setCell _ _ _ _ (Ne.symm h2)).trans ((Below.heap_setCell _ _ _ _ (Ne.symm h2)).trans ((Below.heap_setCell _ _ _ _ (Ne.symm h2)).trans ((Below.heap_setCell _ _ _ _ (Ne.symm h2)).trans ((Below.heap_setCell _ _ _ _ (Ne.symm h2)).trans g3)))))
  · exact below_set (below_set (below_set (below_set (below_set (below_set (below_set (g4 B h1') h1' _) h1' _) h1' _) h1' _) h1' _) h2' _) h3' _

theorem catch_idle (r n er : Nat) (w : World) :
    CallsD Try.prog 47 #[.pointer (some ⟨r, 0, none⟩), .pointer (some ⟨n, 0, none⟩), .pointer (some ⟨er, 0, none⟩)] .returning w fun e u' w' =>
      e = .returned (.tuple #[]) ∧ u' = .returning ∧ w' = w := by
  refine callsD_of_wpS Try.func47 rfl fun c₀ cs hu => ?_
  apply wpS_seq
  apply wpS_region
  simp [wpOpsS, go_sem, recoverD, hu, Try.ntmps47, Exit.thenS]
  refine wpS_of_wp ?_
  change Code.wp _ _ _ { tmps := #[.pointer (some ⟨r, 0, none⟩), .pointer (some ⟨n, 0, none⟩), .pointer (some ⟨er, 0, none⟩), .nilIface, undef, undef, .nilIface, undef, undef, undef, undef, undef, undef, undef, undef, undef, undef, undef], defers := [] } w
  obtain ⟨Q, hQ⟩ : ∃ Q : Exit → Act → World → Prop, Q = (fun e a' w' => bodyPostS Try.prog Try.f47 c₀ cs (fun e u' w' => e = Ending.returned (Value.tuple #[]) ∧ u' = FrameMode.returning ∧ w' = w) e a' (c₀ :: cs) w') := ⟨_, rfl⟩
  rw [← hQ]
  have HQ := Lib.hid hQ
  clear hQ
  go_wp2_with fail
  rw [HQ.out]
  refine ⟨rfl, _, ?_, .tuple #[], results_none rfl _ _ _, rfl, rfl, rfl⟩
  cases c₀
  simp_all

end Go.Proofs.Ytnafibnhmhbfiaa
