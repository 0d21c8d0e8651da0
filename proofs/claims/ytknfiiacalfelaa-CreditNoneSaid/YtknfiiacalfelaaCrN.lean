/-
  A round that is none: what its calls answer.
  Conditions: none.
-/
import Derived.Test.YtknfiiacalfelaaCrM
import Derived.WalkSpells
import Derived.Shelf.Abstract
import Derived.Deep.CutRange
import Derived.Deep.CutBlock
import Derived.Deep.DeepCutAuto
namespace Go.Proofs.Ytknfiiacalfelaa
open Go.RowKit Go.Shelf
set_option linter.unusedVariables false
set_option linter.unusedSimpArgs false
set_option maxRecDepth 100000

/-- No round, or one that New didn't make. -/
def DeadC (w : World) (v : Value) : Prop := v = .pointer none ∨ ∃ qb, v = .pointer (some ⟨qb, 0, none⟩) ∧ w.heap[qb]? = some (.cells #[.pointer none, .map none] 55 (0, 0))
section
variable {w : World} {v : Value}
theorem made_dead (h : DeadC w v) : Calls Try.prog 23 #[v] w fun e w' => e = .returned (.bool false) ∧ w = w' := by
  rcases h with rfl | ⟨qb, rfl, h⟩
  · go_enter Try.func23, Try.ntmps23
    go_wp2_with fail
    go_ret
    exact ⟨rfl, rfl⟩
  · have c0 : w.cell? ⟨qb, 0, none⟩ = some (.pointer none) := by rw [cell_of_row _ _ _ _ _ (0, 0) h]; rfl
    clear h
    go_enter Try.func23, Try.ntmps23
    go_wp2_with fail
    go_ret
    exact ⟨rfl, rfl⟩
theorem find_dead (h : DeadC w v) (t : ByteArray) : Calls Try.prog 26 #[v, .string t] w fun e w' => e = .returned (.tuple #[.pointer none, .int .i64 1]) ∧ w = w' := by
  have HM := Lib.hid (made_dead h)
  clear h
  go_enter Try.func26, Try.ntmps26
  go_wp2_with (go_at_call 23; refine HM.out.mono ?_; rintro e w1 ⟨rfl, rfl⟩)
  go_ret2
  exact ⟨rfl, rfl⟩
theorem credit_dead (h : DeadC w v) (t : ByteArray) : Calls Try.prog 20 #[v, .string t] w fun e w' => e = .returned (.tuple #[.int .u32 0, .int .i64 1]) ∧ w = w' := by
  have HM := Lib.hid (find_dead h t)
  clear h
  go_enter Try.func20, Try.ntmps20
  go_wp2_with (go_at_call 26; refine HM.out.mono ?_; rintro e w1 ⟨rfl, rfl⟩)
  go_ret2
  exact ⟨rfl, rfl⟩
theorem add_dead (h : DeadC w v) (t : ByteArray) : Calls Try.prog 9 #[v, .string t] w fun e w' => e = .returned (.int .i64 1) ∧ w = w' := by
  have HM := Lib.hid (made_dead h)
  clear h
  go_enter Try.func9, Try.ntmps9
  go_wp2_with (go_at_call 23; refine HM.out.mono ?_; rintro e w1 ⟨rfl, rfl⟩)
  go_ret
  exact ⟨rfl, rfl⟩
theorem remove_dead (h : DeadC w v) (t : ByteArray) : Calls Try.prog 11 #[v, .string t] w fun e w' => e = .returned (.int .i64 1) ∧ w = w' := by
  have HM := Lib.hid (find_dead h t)
  clear h
  go_enter Try.func11, Try.ntmps11
  go_wp2_with (go_at_call 26; refine HM.out.mono ?_; rintro e w1 ⟨rfl, rfl⟩)
  go_ret
  exact ⟨rfl, rfl⟩
theorem change_dead (h : DeadC w v) (t : ByteArray) (f : Value) (n : Nat) : Calls Try.prog 28 #[v, .string t, f, .int .u32 n] w fun e w' => e = .returned (.int .i64 1) ∧ w = w' := by
  have HM := Lib.hid (find_dead h t)
  clear h
  go_enter Try.func28, Try.ntmps28
  go_wp2_with (go_at_call 26; refine HM.out.mono ?_; rintro e w1 ⟨rfl, rfl⟩)
  go_ret
  exact ⟨rfl, rfl⟩
theorem give_dead (h : DeadC w v) (t : ByteArray) (n : Nat) : Calls Try.prog 17 #[v, .string t, .int .u32 n] w fun e w' => e = .returned (.int .i64 1) ∧ w = w' := by
  have HM := Lib.hid (fun f => change_dead h t f n)
  clear h
  go_enter Try.func17, Try.ntmps17
  go_wp2_with (go_at_call 28; refine (HM.out _).mono ?_; rintro e w1 ⟨rfl, rfl⟩)
  go_ret
  exact ⟨rfl, rfl⟩
theorem stop_dead (h : DeadC w v) (t : ByteArray) : Calls Try.prog 13 #[v, .string t] w fun e w' => e = .returned (.int .i64 1) ∧ w = w' := by
  have HM := Lib.hid (fun f => change_dead h t f 0)
  clear h
  go_enter Try.func13, Try.ntmps13
  go_wp2_with (go_at_call 28; refine (HM.out _).mono ?_; rintro e w1 ⟨rfl, rfl⟩)
  go_ret
  exact ⟨rfl, rfl⟩
theorem tags_dead (h : DeadC w v) : Calls Try.prog 19 #[v] w fun e w' => e = .returned (.slice none 0 0) ∧ w = w' := by
  have HM := Lib.hid (made_dead h)
  clear h
  go_enter Try.func19, Try.ntmps19
  go_wp2_with (go_at_call 23; refine HM.out.mono ?_; rintro e w1 ⟨rfl, rfl⟩)
  go_ret
  exact ⟨rfl, rfl⟩
end
theorem DeadC.below {w w' : World} {v : Value} (h : DeadC w v) (hb : Below w.heap.size w w') : DeadC w' v := by
  rcases h with rfl | ⟨qb, rfl, h⟩
  · exact .inl rfl
  · exact .inr ⟨qb, rfl, (hb.block qb (Array.getElem?_eq_some_iff.1 h).1).trans h⟩
theorem turn_dead {w : World} {v : Value} (h : DeadC w v) (l : Value) : Calls Try.prog 15 #[v, l] w fun e w' => e = .returned (.tuple #[.string ⟨#[]⟩, .bool false]) ∧ Below w.heap.size w w' := by
  obtain ⟨p, rfl⟩ : ∃ p, v = .pointer p := by rcases h with rfl | ⟨qb, rfl, _⟩ <;> exact ⟨_, rfl⟩
  obtain ⟨w1, hw1⟩ : ∃ w1, w1 = ((w.alloc (.cells #[.pointer p] 23)).alloc (.cells #[.string ⟨#[]⟩] 9)).alloc (.cells #[.bool false] 4) := ⟨_, rfl⟩
  obtain ⟨n, hn0⟩ : ∃ n, n = w.heap.size := ⟨_, rfl⟩
  have hb1 : Below w.heap.size w w1 := by rw [hw1]; exact (((Below.refl _ _).alloc (Nat.le_refl _) _).alloc (by simp) _).alloc (by simp; omega) _
  have x0 : w1.heap[n]? = some (.cells #[.pointer p] 23 (0, 0)) := by
    rw [hw1, hn0]; exact (heap_alloc_old _ _ (by simp; omega)).trans ((heap_alloc_old _ _ (by simp)).trans (heap_alloc_new w _))
  have x1 : w1.heap[n + 1]? = some (.cells #[.string ⟨#[]⟩] 9 (0, 0)) := by
    rw [hw1, hn0, ← World.size_alloc w (Obj.cells #[.pointer p] 23)]
    exact (heap_alloc_old _ _ (by simp)).trans (heap_alloc_new _ _)
  have x2 : w1.heap[n + 1 + 1]? = some (.cells #[.bool false] 4 (0, 0)) := by
    rw [hw1, hn0, ← World.size_alloc w (Obj.cells #[.pointer p] 23), ← World.size_alloc _ (Obj.cells #[.string ⟨#[]⟩] 9)]
    exact heap_alloc_new _ _
  have c0 : w1.cell? ⟨n, 0, none⟩ = some (.pointer p) := by rw [cell_of_row _ _ _ _ _ (0, 0) x0]; rfl
  have c1 : w1.cell? ⟨n + 1, 0, none⟩ = some (.string ⟨#[]⟩) := by rw [cell_of_row _ _ _ _ _ (0, 0) x1]; rfl
  have c2 : w1.cell? ⟨n + 1 + 1, 0, none⟩ = some (.bool false) := by rw [cell_of_row _ _ _ _ _ (0, 0) x2]; rfl
  have C1 := Lib.hid c1
  have C2 := Lib.hid c2
  have f1 := frozen_of_row _ _ 0 _ _ x1
  have f2 := frozen_of_row _ _ 0 _ _ x2
  have hs1 : w1.heap.size = n + 1 + 1 + 1 := by rw [hw1, hn0]; simp
  have HM := Lib.hid (made_dead (h.below hb1))
  have HW1 := Lib.hid hw1
  have HN := Lib.hid hn0
  have HFIN : Hid (Below n w ((w1.setCell ⟨n + 1, 0, none⟩ (.string ⟨#[]⟩)).setCell ⟨n + 1 + 1, 0, none⟩ (.bool false))) := Lib.hid (below_set (below_set (by rw [hn0]; exact hb1) (by omega) _) (by omega) _)
  have k1 : ((w1.setCell ⟨n + 1, 0, none⟩ (.string ⟨#[]⟩)).setCell ⟨n + 1 + 1, 0, none⟩ (.bool false)).cell? ⟨n + 1, 0, none⟩ = some (.string ⟨#[]⟩) := by
    rw [World.cell?_setCell_other _ _ _ _ (by intro e; injection e with e _ _; omega)]
    exact World.cell?_setCell_same' _ _ _ (by rw [c1]; rfl)
  have k2 : ((w1.setCell ⟨n + 1, 0, none⟩ (.string ⟨#[]⟩)).setCell ⟨n + 1 + 1, 0, none⟩ (.bool false)).cell? ⟨n + 1 + 1, 0, none⟩ = some (.bool false) :=
    World.cell?_setCell_same' _ _ _ (by rw [World.cell?_setCell_other _ _ _ _ (by intro e; injection e with e _ _; omega), c2]; rfl)
  have f2' : (w1.setCell ⟨n + 1, 0, none⟩ (.string ⟨#[]⟩)).frozen? ⟨n + 1 + 1, 0, none⟩ = false := by rw [World.frozen?_setCell]; exact f2
  clear hw1 hb1 x0 x1 x2 h hs1 c1 c2
  have c1 : w1.cell? ⟨n + 1, 0, none⟩ = some (.string ⟨#[]⟩) := C1.out
  have c2 : w1.cell? ⟨n + 1 + 1, 0, none⟩ = some (.bool false) := C2.out
  have K1 := Lib.hid k1
  have K2 := Lib.hid k2
  clear k1 k2 f2' hn0
  go_enter Try.func15, Try.ntmps15
  go_upto_region 1 with fail
  rw [← HW1.out, ← HN.out]
  go_wp2_with (go_at_call 23; refine HM.out.mono ?_; rintro e w5 ⟨rfl, rfl⟩)
  refine bodyPost_ret (v := .tuple #[.string ⟨#[]⟩, .bool false]) (by simp [results, Try.f15, go_sem, K1.out, K2.out]) rfl ?_
  exact ⟨rfl, HN.out ▸ HFIN.out⟩

end Go.Proofs.Ytknfiiacalfelaa
