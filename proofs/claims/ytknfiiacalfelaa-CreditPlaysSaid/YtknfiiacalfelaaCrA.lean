/-
  The program's isMade, find, New, and the credits' small functions.
  Conditions: none but sizes.
-/
import Derived.Test.YtknfiiacalfelaaCrM
import Derived.BigRegion
import Derived.WalkSpells
import Derived.BigQuiet
import Derived.Deep.QuietTactic
namespace Go.Proofs.Ytknfiiacalfelaa
open Go.RowKit
set_option linter.unusedVariables false
set_option linter.unusedSimpArgs false
set_option maxRecDepth 100000

theorem zeroSeat (w : World) : (zeroValue 59).run Try.prog w = .ok (.pointer none) w := by rw [Try.zeroValue59]
theorem rmap_make (u : World) : (Instr.makeMap 53 none).run Try.prog u = .ok (.map (some u.heap.size)) (u.alloc (.map #[] 0)) := by simp [Instr.makeMap, run_underlying Try.underlying53, Result.andThen]

section
variable {w w' : World} {B qb : Nat} {F : Nat → Prop} {s : CP}
theorem made_box {rb mb : Nat} (h : BoxR w qb rb mb) : Calls Try.prog 23 #[.pointer (some ⟨qb, 0, none⟩)] w fun e w' => e = .returned (.bool true) ∧ w' = w := by
  have c0 := h.c0
  unfold nodeV at c0
  clear h
  go_enter Try.func23, Try.ntmps23
  go_wp2_with fail
  go_ret
  exact ⟨rfl, rfl⟩
theorem to_any (a n : Nat) (w : World) : Calls Try.prog 29 #[.int .u32 a, .int .u32 n] w fun e w' => e = .returned (.int .u32 n) ∧ w' = w := by
  go_enter Try.func29, Try.ntmps29
  go_wp2_with fail
  go_ret
  exact ⟨rfl, rfl⟩
theorem used_any (a : Nat) (w : World) (ha : a ≤ 4294967295) (h0 : a ≠ 0) : Calls Try.prog 32 #[.int .u32 a] w fun e w' => e = .returned (.int .u32 (usedC a)) ∧ w' = w := by
  by_cases t : a = 4294967295
  · subst t
    have e : usedC 4294967295 = 4294967295 := by decide
    rw [e]
    go_enter Try.func32, Try.ntmps32
    go_wp2_with fail
    go_ret
    exact ⟨rfl, rfl⟩
  · obtain ⟨m, hm⟩ : ∃ m, m = a - 1 := ⟨_, rfl⟩
    have e : usedC a = m := by unfold usedC; rw [if_neg t, hm]
    have e2 : IntKind.u32.wrap ((a : Int) - 1) = (m : Int) := by rw [IntKind.wrap_u32]; omega
    have tI : ((a : Int) == 4294967295) = false := by rw [beq_eq_false_iff_ne]; omega
    rw [e]
    clear e t hm h0 ha
    go_enter Try.func32, Try.ntmps32
    go_wp2_with fail
    go_ret
    exact ⟨rfl, rfl⟩
theorem plus_any (a n : Nat) (w : World) (ha : a ≤ 4294967295) (hn : n ≤ 4294967295) : Calls Try.prog 34 #[.int .u32 a, .int .u32 n] w fun e w' => e = .returned (.int .u32 (min (a + n) 4294967295 : Nat)) ∧ w' = w := by
  obtain ⟨d, hd⟩ : ∃ d, d = 4294967295 - a := ⟨_, rfl⟩
  obtain ⟨r, hr⟩ : ∃ r, r = min (a + n) 4294967295 := ⟨_, rfl⟩
  have e1 : IntKind.u32.wrap (4294967295 - (a : Int)) = (d : Int) := by rw [IntKind.wrap_u32]; omega
  have HR : Hid (((d : Int) < n → ((a : Int) + d) % 4294967296 = (r : Int)) ∧ (¬ (d : Int) < n → ((a : Int) + n) % 4294967296 = (r : Int))) := Lib.hid ⟨by omega, by omega⟩
  rw [← hr]
  by_cases t : d < n
  · have e5 := HR.out.1 (by omega)
    clear hd hr ha hn HR
    go_enter Try.func34, Try.ntmps34
    go_wp2_with fail
    go_ret
    exact ⟨by first | rfl | simp_all, rfl⟩
  · have e5 := HR.out.2 (by omega)
    clear hd hr ha hn HR
    go_enter Try.func34, Try.ntmps34
    go_wp2_with fail
    go_ret
    exact ⟨by first | rfl | simp_all, rfl⟩
/-- A tag that is asked for may be too long to be any. -/
theorem find_none {rb mb sv : Nat} {X : List ST} (h : CI w B qb rb mb sv X s) (t : Tg) (ht : t.length ≤ 140737488355328) (hg : getA t s.l = none) : Calls Try.prog 26 #[.pointer (some ⟨qb, 0, none⟩), .string (str8 t)] w fun e w' => e = .returned (.tuple #[.pointer none, .int .i64 7]) ∧ w' = w := by
  have HM := Lib.hid (made_box h.box)
  have c1 := h.box.c1
  have hg2 : getA t (LofS X) = none := LofS_none (by rw [← h.row]; exact hg)
  have hlk : (Instr.lookup 53 (.map (some mb)) (.string (str8 t)) true).run Try.prog w = .ok (.tuple #[.pointer none, .bool false]) w := by
    have := h.map.look Try.underlying53 (q := t) ht (zeroSeat w)
    rw [hg2] at this
    exact this
  clear h hg hg2
  go_enter Try.func26, Try.ntmps26
  go_wp2_with (go_at_call 23; refine HM.out.mono ?_; rintro e w1 ⟨rfl, rfl⟩)
  go_ret2
  exact ⟨rfl, rfl⟩
theorem find_some {rb mb sv : Nat} {X : List ST} (h : CI w B qb rb mb sv X s) (t : Tg) (ht : t.length ≤ 140737488355328) (b : Nat) (hg2 : getA t (LofS X) = some (nodeV b)) : Calls Try.prog 26 #[.pointer (some ⟨qb, 0, none⟩), .string (str8 t)] w fun e w' => e = .returned (.tuple #[nodeV b, .int .i64 0]) ∧ w' = w := by
  have HM := Lib.hid (made_box h.box)
  have c1 := h.box.c1
  have hlk : (Instr.lookup 53 (.map (some mb)) (.string (str8 t)) true).run Try.prog w = .ok (.tuple #[nodeV b, .bool true]) w := by
    have := h.map.look Try.underlying53 (q := t) ht (zeroSeat w)
    rw [hg2] at this
    exact this
  clear h hg2
  go_enter Try.func26, Try.ntmps26
  go_wp2_with (go_at_call 23; refine HM.out.mono ?_; rintro e w1 ⟨rfl, rfl⟩)
  go_ret2
  exact ⟨rfl, rfl⟩
end
set_option maxHeartbeats 1000000 in
theorem newRing_any (w : World) : Calls Try.prog 22 #[] w fun e w' => e = .returned (nodeV w.heap.size) ∧ RingC w' w.heap.size w.heap.size ∧ lkC w' w.heap.size w.heap.size ∧ w'.heap.size = w.heap.size + 1 ∧ Below w.heap.size w w' := by
  obtain ⟨W, hW⟩ : ∃ W, W = w.alloc (.cells #[.string ⟨#[]⟩, .int .u32 0, .pointer none, .pointer none, .pointer none] 77) := ⟨_, rfl⟩
  obtain ⟨n, hn⟩ : ∃ n, n = w.heap.size := ⟨_, rfl⟩
  have hr : W.heap[n]? = some (.cells #[.string ⟨#[]⟩, .int .u32 0, .pointer none, .pointer none, .pointer none] 77 (0, 0)) := by rw [hW, hn]; exact heap_alloc_new _ _
  have c2 : W.cell? ⟨n, 2, none⟩ = some (.pointer none) := by rw [cell_of_row _ _ _ _ _ (0, 0) hr]; rfl
  have c3 : W.cell? ⟨n, 3, none⟩ = some (.pointer none) := by rw [cell_of_row _ _ _ _ _ (0, 0) hr]; rfl
  have c4 : W.cell? ⟨n, 4, none⟩ = some (.pointer none) := by rw [cell_of_row _ _ _ _ _ (0, 0) hr]; rfl
  have f2 := frozen_of_row W n 2 _ _ hr
  have f3 := frozen_of_row W n 3 _ _ hr
  have f4 := frozen_of_row W n 4 _ _ hr
  have hbel : Below w.heap.size w W := by rw [hW]; exact (Below.refl _ _).alloc (Nat.le_refl _) _
  have hsz : W.heap.size = n + 1 := by rw [hW, hn]; simp
  have HFIN : Hid (∀ W', W'.heap[n]? = some (.cells #[.string ⟨#[]⟩, .int .u32 0, nodeV n, nodeV n, nodeV n] 77 (0, 0)) → W'.heap.size = W.heap.size → Below n w W' → RingC W' n n ∧ lkC W' n n ∧ W'.heap.size = n + 1 ∧ Below n w W') := Lib.hid fun W' h1 h2 h3 => ⟨⟨_, _, h1⟩, ⟨by rw [cell_of_row _ _ _ _ _ (0, 0) h1]; rfl, by rw [cell_of_row _ _ _ _ _ (0, 0) h1]; rfl⟩, by rw [h2, hsz], h3⟩
  have HB := Lib.hid hbel
  have HR := Lib.hid hr
  have HW := Lib.hid hW
  have HN := Lib.hid hn
  clear hr hbel hsz hW
  rw [← hn]
  go_enter Try.func22, Try.ntmps22
  go_wp2_with fail
  rw [← HW.out, ← hn]
  clear hn
  go_region
  go_wp2_with fail
  go_ret
  refine ⟨rfl, HFIN.out _ ?_ ?_ ?_⟩
  · exact heap_setCell_same _ n 4 _ _ _ (heap_setCell_same _ n 3 _ _ _ (heap_setCell_same _ n 2 _ _ _ HR.out))
  · show (((W.setCell _ _).setCell _ _).setCell _ _).heap.size = _
    simp
  · exact below_drew1 (below_set (below_set (below_set (HN.out ▸ HB.out) (Nat.le_refl _) _) (Nat.le_refl _) _) (Nat.le_refl _) _)
set_option maxHeartbeats 1000000 in
theorem newC_any (w : World) : Calls Try.prog 7 #[] w fun e w' => ∃ qb F, e = .returned (.pointer (some ⟨qb, 0, none⟩)) ∧ CW w' w.heap.size qb ⟨[], []⟩ F ∧ Below w.heap.size w w' := by
  have HN := Lib.hid (fun w => newRing_any w)
  unfold nodeV at HN
  have hmk := rmap_make
  go_enter Try.func7, Try.ntmps7
  go_wp2_with (go_at_call 22; refine (HN.out _).mono ?_; rintro e w1 ⟨rfl, h1, h2, h3, h4⟩)
  have hs : w.heap.size ≤ w1.heap.size := by omega
  have hb2 : Below w.heap.size w (w1.alloc (.map #[] 0)) := h4.alloc hs _
  have hb3 : Below w.heap.size w ((w1.alloc (.map #[] 0)).alloc (.cells #[nodeV w.heap.size, .map (some w1.heap.size)] 55)) := hb2.alloc (by simp; omega) _
  have hbx := heap_alloc_new (w1.alloc (.map #[] 0)) (.cells #[nodeV w.heap.size, .map (some w1.heap.size)] 55)
  rw [World.size_alloc] at hbx
  have kp : ∀ k, k < w1.heap.size → ((w1.alloc (.map #[] 0)).alloc (.cells #[nodeV w.heap.size, .map (some w1.heap.size)] 55)).heap[k]? = w1.heap[k]? := fun k hk => (heap_alloc_old _ _ (by simp; omega)).trans (heap_alloc_old _ _ hk)
  have hlt := h1.lt
  have hm : MapS strFam ((w1.alloc (.map #[] 0)).alloc (.cells #[nodeV w.heap.size, .map (some w1.heap.size)] 55)) w1.heap.size (LofS []) := (MapS.new strFam w1).keep (heap_alloc_old _ _ (by simp))
  have HFIN := Lib.hid (show CW ((w1.alloc (.map #[] 0)).alloc (.cells #[nodeV w.heap.size, .map (some w1.heap.size)] 55)) w.heap.size (w1.heap.size + 1) ⟨[], []⟩ (FC (w1.heap.size + 1) w.heap.size w1.heap.size []) from
    ⟨CP.ok.new, w.heap.size, w1.heap.size, w.heap.size, [], ⟨hbx, h1.keep (kp _ hlt), by simp, ⟨⟨(cell_keepH (kp _ hlt)).trans h2.1, (cell_keepH (kp _ hlt)).trans h2.2⟩, trivial⟩, rfl, .inl ⟨rfl, rfl⟩, hm, List.nodup_nil, by omega, Nat.le_refl _, hs, by simp⟩, rfl⟩)
  have HB3 := Lib.hid hb3
  clear hb2 hb3 hbx kp hm h1 h2 h4
  unfold nodeV at HFIN HB3
  rw [h3] at HFIN HB3
  go_wp2_with fail
  go_ret
  exact ⟨_, _, rfl, HFIN.out, HB3.out⟩

end Go.Proofs.Ytknfiiacalfelaa
