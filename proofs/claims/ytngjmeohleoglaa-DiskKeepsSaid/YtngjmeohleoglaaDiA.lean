/-
  The contracts of disk's isMade, refusal, Down, Used, Crash, Fuse, New.
  Conditions: none but sizes.
-/
import Derived.Test.YtngjmeohleoglaaDiM
import Derived.Outline
import Derived.WalkMore
import Derived.Deep.RegionWith
import Derived.Deep.CutRange
import Derived.Deep.CutBlock
import Derived.Deep.DeepCutAuto
import Derived.BigQuiet
namespace Go.Proofs.Ytngjmeohleoglaa
open Go.RowKit
set_option linter.unusedVariables false
set_option linter.unusedSimpArgs false
set_option maxRecDepth 100000

/-- A disk that is none, or that nobody made. -/
def DeadD (w : World) (d : Value) : Prop := d = .pointer none ∨ ∃ nb, d = .pointer (some ⟨nb, 0, none⟩) ∧ w.heap[nb]? = some (.cells #[.int .i64 0, .int .i64 0, .map none, .int .i64 0, .bool false] 50 (0, 0))

section
variable {w : World} {d : Value} {nb room used mb fuse : Nat} {down : Bool}
theorem DeadD.c {k : Nat} (h : w.heap[k]? = some (.cells #[.int .i64 0, .int .i64 0, .map none, .int .i64 0, .bool false] 50 (0, 0))) : w.cell? ⟨k, 2, none⟩ = some (.map none) := by rw [cell_of_row _ _ _ _ _ (0, 0) h]; rfl

theorem equalIn_map_nil {P : Program} (w : World) (d : Nat) (t k e : TypeId) (p : Option Nat) (h : P.underlying t = some (.map k e)) : (Op.equalIn (d + 1) t (.map p) (.map none)).run P w = .ok p.isNone w := by
  cases p <;> simp [Op.equalIn, run_underlying h]
theorem neq_map_nil {P : Program} (w : World) (t k e : TypeId) (p : Option Nat) (h : P.underlying t = some (.map k e)) : (binOp .neq t (.map p) (.map none)).run P w = .ok (.bool p.isSome) w := by
  simp only [binOp]
  cases p <;> simp [show ∀ p, Op.equal t (.map p) (.map none) = Op.equalIn (9999 + 1) t (.map p) (.map none) from fun _ => rfl, equalIn_map_nil w 9999 t k e _ h]
theorem map_ne_nil (w : World) (mb : Option Nat) : (binOp BinOp.neq 48 (.map mb) (.map none)).run Try.prog w = .ok (.bool mb.isSome) w := neq_map_nil w _ _ _ mb Try.underlying48

theorem made_dead (h : DeadD w d) : Calls Try.prog 39 #[d] w fun e w' => e = .returned (.bool false) ∧ w' = w := by
  rcases h with rfl | ⟨nb, rfl, hb⟩
  · go_enter Try.func39, Try.ntmps39
    go_wp2_with fail
    go_ret
    exact ⟨rfl, rfl⟩
  · have c2 := DeadD.c hb
    have hm := map_ne_nil w none
    go_enter Try.func39, Try.ntmps39
    go_wp2_with fail
    go_ret
    exact ⟨rfl, rfl⟩
theorem made_any (h : BoxD w nb room used mb fuse down) : Calls Try.prog 39 #[.pointer (some ⟨nb, 0, none⟩)] w fun e w' => e = .returned (.bool true) ∧ w' = w := by
  have c2 := h.c2
  have hm := map_ne_nil w (some mb)
  go_enter Try.func39, Try.ntmps39
  go_wp2_with fail
  go_ret
  exact ⟨rfl, rfl⟩

theorem refusal_dead (h : DeadD w d) (r : Bool) : Calls Try.prog 45 #[d, .bool r] w fun e w' => e = .returned (.int .i64 1) ∧ w' = w := by
  have HC := Lib.hid (made_dead h)
  go_enter Try.func45, Try.ntmps45
  go_wp2_with (go_at_call 39; refine HC.out.mono ?_; rintro e w1 ⟨rfl, rfl⟩)
  all_goals
    go_ret
    exact ⟨rfl, rfl⟩
theorem refusal_any (h : BoxD w nb room used mb fuse down) (r : Bool) : Calls Try.prog 45 #[.pointer (some ⟨nb, 0, none⟩), .bool r] w fun e w' => e = .returned (.int .i64 ((if down then 100 else if r then 0 else 2 : Nat) : Nat)) ∧ w' = w := by
  have HC := Lib.hid (made_any h)
  have c4 := h.c4
  cases down <;> cases r
  all_goals
    go_enter Try.func45, Try.ntmps45
    go_wp2_with (go_at_call 39; refine HC.out.mono ?_; rintro e w1 ⟨rfl, rfl⟩)
    go_ret
    exact ⟨rfl, rfl⟩

theorem down_dead (h : DeadD w d) : Calls Try.prog 15 #[d] w fun e w' => e = .returned (.bool true) ∧ w' = w := by
  have HC := Lib.hid (made_dead h)
  go_enter Try.func15, Try.ntmps15
  go_wp2_with (go_at_call 39; refine HC.out.mono ?_; rintro e w1 ⟨rfl, rfl⟩)
  go_ret
  exact ⟨rfl, rfl⟩
theorem down_any (h : BoxD w nb room used mb fuse down) : Calls Try.prog 15 #[.pointer (some ⟨nb, 0, none⟩)] w fun e w' => e = .returned (.bool down) ∧ w' = w := by
  have HC := Lib.hid (made_any h)
  have c4 := h.c4
  go_enter Try.func15, Try.ntmps15
  go_wp2_with (go_at_call 39; refine HC.out.mono ?_; rintro e w1 ⟨rfl, rfl⟩)
  go_ret
  exact ⟨rfl, rfl⟩

theorem used_dead (h : DeadD w d) : Calls Try.prog 21 #[d] w fun e w' => e = .returned (.int .i64 0) ∧ w' = w := by
  have HC := Lib.hid (made_dead h)
  go_enter Try.func21, Try.ntmps21
  go_wp2_with (go_at_call 39; refine HC.out.mono ?_; rintro e w1 ⟨rfl, rfl⟩)
  go_ret
  exact ⟨rfl, rfl⟩
theorem used_any (h : BoxD w nb room used mb fuse down) : Calls Try.prog 21 #[.pointer (some ⟨nb, 0, none⟩)] w fun e w' => e = .returned (.int .i64 used) ∧ w' = w := by
  have HC := Lib.hid (made_any h)
  have c1 := h.c1
  go_enter Try.func21, Try.ntmps21
  go_wp2_with (go_at_call 39; refine HC.out.mono ?_; rintro e w1 ⟨rfl, rfl⟩)
  go_ret
  exact ⟨rfl, rfl⟩

theorem crash_dead (h : DeadD w d) : Calls Try.prog 14 #[d] w fun e w' => e = .returned (.tuple #[]) ∧ w' = w := by
  have HC := Lib.hid (made_dead h)
  go_enter Try.func14, Try.ntmps14
  go_wp2_with (go_at_call 39; refine HC.out.mono ?_; rintro e w1 ⟨rfl, rfl⟩)
  first | go_end0 | refine bodyPost_ret (results_none rfl _ _ _) rfl ?_
  exact ⟨rfl, rfl⟩
theorem crash_any (h : BoxD w nb room used mb fuse down) : Calls Try.prog 14 #[.pointer (some ⟨nb, 0, none⟩)] w fun e w' => e = .returned (.tuple #[]) ∧ w' = (w.setCell ⟨nb, 3, none⟩ (.int .i64 0)).setCell ⟨nb, 4, none⟩ (.bool true) := by
  have HC := Lib.hid (made_any h)
  have f3 := h.fr 3
  have f4 : (w.setCell ⟨nb, 3, none⟩ (.int .i64 0)).frozen? ⟨nb, 4, none⟩ = false := (h.set3 0).fr 4
  have c3 := h.c3
  have c4 : (w.setCell ⟨nb, 3, none⟩ (.int .i64 0)).cell? ⟨nb, 4, none⟩ = some (.bool down) := (h.set3 0).c4
  go_enter Try.func14, Try.ntmps14
  go_wp2_with (go_at_call 39; refine HC.out.mono ?_; rintro e w1 ⟨rfl, rfl⟩)
  first | go_end0 | refine bodyPost_ret (results_none rfl _ _ _) rfl ?_
  exact ⟨rfl, rfl⟩

theorem fuse_dead (h : DeadD w d) (n : Int) : Calls Try.prog 33 #[d, .int .i64 n] w fun e w' => e = .returned (.tuple #[]) ∧ w' = w := by
  have HC := Lib.hid (down_dead h)
  go_enter Try.func33, Try.ntmps33
  go_wp2_with (go_at_call 15; refine HC.out.mono ?_; rintro e w1 ⟨rfl, rfl⟩)
  first | go_end0 | refine bodyPost_ret (results_none rfl _ _ _) rfl ?_
  exact ⟨rfl, rfl⟩
theorem fuse_any (h : BoxD w nb room used mb fuse down) (n : Int) : Calls Try.prog 33 #[.pointer (some ⟨nb, 0, none⟩), .int .i64 n] w fun e w' => e = .returned (.tuple #[]) ∧ w' = if down then w else w.setCell ⟨nb, 3, none⟩ (.int .i64 n.toNat) := by
  have HC := Lib.hid (down_any h)
  have f3 := h.fr 3
  have c3 := h.c3
  obtain ⟨m, hm⟩ : ∃ m : Nat, m = n.toNat := ⟨_, rfl⟩
  rw [← hm]
  have e : max n 0 = (m : Int) := by omega
  clear hm
  cases down
  all_goals
    go_enter Try.func33, Try.ntmps33
    go_wp2_with (go_at_call 15; refine HC.out.mono ?_; rintro e w1 ⟨rfl, rfl⟩)
  all_goals
    first | go_end0 | refine bodyPost_ret (results_none rfl _ _ _) rfl ?_
    first
    | exact ⟨rfl, rfl⟩
    | exact ⟨rfl, by rw [show (m : Int) = n by omega]⟩
    | exact ⟨rfl, by rw [show (m : Int) = 0 by omega]⟩

theorem new_any (n : Int) (w : World) : Calls Try.prog 7 #[.int .i64 n] w fun e w' => e = .returned (.pointer (some ⟨w.heap.size + 1, 0, none⟩)) ∧ w' = (w.alloc (.map #[] 0)).alloc (.cells #[.int .i64 n.toNat, .int .i64 0, .map (some w.heap.size), .int .i64 0, .bool false] 50) := by
  obtain ⟨m, hm⟩ : ∃ m : Nat, m = n.toNat := ⟨_, rfl⟩
  rw [← hm]
  have e : max n 0 = (m : Int) := by omega
  clear hm
  have hmk : ∀ u : World, (Instr.makeMap 48 none).run Try.prog u = .ok (.map (some u.heap.size)) (u.alloc (.map #[] 0)) := fun u => by simp [Instr.makeMap, run_underlying Try.underlying48, Result.andThen]
  go_enter Try.func7, Try.ntmps7
  go_wp2_with fail
  all_goals
    go_ret
    first
    | exact ⟨by simp, by rw [show (m : Int) = n by omega]⟩
    | exact ⟨by simp, by rw [show (m : Int) = 0 by omega]⟩
end

end Go.Proofs.Ytngjmeohleoglaa
