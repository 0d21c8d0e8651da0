/-
  The law's own 'great'.
  Conditions: none but sizes.
-/
import Derived.Test.YtngjmeohleoglaaDqQ
namespace Go.Proofs.Ytngjmeohleoglaa
open Go.RowKit Go.Shelf
set_option linter.unusedVariables false
set_option linter.unusedSimpArgs false
set_option maxRecDepth 100000

section
variable {w w' : World}
/-- Is a call more than a statement plays? -/
def greatA (x : DAct) : Bool := decide (100 < x.name.length) || decide (2000 < x.to.length) || decide (100 < x.keep.length)
theorem great_any (x : DAct) (Ak : Option Addr) (ck : Nat) (w : World) :
    Calls Try.prog 9 #[.agg #[.int .u8 x.what, .string (str8 x.name), .string (str8 x.to), .int .i64 x.n, .slice Ak x.keep.length ck]] w fun e w' => e = .returned (.bool (greatA x)) ∧ Below w.heap.size w w' := by
  obtain ⟨a, q, t, k, keep⟩ := x
  obtain ⟨W, hW⟩ : ∃ W, W = w.alloc (.cells #[.int .u8 a, .string (str8 q), .string (str8 t), .int .i64 k, .slice Ak keep.length ck] 30) := ⟨_, rfl⟩
  have hbW : Below w.heap.size w W := by rw [hW]; exact below_boxK _ _
  have hFB : W.heap[w.heap.size]? = some (.cells #[.int .u8 a, .string (str8 q), .string (str8 t), .int .i64 k, .slice Ak keep.length ck] 30 (0, 0)) := by rw [hW]; exact heap_alloc_new w _
  have p1 : W.cell? ⟨w.heap.size, 1, none⟩ = some (.string (str8 q)) := by rw [cell_of_row _ _ _ _ _ (0, 0) hFB]; rfl
  have p2 : W.cell? ⟨w.heap.size, 2, none⟩ = some (.string (str8 t)) := by rw [cell_of_row _ _ _ _ _ (0, 0) hFB]; rfl
  have p4 : W.cell? ⟨w.heap.size, 4, none⟩ = some (.slice Ak keep.length ck) := by rw [cell_of_row _ _ _ _ _ (0, 0) hFB]; rfl
  have hz1 := str8_size q
  have hz2 := str8_size t
  obtain ⟨b1, b2, b3, hb1, hb2, hb3, hg⟩ : ∃ b1 b2 b3 : Bool, decide ((100 : Int) < (q.length : Int)) = b1 ∧ decide ((2000 : Int) < (t.length : Int)) = b2 ∧ decide ((100 : Int) < (keep.length : Int)) = b3 ∧ greatA ⟨a, q, t, k, keep⟩ = (b1 || b2 || b3) :=
    ⟨_, _, _, rfl, rfl, rfl, by
      have e1 : decide ((100 : Int) < (q.length : Int)) = decide (100 < q.length) := by apply decide_eq_decide.2; omega
      have e2 : decide ((2000 : Int) < (t.length : Int)) = decide (2000 < t.length) := by apply decide_eq_decide.2; omega
      have e3 : decide ((100 : Int) < (keep.length : Int)) = decide (100 < keep.length) := by apply decide_eq_decide.2; omega
      rw [e1, e2, e3]
      rfl⟩
  have HG := Lib.hid hg
  have HB := Lib.hid hbW
  have HW := Lib.hid hW
  clear hg hbW hW hFB
  go_enter Try.func9, Try.ntmps9
  go_upto_region 1 with fail
  rw [← HW.out]
  cases b1 <;> cases b2 <;> cases b3
  all_goals
    go_wp2_with fail
    go_ret
    rw [HG.out]
    exact ⟨rfl, HB.out⟩
end

end Go.Proofs.Ytngjmeohleoglaa
