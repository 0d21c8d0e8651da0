/-
  The law's own 'does', further: Read and Safe.
  Conditions: none but sizes.
-/
import Derived.Test.YtngjmeohleoglaaDqO
namespace Go.Proofs.Ytngjmeohleoglaa
open Go.RowKit Go.Shelf
set_option linter.unusedVariables false
set_option linter.unusedSimpArgs false
set_option maxRecDepth 100000

section
variable {w0 w w' : World} {base nb qb n m : Nat} {X : Nat → Prop} {st sq : DD}
set_option maxHeartbeats 1000000 in
theorem does_read (h : Both w0 base nb qb X n m st sq w) (hm : m ≤ 1000000) (hx : ∀ k, X k → k < w.heap.size) (a : Nat) (ha : a < 256) (h7 : a % 9 = 5) (q x : List UInt8) (hq : q.length ≤ 140737488355328) (k : Int) (Ak : Option Addr) (nk ck : Nat) :
    Calls Try.prog 11 #[.pointer (some ⟨nb, 0, none⟩), .pointer (some ⟨qb, 0, none⟩), .agg #[.int .u8 a, .string (str8 q), .string (str8 x), .int .i64 k, .slice Ak nk ck]] w (DoesSaid w0 base nb qb X n m st sq st sq w) := by
  obtain ⟨W, hW⟩ : ∃ W, W = w.alloc (.cells #[.int .u8 a, .string (str8 q), .string (str8 x), .int .i64 k, .slice Ak nk ck] 30) := ⟨_, rfl⟩
  have hbW : Below w.heap.size w W := by rw [hW]; exact below_boxK _ _
  have hB : Both w0 base nb qb X n m st sq W := h.below hbW fun j hj => .inl hj
  have hFB : W.heap[w.heap.size]? = some (.cells #[.int .u8 a, .string (str8 q), .string (str8 x), .int .i64 k, .slice Ak nk ck] 30 (0, 0)) := by rw [hW]; exact heap_alloc_new w _
  have p0 : W.cell? ⟨w.heap.size, 0, none⟩ = some (.int .u8 a) := by rw [cell_of_row _ _ _ _ _ (0, 0) hFB]; rfl
  have p1 : W.cell? ⟨w.heap.size, 1, none⟩ = some (.string (str8 q)) := by rw [cell_of_row _ _ _ _ _ (0, 0) hFB]; rfl
  have hC1 := read_live hB.live q hq
  have hC2 := safe_live hB.live q hq
  have hC3 := qread_two hB hm q
  have hsame : st = sq → (readD st q).1 = (readD sq q).1 ∧ (readD st q).2.1 = (readD sq q).2.1 ∧ (readD st q).2.2 = (readD sq q).2.2 := fun e => by subst e; exact ⟨rfl, rfl, rfl⟩
  generalize (readD st q).1 = s1 at *
  generalize (readD st q).2.1 = n1 at *
  generalize (readD st q).2.2 = e1 at *
  generalize (readD sq q).1 = s2 at *
  generalize (readD sq q).2.1 = n2 at *
  generalize (readD sq q).2.2 = e2 at *
  have HC1 := Lib.hid hC1
  have HC2 := Lib.hid hC2
  have HC3 := Lib.hid hC3
  have HSM := Lib.hid hsame
  have HK := Lib.hid (fun j (hj : X j) => hbW.block j (hx j hj))
  have HW := Lib.hid hW
  have hse : ((str8 s1).toList == (str8 s2).toList) = decide (s1 = s2) := str_eq s1 s2
  have hr : ((a : Int) % 9) = 5 := by omega
  clear h hB hbW hW hx h7 hFB hC1 hC2 hC3 hsame
  go_enter Try.func11, Try.ntmps11
  go_upto_region 1 with fail
  rw [← HW.out]
  go_wp2_with fail
  refine (HC1.out).mono ?_
  rintro e w2 ⟨rfl, rfl⟩
  go_wp2_with fail
  refine (HC2.out).mono ?_
  rintro e w3 ⟨rfl, rfl⟩
  go_wp2_with fail
  refine (HC3.out).mono ?_
  rintro e w4 ⟨rfl, hB4, hk4⟩
  have HE := Lib.hid (fun (r : Bool) (hr : st = sq → r = true) => show DoesSaid w0 base nb qb X n m st sq st sq w (.returned (.bool r)) w4 from ⟨r, rfl, hr, hB4, fun j hj => (hk4 j hj).trans (HK.out j hj)⟩)
  clear hB4 hk4
  obtain ⟨b1, b2, b3, hb1, hb2, hb3, hbs⟩ : ∃ b1 b2 b3 : Bool, ((str8 s1).toList == (str8 s2).toList) = b1 ∧ ((n1 : Int) == (n2 : Int)) = b2 ∧ ((e1 : Int) == (e2 : Int)) = b3 ∧ (st = sq → b1 = true ∧ b2 = true ∧ b3 = true) := ⟨_, _, _, rfl, rfl, rfl, fun e => by
    obtain ⟨h1, h2, h3⟩ := HSM.out e
    subst h1 h2 h3
    simp⟩
  have HBS := Lib.hid hbs
  clear hbs hse
  cases b1 <;> cases b2 <;> cases b3
  all_goals
    go_wp2_with fail
    go_ret
    refine HE.out _ fun e => ?_
    first
    | rfl
    | (have := HBS.out e; simp at this; done)
    | (have := HBS.out e; simp_all; done)
end

end Go.Proofs.Ytngjmeohleoglaa
