/-
  The law's own 'does': a call on both.
  Conditions: none but sizes.
-/
import Derived.Test.YtngjmeohleoglaaDqL
namespace Go.Proofs.Ytngjmeohleoglaa
open Go.RowKit Go.Shelf
set_option linter.unusedVariables false
set_option linter.unusedSimpArgs false
set_option maxRecDepth 100000

section
variable {w0 w w' : World} {base nb qb n m : Nat} {X : Nat → Prop} {st sq : DD}
/-- What a call on both leaves. -/
def DoesSaid (w0 : World) (base nb qb : Nat) (X : Nat → Prop) (n m : Nat) (st sq st' sq' : DD) (w : World) : Ending → World → Prop := fun e w' => ∃ r, e = .returned (.bool r) ∧ (st = sq → r = true) ∧ Both w0 base nb qb X n m st' sq' w' ∧ ∀ k, X k → w'.heap[k]? = w.heap[k]?
theorem does_crash (h : Both w0 base nb qb X n m st sq w) (hm : m ≤ 1000000) (hx : ∀ k, X k → k < w.heap.size) (a : Nat) (ha : a < 256) (h7 : a % 9 = 7) (q x : List UInt8) (k : Int) (Ak : Option Addr) (nk ck : Nat) :
    Calls Try.prog 11 #[.pointer (some ⟨nb, 0, none⟩), .pointer (some ⟨qb, 0, none⟩), .agg #[.int .u8 a, .string (str8 q), .string (str8 x), .int .i64 k, .slice Ak nk ck]] w (DoesSaid w0 base nb qb X (n + 1) (m + 1) st sq (crashD st) (crashD sq) w) := by
  obtain ⟨W, hW⟩ : ∃ W, W = w.alloc (.cells #[.int .u8 a, .string (str8 q), .string (str8 x), .int .i64 k, .slice Ak nk ck] 30) := ⟨_, rfl⟩
  have hbW : Below w.heap.size w W := by rw [hW]; exact below_boxK _ _
  have hB : Both w0 base nb qb X n m st sq W := h.below hbW fun j hj => .inl hj
  have p0 : W.cell? ⟨w.heap.size, 0, none⟩ = some (.int .u8 a) := by rw [hW, cell_of_row _ _ _ _ _ (0, 0) (heap_alloc_new w _)]; rfl
  have HC := Lib.hid (crash_two hB)
  have HK := Lib.hid (fun j (hj : X j) => hbW.block j (hx j hj))
  have HW := Lib.hid hW
  have hr : ((a : Int) % 9) = 7 := by omega
  clear h hB hbW hW hx h7
  go_enter Try.func11, Try.ntmps11
  go_upto_region 1 with fail
  rw [← HW.out]
  go_wp2_with fail
  refine (HC.out).mono ?_
  rintro e w2 ⟨rfl, hB2, hk2⟩
  have HC2 := Lib.hid (qcrash_two hB2 hm)
  have HK2 := Lib.hid hk2
  clear hB2 hk2
  go_wp2_with fail
  refine (HC2.out).mono ?_
  rintro e w3 ⟨rfl, hB3, hk3⟩
  have HE := Lib.hid (show DoesSaid w0 base nb qb X (n + 1) (m + 1) st sq (crashD st) (crashD sq) w (.returned (.bool true)) w3 from ⟨true, rfl, fun _ => rfl, hB3, fun j hj => (hk3 j hj).trans ((HK2.out j hj).trans (HK.out j hj))⟩)
  clear hB3 hk3
  go_wp2_with fail
  go_ret
  exact HE.out
end

end Go.Proofs.Ytngjmeohleoglaa
