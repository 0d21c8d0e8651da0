/-
  Both disks as they are made.
  Conditions: none.
-/
import Derived.Test.YtngjmeohleoglaaDqS
import Derived.Test.YtngjmeohleoglaaDqT
namespace Go.Proofs.Ytngjmeohleoglaa
open Go.RowKit Go.Shelf
set_option linter.unusedVariables false
set_option linter.unusedSimpArgs false
set_option maxRecDepth 100000

/-- The world behind both calls of New. -/
def twoNew (R Q : Nat) (w : World) : World :=
  ((w.alloc (.map #[] 0)).alloc (.cells #[.int .i64 R, .int .i64 0, .map (some w.heap.size), .int .i64 0, .bool false] 50)).alloc (.cells #[.slice none 0 0, .int .i64 Q, .int .i64 0, .bool false] 53)
theorem both_new (R Q : Nat) (w : World) (hR : R ≤ 9223372036854775807) (hQ : Q ≤ 9223372036854775807) :
    Both w w.heap.size (w.heap.size + 1) (w.heap.size + 1 + 1) (fun _ => False) 0 0 ⟨R, 0, false, []⟩ ⟨Q, 0, false, []⟩ (twoNew R Q w) := by
  obtain ⟨⟨F, hd, hF⟩, hb, hfit, hwf⟩ := new_live R w hR
  unfold twoNew
  have hz : ((w.alloc (.map #[] 0)).alloc (.cells #[.int .i64 R, .int .i64 0, .map (some w.heap.size), .int .i64 0, .bool false] 50)).heap.size = w.heap.size + 1 + 1 := by simp
  generalize ((w.alloc (.map #[] 0)).alloc (.cells #[.int .i64 R, .int .i64 0, .map (some w.heap.size), .int .i64 0, .bool false] 50)) = w1 at *
  have hbA : Below w1.heap.size w1 (w1.alloc (.cells #[.slice none 0 0, .int .i64 Q, .int .i64 0, .bool false] 53)) := (Below.refl _ _).alloc (Nat.le_refl _) _
  have hzA : (w1.alloc (.cells #[.slice none 0 0, .int .i64 Q, .int .i64 0, .bool false] 53)).heap.size = w1.heap.size + 1 := by simp
  refine ⟨⟨F, fun k => k = w1.heap.size, .slice none 0 0, hd.keep (Mv.of_below (F := fun _ => False) hbA) (fun _ _ e => e), hF, ?_, fun k hk e => ?_, fun k hk => hk.elim⟩, hb.trans (hbA.mono hfit), by omega, hwf, ⟨List.Pairwise.nil, hQ, Nat.zero_le _, Nat.zero_le _, Nat.zero_le _, by simp⟩⟩
  · refine AtQ.start ⟨?_, OwnG.nil_ _ _ _ _, by omega⟩ (fun k hk => by simp [Value.ownBlock] at hk) hz.symm (fun k hk => by omega) (by omega)
    show BoxQ _ _ _ _ _ _
    unfold BoxQ
    rw [← hz]
    exact heap_alloc_new w1 _
  · have := (hd.2 k hk).2
    omega

end Go.Proofs.Ytngjmeohleoglaa
