/-
  Texts, together: EnF, EnG.
  Conditions: none but sizes.
-/
import Derived.Test.YtpmafabphlejeaaGreatEnBZ
import Derived.Test.YtpmafabphlejeaaGreatPrAZ
import Derived.Test.YtpmafabphlejeaaGreatValDZ
import Derived.Test.YtpmafabphlejeaaGreatXiOZ
/-
  The contracts of entry.text, of entry.place, of what encodes a put and a name, of encodedList.
  Conditions: none but sizes.
-/
namespace Go.Proofs.YtpmafabphlejeaaGreat
open Go.RowKit
set_option linter.unusedVariables false
set_option linter.unusedSimpArgs false
set_option maxRecDepth 100000

theorem row3 (w : World) (A B D : Option Addr) (c d k q m r : Nat) (x y z : List UInt8) : ShowsG partC8 (w.alloc (Obj.cells #[.slice A x.length c, .slice B y.length k, .slice D z.length m] 133)) w.heap.size (.slice (some ⟨w.heap.size, 0, none⟩) 3 3) [(A, c, d, x), (B, k, q, y), (D, m, r, z)] :=
  ShowsG.lit (C := partC8) [(A, c, d, x), (B, k, q, y), (D, m, r, z)] (by simp [Code.all, partC8]) (by simp [maxLen])
theorem cat3 (x y z : List UInt8) (A B D : Option Addr) (c d k q m r : Nat) : cat8 [(A, c, d, x), (B, k, q, y), (D, m, r, z)] = x ++ y ++ z := by simp [cat8]
/-- The box of a put in a call that began at w. -/
structure AtT (w : World) (c : PutC) (wx : World) : Prop where
  bel : Below w.heap.size w wx
  box : BoxT wx w.heap.size c
theorem AtT.step {w wx wy : World} {c : PutC} (h : AtT w c wx) (hb : Below wx.heap.size wx wy) : AtT w c wy := ⟨h.bel.trans (hb.mono h.bel.size), h.box.kept hb (Nat.le_refl _)⟩
theorem AtT.drw {w wx : World} {c : PutC} (h : AtT w c wx) : AtT w c wx.drew := h.step (below_drew1 (Below.refl _ _))
theorem AtT.cs {w wx : World} {c : PutC} (h : AtT w c wx) : wx.cell? ⟨w.heap.size, 0, none⟩ = some (.string c.e.q) ∧ wx.cell? ⟨w.heap.size, 1, none⟩ = some (.int .u64 c.e.id) ∧ wx.cell? ⟨w.heap.size, 11, none⟩ = some (.string c.e.body) :=
  ⟨h.box.cells.1.1, h.box.cells.1.2.1, h.box.cells.2.2.2.2.2.2⟩

end Go.Proofs.YtpmafabphlejeaaGreat
/-
  The contract of entry.encoded.
  Conditions: none but sizes.
-/
namespace Go.Proofs.YtpmafabphlejeaaGreat
open Go.RowKit
set_option linter.unusedVariables false
set_option linter.unusedSimpArgs false
set_option maxRecDepth 100000

/-- encoded under way: the entry's box, what is out so far. -/
structure OutE (w : World) (x : EntC) (v : Value) (L : List UInt8) (wx : World) : Prop where
  bel : Below w.heap.size w wx
  box : BoxE wx w.heap.size x
  own : Own 5 wx (w.heap.size + 1) v L
section
variable {w wx wy : World} {x : EntC} {v v' : Value} {L m : List UInt8}
theorem OutE.lt (h : OutE w x v L wx) : w.heap.size + 1 ≤ wx.heap.size := h.box.lt
theorem OutE.step (h : OutE w x v L wx) (hb : Below wx.heap.size wx wy) : OutE w x v L wy := ⟨h.bel.trans (hb.mono h.bel.size), h.box.kept hb (Nat.le_refl _), h.own.keep fun g hg => hb.block g (h.own.block g hg).2⟩
theorem OutE.app (h : OutE w x v L wx) (ho : Own 5 wy (w.heap.size + 1) v' (L ++ m)) (hg : wx.grownBy wy v.ownBlock) : OutE w x v' (L ++ m) wy :=
  ⟨h.bel.grown hg h.bel.size (fun k hk => by have := (h.own.block k hk).1; omega), (hg.block _ h.box.lt (fun e => by have := (h.own.block _ e.symm).1; omega)).trans h.box, ho⟩
end
theorem sets_of (k : Nat) (h : kindOK k = true) : (uName k = true ∧ uNum k = true ∧ uX k = false ∧ uWork k = false) ∨ (uName k = true ∧ uNum k = false ∧ uX k = false ∧ uWork k = false) ∨ (uName k = false ∧ uNum k = false ∧ uX k = false ∧ uWork k = true) ∨ (uName k = false ∧ uNum k = false ∧ uX k = true ∧ uWork k = true) ∨
    (uName k = false ∧ uNum k = true ∧ uX k = true ∧ uWork k = false) ∨ (uName k = false ∧ uNum k = false ∧ uX k = true ∧ uWork k = false) := by
  rcases kinds_cases k with rfl | rfl | rfl | rfl | rfl | rfl | rfl | rfl | rfl | hk
  case inr.inr.inr.inr.inr.inr.inr.inr.inr =>
    unfold kindOK at h
    rw [decide_eq_true_eq] at h
    omega
  all_goals decide

end Go.Proofs.YtpmafabphlejeaaGreat
