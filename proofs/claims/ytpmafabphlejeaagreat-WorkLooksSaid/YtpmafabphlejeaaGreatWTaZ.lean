/-
  What the laws of works have at hand.
  Conditions: none.
-/
import Derived.Test.YtpmafabphlejeaaGreatWqEZ
import Derived.Test.YtpmafabphlejeaaGreatWkLZ
import Derived.Test.YtpmafabphlejeaaGreatWOpZ
namespace Go.Proofs.YtpmafabphlejeaaGreat
open Go.ChangeShapes Go.WideShapes Go.ChangeAt Go.RowKit
set_option linter.unusedVariables false
set_option linter.unusedSimpArgs false
set_option maxRecDepth 100000

structure AtW (w0 : World) (v1 v2 : Value) (f : Nat) (g h : ByteArray) (w : World) : Prop where
  a : BoxK w w0.heap.size v1 v2
  x : BoxX w (w0.heap.size + 1) f g h
  bel : Below w0.heap.size w0 w
section
variable {w0 w w' : World} {v1 v2 : Value} {f : Nat} {g h : ByteArray}
theorem AtW.step (hh : AtW w0 v1 v2 f g h w) (hb : Below w.heap.size w w') : AtW w0 v1 v2 f g h w' := ⟨hh.a.kept hb (Nat.le_refl _), hh.x.kept hb (Nat.le_refl _), hh.bel.trans (hb.mono hh.bel.size)⟩
theorem AtW.cs (hh : AtW w0 v1 v2 f g h w) : (w.cell? ⟨w0.heap.size, 0, none⟩ = some v1 ∧ w.cell? ⟨w0.heap.size, 1, none⟩ = some v2) ∧ w.cell? ⟨w0.heap.size + 1, 0, none⟩ = some (.int .u32 f) ∧ w.cell? ⟨w0.heap.size + 1, 1, none⟩ = some (.string g) ∧ w.cell? ⟨w0.heap.size + 1, 2, none⟩ = some (.string h) := ⟨⟨hh.a.c0, hh.a.c1⟩, hh.x.cs⟩
theorem AtW.new (w : World) (v1 v2 : Value) (f : Nat) (g h : ByteArray) : AtW w v1 v2 f g h ((w.alloc (Obj.cells #[v1, v2] 25)).alloc (Obj.cells #[.int .u32 f, .string g, .string h] 55)) := by
  refine ⟨(BoxK.new w v1 v2).kept ((Below.refl _ _).alloc (Nat.le_refl _) _) (Nat.le_refl _), ?_, (below_boxV _ _).alloc (by simp) _⟩
  have : BoxX ((w.alloc (Obj.cells #[v1, v2] 25)).alloc (Obj.cells #[.int .u32 f, .string g, .string h] 55)) (w.alloc (Obj.cells #[v1, v2] 25)).heap.size f g h := heap_alloc_new _ _
  rw [World.size_alloc] at this
  exact this
end
/-- An entry in a box of the call's own, with all that it shows. -/
def EntAt (w : World) (b : Nat) (z : EntC) : Prop := BoxE w b z ∧ ShowsE w z ∧ FewS z.cs
theorem EntAt.kept {w w' : World} {b : Nat} {z : EntC} (h : EntAt w b z) (hb : Below w.heap.size w w') : EntAt w' b z := ⟨h.1.kept hb (Nat.le_refl _), h.2.1.kept hb (Nat.le_refl _), h.2.2⟩
theorem EntAt.new {w : World} {z : EntC} (hs : ShowsE w z) (hf : FewS z.cs) : EntAt (w.alloc (Obj.cells #[.int .u8 z.k, .string z.name, .int .u64 z.n, .int .u32 z.xf, .string z.xg, .string z.xh, .slice z.A1 z.cs.length z.c1, .slice z.A2 z.rs.length z.c2] 57)) w.heap.size z := ⟨BoxE.new w, hs.kept ((Below.refl _ _).alloc (Nat.le_refl _) _) (Nat.le_refl _), hf⟩

end Go.Proofs.YtpmafabphlejeaaGreat
