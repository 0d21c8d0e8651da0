/-
  The document's Get of an entry while it reads: the result's box, the entry's box, the reader.
  Conditions: none.
-/
import Derived.Test.YtdklhcmoilcpgaaGreatEnIZ
import Derived.Test.YtdklhcmoilcpgaaGreatPrTZ
import Derived.Test.YtdklhcmoilcpgaaGreatRef04AZ
import Derived.Test.YtdklhcmoilcpgaaGreatEnQnZ
namespace Go.Proofs.YtdklhcmoilcpgaaGreat
open Go.RowKit
set_option linter.unusedVariables false
set_option linter.unusedSimpArgs false
structure QE (w : World) (g d b : Nat) (x : EntC) (s : St) (wx : World) : Prop where
  res : wx.heap[w.heap.size]? = some zEnt
  box : BoxE wx b x
  rd : QS wx g d s
  bel : Below w.heap.size w wx
  gw : w.heap.size < g
  dg : d ≤ g
  dw : w.heap.size < d
  gb : g < b
section
variable {w wx wy : World} {g d b : Nat} {x y : EntC} {s s' : St}
theorem QE.rlt (h : QE w g d b x s wx) : w.heap.size < wx.heap.size := (Array.getElem?_eq_some_iff.1 h.res).1
theorem QE.read (h : QE w g d b x s wx) (hq : QS wy g d s') (hg : wx.grownBy wy (some g)) : QE w g d b x s' wy := by
 have := h.gw; have := h.gb
 exact ⟨(hg.block _ h.rlt (fun e => by have := Option.some.inj e; omega)).trans h.res, (hg.block _ h.box.lt (fun e => by have := Option.some.inj e; omega)).trans h.box, hq, below_grown h.bel hg (by omega), h.gw, h.dg, h.dw, h.gb⟩
theorem QE.step (h : QE w g d b x s wx) (hb : Below wx.heap.size wx wy) : QE w g d b x s wy :=
 ⟨(hb.block _ h.rlt).trans h.res, h.box.kept hb (Nat.le_refl _), h.rd.keep hb.size (hb.block g h.rd.lt) (fun hd => hb.block d hd), h.bel.trans (hb.mono h.bel.size), h.gw, h.dg, h.dw, h.gb⟩
theorem QE.set (h : QE w g d b x s wx) (i : Nat) (u : Value) (hq : BoxE (wx.setCell ⟨b, i, none⟩ u) b y) : QE w g d b y s (wx.setCell ⟨b, i, none⟩ u) := by
 have := h.gw; have := h.gb; have := h.dg
 exact ⟨(Below.heap_setCell _ _ _ _ (by show w.heap.size ≠ b; omega)).trans h.res, hq, h.rd.keep (by simp) (Below.heap_setCell _ _ _ _ (by show g ≠ b; omega)) (fun _ => Below.heap_setCell _ _ _ _ (by show d ≠ b; omega)), below_set h.bel (by omega) u, h.gw, h.dg, h.dw, h.gb⟩
theorem QE.grow (h : QE w g d b x s wx) {r : Option Nat} (hg : wx.grownBy wy r) (hr : ∀ k, r = some k → b < k) : QE w g d b x s wy := by
 have h1 := h.gw; have h2 := h.gb; have h3 := h.dg
 have hne : ∀ k, k ≤ b → r ≠ some k := fun k hk e => by have := hr k e; omega
 exact ⟨(hg.block _ h.rlt (fun e => hne _ (by omega) e.symm)).trans h.res, (hg.block _ h.box.lt (fun e => hne _ (Nat.le_refl _) e.symm)).trans h.box, h.rd.keep hg.size (hg.block g h.rd.lt (fun e => hne _ (by omega) e.symm)) (fun hd => hg.block d hd (fun e => hne _ (by omega) e.symm)), h.bel.grown hg h.bel.size (fun k hk => by have := hr k hk; omega), h.gw, h.dg, h.dw, h.gb⟩
end
theorem qxget_got (v : Value) (d : Nat) (b : List UInt8) (w : World) (hv : Shows w d v b) (hb : b.length ≤ 140737488355328) :
  Calls Tryz.prog 40 #[v] w fun e w' => ∃ E : Int, e = .returned (.tuple #[xidV (xgot b).1.1 (xgot b).1.2.1 (xgot b).1.2.2, .int .i64 (xgot b).2, .int .i64 E]) ∧ Below w.heap.size w w' := by
 unfold xgot
 cases hg : getD b with
 | none => exact (qgetX_short v d b w hv hb (gx_short _ hg)).mono fun e w' h => ⟨4, h.1, h.2⟩
 | some x =>
  obtain ⟨f, g, h, n⟩ := x
  obtain ⟨e1, e2, e3, e4, e5⟩ := gx_some _ _ _ _ _ hg
  by_cases hm : mayX (str8 g) (str8 h)
  ·have h1 := qgetX_ok v d b _ w hv hb e4 (by rw [e2, e3]; exact hm)
   rw [e1, e2, e3, List.length_drop, show (b.length : Int) - ((b.length - n : Nat) : Int) = (n : Int) by omega] at h1
   simp only [if_pos hm]
   exact h1.mono fun e w' h => ⟨0, h.1, h.2⟩
  ·simp only [if_neg hm]
   exact (qgetX_bad v d b _ w hv hb e4 (by rw [e2, e3]; exact hm)).mono fun e w' h => ⟨40, h.1, h.2⟩
end Go.Proofs.YtdklhcmoilcpgaaGreat
