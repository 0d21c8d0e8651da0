/-
  How a reading of a name's text lies in memory; the contracts of its halfByte, next, takeDecimal.
  Conditions: none but sizes.
-/
import Derived.Test.YtalcfglcbpkebaaDoorXiF
import Derived.Test.YtalcfglcbpkebaaDoorRef04G
import Derived.Lib.OthersKept
namespace Go.Proofs.YtalcfglcbpkebaaDoor
open Go.RowKit
set_option linter.unusedVariables false
set_option linter.unusedSimpArgs false

/-- A reading in a block of its own. -/
def Rd (w : World) (b p s f h : Nat) (gv bv : Value) : Prop := w.heap[b]? = some (.cells #[.int .i64 p, .int .i64 s, .int .u64 f, .int .u8 h, gv, bv] 93 (0, 0))
section
variable {w w' : World} {b p s f h : Nat} {gv bv : Value}
theorem Rd.lt (hb : Rd w b p s f h gv bv) : b < w.heap.size := (Array.getElem?_eq_some_iff.1 hb).1
theorem Rd.c0 (hb : Rd w b p s f h gv bv) : w.cell? ⟨b, 0, none⟩ = some (.int .i64 p) := by rw [cell_of_row w b _ _ 93 (0, 0) hb]; rfl
theorem Rd.c1 (hb : Rd w b p s f h gv bv) : w.cell? ⟨b, 1, none⟩ = some (.int .i64 s) := by rw [cell_of_row w b _ _ 93 (0, 0) hb]; rfl
theorem Rd.c2 (hb : Rd w b p s f h gv bv) : w.cell? ⟨b, 2, none⟩ = some (.int .u64 f) := by rw [cell_of_row w b _ _ 93 (0, 0) hb]; rfl
theorem Rd.c3 (hb : Rd w b p s f h gv bv) : w.cell? ⟨b, 3, none⟩ = some (.int .u8 h) := by rw [cell_of_row w b _ _ 93 (0, 0) hb]; rfl
theorem Rd.c4 (hb : Rd w b p s f h gv bv) : w.cell? ⟨b, 4, none⟩ = some gv := by rw [cell_of_row w b _ _ 93 (0, 0) hb]; rfl
theorem Rd.c5 (hb : Rd w b p s f h gv bv) : w.cell? ⟨b, 5, none⟩ = some bv := by rw [cell_of_row w b _ _ 93 (0, 0) hb]; rfl
theorem Rd.froz (hb : Rd w b p s f h gv bv) (i : Nat) : w.frozen? ⟨b, i, none⟩ = false := frozen_of_row w b i _ 93 hb
theorem Rd.keep (hb : Rd w b p s f h gv bv) (hk : w'.heap[b]? = w.heap[b]?) : Rd w' b p s f h gv bv := hk.trans hb
theorem Rd.set0 (hb : Rd w b p s f h gv bv) (x : Nat) : Rd (w.setCell ⟨b, 0, none⟩ (.int .i64 x)) b x s f h gv bv := heap_setCell_same w b 0 _ 93 _ hb
theorem Rd.set1 (hb : Rd w b p s f h gv bv) (x : Nat) : Rd (w.setCell ⟨b, 1, none⟩ (.int .i64 x)) b p x f h gv bv := heap_setCell_same w b 1 _ 93 _ hb
theorem Rd.set2 (hb : Rd w b p s f h gv bv) (x : Nat) : Rd (w.setCell ⟨b, 2, none⟩ (.int .u64 x)) b p s x h gv bv := heap_setCell_same w b 2 _ 93 _ hb
theorem Rd.set3 (hb : Rd w b p s f h gv bv) (x : Nat) : Rd (w.setCell ⟨b, 3, none⟩ (.int .u8 x)) b p s f x gv bv := heap_setCell_same w b 3 _ 93 _ hb
theorem Rd.set4 (hb : Rd w b p s f h gv bv) (x : Value) : Rd (w.setCell ⟨b, 4, none⟩ x) b p s f h x bv := heap_setCell_same w b 4 _ 93 _ hb
theorem Rd.set5 (hb : Rd w b p s f h gv bv) (x : Value) : Rd (w.setCell ⟨b, 5, none⟩ x) b p s f h gv x := heap_setCell_same w b 5 _ 93 _ hb
end

/-- All blocks below 'base' but b are as they were. -/
structure Frm (b base : Nat) (w w' : World) : Prop where
  os : w'.os = w.os
  tape : w'.tape = w.tape
  output : w'.output = w.output
  size : w.heap.size ≤ w'.heap.size
  block : ∀ k, k < base → k ≠ b → w'.heap[k]? = w.heap[k]?
section
variable {b base : Nat} {w w' a : World}
theorem Frm.refl (b base : Nat) (w : World) : Frm b base w w := ⟨rfl, rfl, rfl, Nat.le_refl _, fun _ _ _ => rfl⟩
theorem Frm.trans (h : Frm b base a w) (k : Frm b base w w') : Frm b base a w' :=
  ⟨k.os.trans h.os, k.tape.trans h.tape, k.output.trans h.output, Nat.le_trans h.size k.size, fun i hi hn => (k.block i hi hn).trans (h.block i hi hn)⟩
theorem Frm.of (h : Below base w w') : Frm b base w w' := ⟨h.os, h.tape, h.output, h.size, fun k hk _ => h.block k hk⟩
theorem Frm.set (h : Frm b base a w) (j : Nat) (v : Value) : Frm b base a (w.setCell ⟨b, j, none⟩ v) :=
  h.trans ⟨rfl, rfl, rfl, by simp, fun k _ hn => heap_setCell_other w ⟨b, j, none⟩ k v hn⟩
theorem Frm.drew (h : Frm b base a w) : Frm b base a w.drew := ⟨h.os, h.tape, h.output, h.size, h.block⟩
theorem Frm.below (h : Frm b base a w) (hb : b ≤ base) : Below b a w := ⟨h.os, h.tape, h.output, h.size, fun k hk => h.block k (by omega) (by omega)⟩
theorem own_frm {e : TypeId} {v : Value} {l : List UInt8} (h : Own e w base v l) (hk : ∀ g, base ≤ g → g < w.heap.size → w'.heap[g]? = w.heap[g]?) : Own e w' base v l :=
  h.keep fun g hg => hk g (h.block g hg).1 (h.block g hg).2
end

/-- Has a byte its first sign alone? -/
def halfB (p s : Nat) : Bool := decide (p ≠ 0 ∧ s % 2 = 1)

theorem half_any {w : World} {b p s f h : Nat} {gv bv : Value} (hb : Rd w b p s f h gv bv) (hs : s ≤ 140737488355328) :
    Calls Tryd.prog 78 #[.pointer (some ⟨b, 0, none⟩)] w fun e w' => e = .returned (.bool (halfB p s)) ∧ w = w' := by
  have k0 := hb.c0
  have k1 := hb.c1
  unfold halfB
  by_cases h0 : p = 0
  · subst h0
    go_enter Tryd.func78, Tryd.ntmps78
    go_wp2_with fail
    go_ret
    exact ⟨rfl, rfl⟩
  · have t0 : ((p : Int) != 0) = true := by simp; omega
    obtain ⟨r, hr⟩ : ∃ r, r = decide (p ≠ 0 ∧ s % 2 = 1) := ⟨_, rfl⟩
    rw [← hr]
    have t1 : ((s : Int) % 2 == 1) = r := by
      rw [hr, Bool.eq_iff_iff]; simp; omega
    clear hr
    go_enter Tryd.func78, Tryd.ntmps78
    go_wp2_with fail
    go_ret
    exact ⟨rfl, rfl⟩

theorem next_no {w : World} {b p s f h : Nat} {gv bv : Value} (hb : Rd w b p s f h gv bv) (hs : s ≤ 140737488355328) (hn : s = 0 ∨ halfB p s = true) :
    Calls Tryd.prog 75 #[.pointer (some ⟨b, 0, none⟩)] w fun e w' => e = .returned (.bool false) ∧ w = w' := by
  have k1 := hb.c1
  have hh0 := half_any hb hs
  by_cases h0 : s = 0
  · subst h0
    clear hn hh0
    go_enter Tryd.func75, Tryd.ntmps75
    go_wp2_with fail
    go_ret
    exact ⟨rfl, rfl⟩
  · have t0 : ((s : Int) == 0) = false := by simp; omega
    rw [show halfB p s = true from hn.resolve_left h0] at hh0
    have hh := Lib.hid hh0
    clear hn hh0
    go_enter Tryd.func75, Tryd.ntmps75
    go_wp2_with fail
    refine hh.out.mono ?_
    rintro e w' ⟨rfl, rfl⟩
    go_wp2_with fail
    go_ret
    exact ⟨rfl, rfl⟩

theorem next_yes {w : World} {b p s f h : Nat} {gv bv : Value} (hb : Rd w b p s f h gv bv) (hs : s ≤ 140737488355328) (hp : p ≤ 140737488355328) (h0 : s ≠ 0) (hn : halfB p s = false) :
    Calls Tryd.prog 75 #[.pointer (some ⟨b, 0, none⟩)] w fun e w' => e = .returned (.bool true) ∧ w' = (w.setCell ⟨b, 0, none⟩ (.int .i64 (p + 1 : Nat))).setCell ⟨b, 1, none⟩ (.int .i64 (0 : Nat)) := by
  have k0 := hb.c0
  have k1 := hb.c1
  have f0 := hb.froz 0
  have f1 := hb.froz 1
  have hh0 := half_any hb hs
  rw [hn] at hh0
  have hh := Lib.hid hh0
  clear hh0
  have t0 : ((s : Int) == 0) = false := by simp; omega
  clear h0 hn
  go_enter Tryd.func75, Tryd.ntmps75
  go_wp2_with fail
  refine hh.out.mono ?_
  rintro e w' ⟨rfl, rfl⟩
  go_wp2_with fail
  go_ret
  exact ⟨rfl, by simp⟩

end Go.Proofs.YtalcfglcbpkebaaDoor
