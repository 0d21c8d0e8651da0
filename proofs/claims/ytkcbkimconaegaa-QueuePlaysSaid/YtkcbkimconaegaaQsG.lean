/-
  Sorting of numbers: which one is the pivot.
  Conditions: none but sizes.
-/
import Derived.Test.YtkcbkimconaegaaQsF
namespace Go.Proofs.Ytkcbkimconaegaa
open Go.RowKit
set_option linter.unusedVariables false
set_option linter.unusedSimpArgs false
set_option maxRecDepth 100000

/-- The counter of swaps. -/
def BoxI (w : World) (sb : Nat) (v : Int) : Prop := w.heap[sb]? = some (.cells #[.int .i64 v] 3 (0, 0))
section
variable {w w' w1 : World} {blk off N cap n sb : Nat} {v : Int} {d : Array Nat}
theorem BoxI.c (h : BoxI w sb v) : w.cell? ⟨sb, 0, none⟩ = some (.int .i64 v) := by rw [cell_of_row _ _ _ _ _ (0, 0) h]; rfl
theorem BoxI.fr (h : BoxI w sb v) : w.frozen? ⟨sb, 0, none⟩ = false := frozen_of_row w sb 0 _ _ h
theorem BoxI.set (h : BoxI w sb v) (u : Int) : BoxI (w.setCell ⟨sb, 0, none⟩ (.int .i64 u)) sb u := heap_setCell_same w sb 0 _ 3 (.int .i64 u) h
theorem BoxI.ne (h : BoxI w sb v) (h2 : HoldU w blk off N d) : blk ≠ sb := by
  rintro rfl
  obtain ⟨cs, h3, _⟩ := h2
  unfold BoxI at h
  rw [h] at h3
  injection h3 with h3
  injection h3 with _ h3 _
  exact absurd h3 (by decide)
/-- A row and a counter, whatever the counter says. -/
structure RowI (w0 : World) (blk off N : Nat) (d : Array Nat) (sb : Nat) (w : World) : Prop where
  hold : HoldU w blk off N d
  box : ∃ v, BoxI w sb v
  mv : MovedQ (fun k => k = sb) w0 w
theorem RowI.trans {w0 : World} (h : RowI w0 blk off N d sb w) (h2 : RowI w blk off N d sb w') : RowI w0 blk off N d sb w' := ⟨h2.hold, h2.box, h.mv.trans h2.mv fun k hk => .inl hk⟩
set_option maxHeartbeats 2000000 in
theorem order2_any {a b : Nat} (h : HoldU w blk off N d) (hv : BoxI w sb v) (hdn : d.size = n) (ha : a < n) (hb : b < n) :
    Calls Try.prog 80 #[.slice (some ⟨blk, off, none⟩) n cap, .int .i64 a, .int .i64 b, .pointer (some ⟨sb, 0, none⟩)] w fun e w' => ∃ x y : Nat, e = .returned (.tuple #[.int .i64 x, .int .i64 y]) ∧ (x = a ∧ y = b ∨ x = b ∧ y = a) ∧ RowI w blk off N d sb w' := by
  obtain ⟨x, hx⟩ : ∃ x, x = d[a]! := ⟨_, rfl⟩
  obtain ⟨y, hy⟩ : ∃ y, y = d[b]! := ⟨_, rfl⟩
  have ca := h.cell (j := a) (by omega)
  have cb := h.cell (j := b) (by omega)
  rw [← hx] at ca
  rw [← hy] at cb
  have cv := hv.c
  have fv := hv.fr
  obtain ⟨c, hc⟩ : ∃ c, c = ltN y x := ⟨_, rfl⟩
  have HL := Lib.hid (fun w' => less_any y x w')
  rw [← hc] at HL
  have HR := Lib.hid (fun q => (show RowI w blk off N d sb (w.drewN q) from ⟨h.keep rfl, ⟨v, hv⟩, ⟨rfl, rfl, rfl, Nat.le_refl _, fun _ _ _ => rfl⟩⟩))
  have HW := Lib.hid (fun q u => (show RowI w blk off N d sb ((w.drewN q).setCell ⟨sb, 0, none⟩ (.int .i64 u)) from ⟨h.keep (Below.heap_setCell _ _ _ _ (by show blk ≠ sb; exact hv.ne h)), ⟨u, (show BoxI (w.drewN q) sb v from hv).set u⟩, MovedQ.setCell (F := fun k => k = sb) (w := w) (w1 := w.drewN q) ⟨rfl, rfl, rfl, Nat.le_refl _, fun _ _ _ => rfl⟩ (fun _ => rfl) _ _⟩))
  clear h hv hx hy hc hdn
  cases c with
  | true =>
    go_enter Try.func80, Try.ntmps80
    go_wp2_with fail
    go_quiet ((go_at_call 68; with_reducible exact Calls.quiet_of_same (HL.out _)))
    go_wp2_with fail
    go_ret2
    exact ⟨b, a, rfl, .inr ⟨rfl, rfl⟩, HW.out _ _⟩
  | false =>
    go_enter Try.func80, Try.ntmps80
    go_wp2_with fail
    go_quiet ((go_at_call 68; with_reducible exact Calls.quiet_of_same (HL.out _)))
    go_wp2_with fail
    go_ret2
    exact ⟨a, b, rfl, .inl ⟨rfl, rfl⟩, HR.out _⟩
set_option maxHeartbeats 2000000 in
theorem median_any {a b c : Nat} (h : HoldU w blk off N d) (hv : BoxI w sb v) (hdn : d.size = n) (ha : a < n) (hb : b < n) (hc : c < n) :
    Calls Try.prog 78 #[.slice (some ⟨blk, off, none⟩) n cap, .int .i64 a, .int .i64 b, .int .i64 c, .pointer (some ⟨sb, 0, none⟩)] w fun e w' => ∃ x : Nat, e = .returned (.int .i64 x) ∧ (x = a ∨ x = b ∨ x = c) ∧ RowI w blk off N d sb w' := by
  have H0 := Lib.hid (show RowI w blk off N d sb w from ⟨h, ⟨v, hv⟩, MovedQ.refl _ _⟩)
  have HO := Lib.hid (fun (a b : Nat) w1 (hw : RowI w blk off N d sb w1) (ha : a < n) (hb : b < n) => (show Calls Try.prog 80 #[.slice (some ⟨blk, off, none⟩) n cap, .int .i64 a, .int .i64 b, .pointer (some ⟨sb, 0, none⟩)] w1 (fun e w' => ∃ x y : Nat, e = .returned (.tuple #[.int .i64 x, .int .i64 y]) ∧ (x = a ∧ y = b ∨ x = b ∧ y = a) ∧ RowI w blk off N d sb w') from by
    obtain ⟨u, hu⟩ := hw.box
    exact (order2_any hw.hold hu hdn ha hb).mono fun e w' ⟨x, y, e1, e2, e3⟩ => ⟨x, y, e1, e2, hw.trans e3⟩))
  have HA := Lib.hid (And.intro ha (And.intro hb hc))
  clear h hv hdn ha hb hc
  go_enter Try.func78, Try.ntmps78
  go_wp2_with fail
  refine (HO.out a b _ H0.out HA.out.1 HA.out.2.1).mono ?_
  rintro e w1 ⟨x1, y1, rfl, e1, hr1⟩
  have hx1 : x1 < n ∧ y1 < n := by have := HA.out; omega
  have HE1 := Lib.hid e1
  have HR1 := Lib.hid hr1
  clear e1 hr1
  go_wp2_with fail
  refine (HO.out y1 c _ HR1.out hx1.2 HA.out.2.2).mono ?_
  rintro e w2 ⟨x2, y2, rfl, e2, hr2⟩
  have hx2 : x2 < n ∧ y2 < n := by have := HA.out; omega
  have HE2 := Lib.hid e2
  have HR2 := Lib.hid hr2
  clear e2 hr2
  go_wp2_with fail
  refine (HO.out x1 x2 _ HR2.out hx1.1 hx2.1).mono ?_
  rintro e w3 ⟨x3, y3, rfl, e3, hr3⟩
  have HE3 := Lib.hid e3
  have HR3 := Lib.hid hr3
  clear e3 hr3
  go_wp2_with fail
  go_ret
  exact ⟨y3, rfl, by have := HE1.out; have := HE2.out; have := HE3.out; omega, HR3.out⟩
set_option maxHeartbeats 2000000 in
theorem medadj_any {a : Nat} (h : HoldU w blk off N d) (hv : BoxI w sb v) (hdn : d.size = n) (h1 : 1 ≤ a) (ha : a + 1 < n) (hn : n ≤ 1000000) :
    Calls Try.prog 77 #[.slice (some ⟨blk, off, none⟩) n cap, .int .i64 a, .pointer (some ⟨sb, 0, none⟩)] w fun e w' => ∃ x : Nat, e = .returned (.int .i64 x) ∧ a ≤ x + 1 ∧ x ≤ a + 1 ∧ RowI w blk off N d sb w' := by
  obtain ⟨p, hp⟩ : ∃ p, a = p + 1 := ⟨a - 1, by omega⟩
  obtain ⟨q, hq⟩ : ∃ q, q = a + 1 := ⟨_, rfl⟩
  have HM := Lib.hid (median_any (cap := cap) (a := p) (b := a) (c := q) h hv hdn (by omega) (by omega) (by omega))
  have han : a < n := by omega
  obtain ⟨v1, v2⟩ := next_wraps hq (by rw [hq]; exact le3 han hn)
  obtain ⟨v3, v4⟩ := pred_wraps hp (le2 (Nat.le_of_lt han) hn)
  have HA := Lib.hid (And.intro hp hq)
  clear h hv hdn h1 ha hn hp hq han
  go_enter Try.func77, Try.ntmps77
  go_wp2_with fail
  refine HM.out.mono ?_
  rintro e w1 ⟨x1, rfl, e1, hr1⟩
  have HR := Lib.hid (And.intro e1 hr1)
  clear e1 hr1
  go_wp2_with fail
  go_ret
  clear v1 v2 v3 v4
  exact ⟨x1, rfl, by have := HA.out; have := HR.out.1; omega, by have := HA.out; have := HR.out.1; omega, HR.out.2⟩
end

end Go.Proofs.Ytkcbkimconaegaa
