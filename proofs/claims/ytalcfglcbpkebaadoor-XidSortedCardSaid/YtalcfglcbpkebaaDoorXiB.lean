/-
  The contract of xid's Compare.
  Conditions: none but sizes.
-/
import Derived.Test.YtalcfglcbpkebaaDoorXiA
import Derived.Lib.AppendIntMem
namespace Go.Proofs.YtalcfglcbpkebaaDoor
open Go.RowKit Go.Sort
set_option linter.unusedVariables false
set_option linter.unusedSimpArgs false

/-- What Compare of two names answers. -/
def cmpX (f1 f2 : Nat) (g1 h1 g2 h2 : ByteArray) : Int := orD (cmpN f1 f2) (Lib.compareBytes (sb g1) (sb g2)) (Lib.compareBytes (sb h1) (sb h2))

theorem grow3 (w : World) (o p q : Obj) : ((w.alloc o).alloc p).drew.alloc q = grow (w.drewN 1) #[o, p, q] := by
  rw [show ((w.alloc o).alloc p).drew.alloc q = ((w.drew.alloc o).alloc p).alloc q from rfl, alloc_eq_grow, alloc_eq_grow, alloc_eq_grow, grow_grow, grow_grow]
  rfl

set_option maxRecDepth 100000 in
theorem compare_any (f1 f2 : Nat) (g1 h1 g2 h2 : ByteArray) (w : World) :
    Calls Tryd.prog 13 #[xidV f1 g1 h1, xidV f2 g2 h2] w fun e w' => e = .returned (.int .i64 (cmpX f1 f2 g1 h1 g2 h2)) ∧ ∃ q os, w' = grow (w.drewN q) os := by
  unfold xidV cmpX
  have H1 := Lib.hid (fun w => cmpN_any f1 f2 w)
  have H2 := Lib.hid (fun w => cmpS_any g1 g2 w)
  have H3 := Lib.hid (fun w => cmpS_any h1 h2 w)
  generalize cmpN f1 f2 = x at *
  generalize Lib.compareBytes (sb g1) (sb g2) = y at *
  generalize Lib.compareBytes (sb h1) (sb h2) = z at *
  have H4 := Lib.hid (fun b w hx hy hz => or_any b 3 x y z w hx hy hz)
  generalize orD x y z = r at *
  go_enter Tryd.func13, Tryd.ntmps13
  go_wp2_with fail
  obtain ⟨W, hW⟩ : ∃ W, W = (w.alloc (Obj.cells #[.int .u32 f1, .string g1, .string h1] 24)).alloc (Obj.cells #[.int .u32 f2, .string g2, .string h2] 24) := ⟨_, rfl⟩
  have a0 : W.cell? ⟨w.heap.size, 0, none⟩ = some (.int .u32 f1) := by rw [hW]; simp
  have a1 : W.cell? ⟨w.heap.size, 1, none⟩ = some (.string g1) := by rw [hW]; simp
  have a2 : W.cell? ⟨w.heap.size, 2, none⟩ = some (.string h1) := by rw [hW]; simp
  have b0 : W.cell? ⟨w.heap.size + 1, 0, none⟩ = some (.int .u32 f2) := by rw [hW]; simp
  have b1 : W.cell? ⟨w.heap.size + 1, 1, none⟩ = some (.string g2) := by rw [hW]; simp
  have b2 : W.cell? ⟨w.heap.size + 1, 2, none⟩ = some (.string h2) := by rw [hW]; simp
  rw [← hW]
  have HW := Lib.hid hW
  clear hW
  have c0 : W.drew.cell? ⟨w.heap.size, 0, none⟩ = _ := a0
  have c1 : W.drew.cell? ⟨w.heap.size, 1, none⟩ = _ := a1
  have c2 : W.drew.cell? ⟨w.heap.size, 2, none⟩ = _ := a2
  have d0 : W.drew.cell? ⟨w.heap.size + 1, 0, none⟩ = _ := b0
  have d1 : W.drew.cell? ⟨w.heap.size + 1, 1, none⟩ = _ := b1
  have d2 : W.drew.cell? ⟨w.heap.size + 1, 2, none⟩ = _ := b2
  refine wp_region_still_tail 15 (by kernel_rfl) (by kernel_rfl) ?_
  simp only [List.take_succ_cons, List.take_zero, List.drop_succ_cons, List.drop_zero]
  repeat still_step
  still_call ((H1.out _).mono fun _ _ h => ⟨h.1, h.2.symm⟩)
  repeat still_step
  still_call ((H2.out _).mono fun _ _ h => ⟨h.1, h.2.symm⟩)
  repeat still_step
  still_call ((H3.out _).mono fun _ _ h => ⟨h.1, h.2.symm⟩)
  refine wpStill_nil ?_
  change wpList _ _ _ _ _ W.drew
  go_wp2_with fail
  refine (H4.out _ _ (by simp) (by simp) (by simp)).mono ?_
  rintro e w' ⟨rfl, rfl⟩
  go_wp2_with fail
  go_ret
  exact ⟨rfl, 1, _, by rw [HW.out]; exact grow3 _ _ _ _⟩

theorem compare_below (f1 f2 : Nat) (g1 h1 g2 h2 : ByteArray) (w : World) :
    Calls Tryd.prog 13 #[xidV f1 g1 h1, xidV f2 g2 h2] w fun e w' => e = .returned (.int .i64 (cmpX f1 f2 g1 h1 g2 h2)) ∧ Below w.heap.size w w' :=
  (compare_any f1 f2 g1 h1 g2 h2 w).mono fun e w' ⟨he, q, os, hw⟩ => ⟨he, hw ▸ Lib.below_grow _ w (Nat.le_refl _) q os⟩

/-- The two ways of saying the order of texts. -/
theorem compareBytes_eq : ∀ a b : List UInt8, Lib.compareBytes a b = if a = b then 0 else if lessD a b then -1 else 1
  | [], [] => by simp [Lib.compareBytes]
  | [], _ :: _ => by simp [Lib.compareBytes, lessD]
  | _ :: _, [] => by simp [Lib.compareBytes, lessD]
  | x :: a, y :: b => by
    rw [Lib.compareBytes, lessD, compareBytes_eq a b]
    by_cases h : x = y
    · subst h
      simp [UInt8.lt_irrefl]
    · have hne : x.toNat ≠ y.toNat := fun e => h (UInt8.toNat_inj.1 e)
      rw [if_neg (show ¬ (x :: a = y :: b) by simp [h]), if_pos h]
      by_cases h1 : x < y
      · have h2 : x.toNat < y.toNat := h1
        simp [h1, h2]
      · have h2 : y < x := by
          show y.toNat < x.toNat
          have : ¬ x.toNat < y.toNat := h1
          omega
        have h3 : ¬ x.toNat < y.toNat := h1
        simp [h1, h2, h3]

theorem sb_inj {a b : ByteArray} : sb a = sb b ↔ a = b := ⟨fun h => by rw [← str8_sb a, ← str8_sb b, h], fun h => h ▸ rfl⟩

theorem cmpX_eq (f1 f2 : Nat) (g1 h1 g2 h2 : ByteArray) : cmpX f1 f2 g1 h1 g2 h2 = compareD f1 f2 g1 h1 g2 h2 := by
  unfold cmpX compareD aheadD orD cmpN
  rw [compareBytes_eq, compareBytes_eq]
  by_cases ef : f1 = f2
  · subst ef
    by_cases eg : g1 = g2
    · subst eg
      by_cases eh : h1 = h2
      · subst eh; simp
      · have : ¬ sb h1 = sb h2 := fun e => eh (sb_inj.1 e)
        simp [eh, this]
    · have : ¬ sb g1 = sb g2 := fun e => eg (sb_inj.1 e)
      by_cases hl : lessD (sb g1) (sb g2) <;> simp [hl, eg, this]
  · by_cases h1 : f1 < f2
    · simp [h1, ef]
    · have h2 : f2 < f1 := by omega
      simp [h1, h2, ef]

end Go.Proofs.YtalcfglcbpkebaaDoor
