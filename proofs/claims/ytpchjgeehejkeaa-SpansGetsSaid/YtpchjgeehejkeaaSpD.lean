/-
  The contracts of the program's met, of slices.Grow at the nil slice, of slices.Concat, of checked, Both and Either.
  Conditions: the numbers are of 32 bits; at most 2^36 spans.
-/
import Derived.Test.YtpchjgeehejkeaaSpC
import Derived.Lib.AppendZeros
import Derived.Laws.BitsAllLaws
namespace Go.Proofs.Ytpchjgeehejkeaa
open Go.RowKit
set_option linter.unusedVariables false
set_option linter.unusedSimpArgs false

set_option maxHeartbeats 800000 in
theorem grow_nil (m : Nat) (w : World) (hm : m * 8 ≤ 140737488355328) :
    Calls Try.prog 59 #[.slice none 0 0, .int .i64 m] w fun e w' => ∃ v, e = .returned v ∧ OwnG spanC 37 w' w.heap.size v [] ∧ Below w.heap.size w w' := by
  have h1 : ¬ ((m : Int) < 0) := by omega
  by_cases h0 : m = 0
  · subst h0
    go_enter Try.func59, Try.ntmps59
    go_wp2_with fail
    go_ret
    exact ⟨_, rfl, OwnG.nil_ _ _ _ _, Below.refl _ _⟩
  · obtain ⟨i, hi0, hz, hs1, hb1⟩ := info_parts infoSpan
    have hrz : ∀ ty, (Builtin.append_ #[22, 3] ty #[.slice none 0 0, .int .i64 (m : Int)]).run Try.prog w = .ok (.slice (some ⟨w.heap.size, 0, none⟩) m (grownCap w m 0 37)) (w.drew.alloc (.cells (Builtin.zeroCells (Value.agg #[.int .u32 0, .int .u32 0]).cells m ++ Builtin.zeroCells (Value.agg #[.int .u32 0, .int .u32 0]).cells (grownCap w m 0 37 - m)) 37)) := fun ty =>
      Lib.run_append_nil_zeros w 22 3 ty 37 i _ .i64 .i64 Try.underlying22 Try.underlying3 hi0 hz m (by omega) (by rw [hs1]; decide) (by omega) (by rw [hb1]; omega)
    have hG1 : m ≤ grownCap w m 0 37 := grownCap_ge w _ _ _
    have hG2 := grownCap_le_maxLen w m 0 37 (by unfold maxLen; omega)
    generalize grownCap w m 0 37 = G at *
    have hp : (0 : Int) < (m : Int) := by omega
    have HM := Lib.hid hG2
    clear hG2
    go_enter Try.func59, Try.ntmps59
    go_wp2_with (at_builtin; refine Lib.wpList_append_run _ rfl _ _ _ _ rfl _ _ rfl rfl _ _ (hrz _) ?_)
    all_goals
      go_ret
      exact ⟨_, rfl, World.ownsRow_made _ _ G (Nat.le_refl _) HM.out (by rw [Array.size_append, size_zeroCells, size_zeroCells, ← Nat.add_mul, show m + (G - m) = G by omega]; rfl), ((Below.refl _ _).drew).alloc (Nat.le_refl _) _⟩

theorem not_u32 (t : Nat) (ht : t < 4294967296) : bits BinOp.xor IntKind.u32 IntKind.u32.max (t : Int) = ((4294967295 - t : Nat) : Int) := by
  rw [show IntKind.u32.max = (4294967295 : Int) from rfl, show (4294967295 : Int) = ((4294967295 : Nat) : Int) from rfl, u32_xor_nat _ _ (by omega) ht]
  congr 1
  have h : (BitVec.allOnes 32 ^^^ BitVec.ofNat 32 t) = ~~~ BitVec.ofNat 32 t := BitVec.allOnes_xor
  have h2 := congrArg BitVec.toNat h
  rw [BitVec.toNat_xor, BitVec.toNat_not, BitVec.toNat_allOnes, BitVec.toNat_ofNat, Nat.mod_eq_of_lt (by omega)] at h2
  simpa using h2

set_option maxHeartbeats 1600000 in
theorem met_any (A : Option Addr) (c n d f t : Nat) (l : List Sp) (w : World) (hn : l.length = n) (hl : ShowsG spanC w d (.slice A n c) l) (hu : u32s l) (hb : n ≤ 68719476736) (hc : canon l) (hft : f ≤ t) (ht : t < 4294967296) :
    Calls Try.prog 46 #[.slice A n c, .agg #[.int .u32 f, .int .u32 t]] w fun e w' => ∃ st en : Nat, e = .returned (.tuple #[.int .i64 st, .int .i64 en]) ∧ Below w.heap.size w w' ∧
      st ≤ en ∧ en ≤ n ∧ (∀ j (h : j < l.length), j < st → l[j].2 + 2 ≤ f) ∧ (∀ j (h : j < l.length), en ≤ j → t + 2 ≤ l[j].1) := by
  subst hn
  obtain ⟨y, hy⟩ : ∃ y, y = 4294967295 - t := ⟨_, rfl⟩
  have X := not_u32 t ht
  rw [← hy] at X
  have hF := Lib.hid (fun x w' (hx : x < 4294967296) (hb' : Below w.heap.size w w') => find_any A c l.length d x l w' rfl (hl.below' hb' (Nat.le_refl _)) hu (by omega) hc hx)
  have hM := Lib.hid (fun st e0 en h1 h2 h3 => met_facts hc hu hft ht (st := st) (e0 := e0) (en := en) h1 h2 h3)
  have HY := Lib.hid hy
  have hyt : t + y < 4294967296 := by omega
  have hsg : ¬ (IntKind.u32.signed = true) := by decide
  clear hl hc hu hy
  go_enter Try.func46, Try.ntmps46
  by_cases hf1 : 1 < (f : Int)
  case' pos =>
    go_wp2_with fail
    rw [show ((f : Int) - 1) = ((f - min f 1 : Nat) : Int) by omega]
    refine (hF.out (f - min f 1) _ (by omega) ((Below.refl _ _).alloc (Nat.le_refl _) _)).mono ?_
    rintro e w1 ⟨st, rfl, hst, hb1⟩
    have HST := Lib.hid hst
  case' neg =>
    have hf2 : (f : Int) ≤ 1 := by omega
    have hf3 := Lib.hid (show f - min f 1 = 0 by omega)
    go_wp2_with fail
    refine (hF.out 0 _ (by omega) ((Below.refl _ _).alloc (Nat.le_refl _) _)).mono ?_
    rintro e w1 ⟨st, rfl, hst, hb1⟩
    have HST : Hid (isAt l (f - min f 1) st) := Lib.hid (by rw [hf3.out]; exact hst)
  all_goals
    have k1 : w1.cell? ⟨w.heap.size, 1, none⟩ = some (.int .u32 (t : Nat)) := (hb1.cell (p := ⟨w.heap.size, 1, none⟩) (by simp)).trans (cell_of_row _ _ 1 _ 37 (0, 0) (heap_alloc_new w _))
    have hbw : Below w.heap.size w w1 := ((Below.refl _ _).alloc (Nat.le_refl _) _).trans (hb1.mono (by simp))
    clear hst hb1
    rcases (show 1 < (y : Int) ∨ (y : Int) ≤ 1 by omega) with hy1 | hy1
  all_goals
    obtain ⟨ym, hym, hym2⟩ : ∃ ym, ym = min y 1 ∧ t + ym = t + min (4294967295 - t) 1 := ⟨_, rfl, by have := HY.out; omega⟩
    have HX := Lib.hid hym2
    have HYM := Lib.hid hym
    clear hym hym2
    go_wp2_with fail
    first
      | (rw [show ((t : Int) + 1) = ((t + ym : Nat) : Int) by have := HYM.out; omega]
         refine (hF.out (t + ym) _ (by have := HYM.out; omega) hbw).mono ?_)
      | (rw [show ((t : Int) + (y : Int)) = ((t + ym : Nat) : Int) by have := HYM.out; omega]
         refine (hF.out (t + ym) _ (by have := HYM.out; omega) hbw).mono ?_)
    generalize t + ym = tt at HX ⊢
    rintro e w2 ⟨e0, rfl, he0, hb2⟩
    have hbw2 : Below w.heap.size w w2 := hbw.trans (hb2.mono hbw.size)
    have hel := he0.1
    have HR : Hid (∀ en, (en = if memS l tt then e0 + 1 else e0) → st ≤ en ∧ en ≤ l.length ∧ (∀ j (h : j < l.length), j < st → l[j].2 + 2 ≤ f) ∧ (∀ j (h : j < l.length), en ≤ j → t + 2 ≤ l[j].1)) := Lib.hid (fun en hen => hM.out st e0 en HST.out (by rw [← HX.out]; exact he0) (by rw [← HX.out]; exact hen))
    clear he0 hb2
    by_cases hm : memS l tt
    · rw [decide_eq_true hm]
      have HR2 := Lib.hid (HR.out (e0 + 1) (by rw [if_pos hm]))
      clear hm
      go_wp2_with fail
      go_ret2
      exact ⟨st, e0 + 1, rfl, hbw2, HR2.out⟩
    · rw [decide_eq_false hm]
      have HR2 := Lib.hid (HR.out e0 (by rw [if_neg hm]))
      clear hm
      go_wp2_with fail
      go_ret2
      exact ⟨st, e0, rfl, hbw2, HR2.out⟩

end Go.Proofs.Ytpchjgeehejkeaa
