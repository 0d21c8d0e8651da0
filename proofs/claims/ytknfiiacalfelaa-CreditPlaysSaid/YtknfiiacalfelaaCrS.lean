/-
  The program's setOf: a row's strings as the keys of a map.
  Conditions: none but sizes.
-/
import Derived.Test.YtknfiiacalfelaaCrI
import Derived.Test.YtknfiiacalfelaaGen
import Derived.Deep.LoopGhost
namespace Go.Proofs.Ytknfiiacalfelaa
open Go.RowKit Go.Shelf
set_option linter.unusedVariables false
set_option linter.unusedSimpArgs false
set_option maxRecDepth 100000

def strC : Code Tg := { enc := fun t => [.string (str8 t)], sz := 1, len := fun _ => rfl, one := fun x u hu => by simp at hu; subst hu; rfl, pos := by omega }
theorem zeroUnit (w : World) : (zeroValue 78).run Try.prog w = .ok (.agg #[]) w := by rw [Try.zeroValue78]
theorem smap_make (u : World) : (Instr.makeMap 71 none).run Try.prog u = .ok (.map (some u.heap.size)) (u.alloc (.map #[] 0)) := by simp [Instr.makeMap, run_underlying Try.underlying71, Result.andThen]
theorem getA_putA {q t : Tg} {v : Value} {L : List (Tg × Value)} : (getA t (putA q v L)).isSome = (decide (t = q) || (getA t L).isSome) := by
  induction L with
  | nil =>
    unfold putA getA getA
    by_cases e : q = t
    · simp [e]
    · rw [if_neg e]; simp [Ne.symm e]
  | cons x r ih =>
    unfold putA
    by_cases e : x.1 = q
    · rw [if_pos e]
      unfold getA
      by_cases e2 : q = t
      · simp [e2]
      · have e3 : ¬ x.1 = t := fun h => e2 (e.symm.trans h)
        rw [if_neg e2, if_neg e3]
        simp [Ne.symm e2]
    · rw [if_neg e]
      unfold getA
      by_cases e2 : x.1 = t
      · simp [e2]
      · rw [if_neg e2, if_neg e2]
        exact ih
/-- The set's entries. -/
def SetS (w : World) (mb : Nat) (may : List Tg) : Prop := ∃ L, MapS strFam w mb L ∧ (∀ t, (getA t L).isSome = decide (t ∈ may)) ∧ ∀ x ∈ L, x.2 = .agg #[]
theorem SetS.look {w : World} {mb : Nat} {may : List Tg} (h : SetS w mb may) {t : Tg} (ht : t.length ≤ 140737488355328) : (Instr.lookup 71 (.map (some mb)) (.string (str8 t)) true).run Try.prog w = .ok (.tuple #[.agg #[], .bool (decide (t ∈ may))]) w := by
  obtain ⟨L, h1, h2, h4⟩ := h
  have h3 := h2 t
  have := h1.look Try.underlying71 (q := t) ht (zeroUnit w)
  rw [h3] at this
  have e : (getA t L).getD (.agg #[]) = .agg #[] := by
    cases hg : getA t L with
    | none => rfl
    | some v => exact h4 (t, v) (getA_mem hg)
  rw [e] at this
  exact this
theorem SetS.keep {w w' : World} {mb : Nat} {may : List Tg} (h : SetS w mb may) (hk : w'.heap[mb]? = w.heap[mb]?) : SetS w' mb may := by
  obtain ⟨L, h1, h2⟩ := h
  exact ⟨L, h1.keep hk, h2⟩
theorem SetS.store {w : World} {mb : Nat} {may : List Tg} (h : SetS w mb may) {t : Tg} (ht : t.length ≤ 140737488355328) : ∃ w', (Instr.mapUpdate 71 (.map (some mb)) (.string (str8 t)) (.agg #[])).run Try.prog w = .ok () w' ∧ SetS w' mb (may ++ [t]) ∧ w.grownBy w' (some mb) := by
  obtain ⟨L, h1, h2, h4⟩ := h
  obtain ⟨w', g1, g2, g3, g4⟩ := h1.store (T := 71) Try.underlying71 (q := t) ht (.agg #[])
  refine ⟨w', g1, ⟨_, g2, fun u => ?_, fun x hx => ?_⟩, g3⟩
  · rw [getA_putA, h2]
    by_cases e : u = t <;> simp [e]
  · rcases (mem_putA h1.2.2).1 hx with rfl | ⟨hx, _⟩
    · rfl
    · exact h4 x hx
theorem SetS.lt {w : World} {mb : Nat} {may : List Tg} (h : SetS w mb may) : mb < w.heap.size := by
  obtain ⟨L, h1, _⟩ := h
  exact h1.lt

set_option maxHeartbeats 1000000 in
theorem setOf_any (w : World) (A : Option Addr) (c d : Nat) (may : List Tg) (hs : ShowsG strC w d (.slice A may.length c) may) (hl : ∀ t ∈ may, t.length ≤ 140737488355328) (hn : may.length ≤ 1000000) :
    Calls Try.prog 30 #[.slice A may.length c] w fun e w' => ∃ mb, e = .returned (.map (some mb)) ∧ w.heap.size ≤ mb ∧ SetS w' mb may ∧ Below w.heap.size w w' := by
  have hmk := smap_make
  have H0 := Lib.hid (show SetS (w.alloc (.map #[] 0)) w.heap.size (may.take 0) from ⟨[], MapS.new strFam w, fun t => by simp [getA], by simp⟩)
  have HB0 := Lib.hid (show Below w.heap.size w (w.alloc (.map #[] 0)) from (Below.refl _ _).alloc (Nat.le_refl _) _)
  have HS := Lib.hid hs
  have HL := Lib.hid hl
  clear hs hl
  go_enter Try.func30, Try.ntmps30
  go_wp2_with fail
  go_loopw [9] (fun i wr => ∃ j : Nat, j ≤ may.length ∧ i = .int .i64 j ∧ Hid (SetS wr w.heap.size (may.take j)) ∧ Hid (Below w.heap.size w wr)) (fun i _ => may.length - (intOf i).toNat)
  case atStart => exact ⟨0, by omega, rfl, H0, HB0⟩
  case round =>
    rename World => wr
    obtain ⟨j, hj, rfl, hset, hb⟩ := hrel
    by_cases hlt : j < may.length
    · obtain ⟨o, rfl, _, hcl⟩ := (HS.out.below' hb.out (Nat.le_refl _)).at_ (by omega)
      have k0 : wr.cell? ⟨d, o + j, none⟩ = some (.string (str8 may[j])) := by simpa [strC] using hcl j hlt 0 (by decide)
      have b1 : (j : Int) < (may.length : Int) := by omega
      have b3 : IntKind.i64.wrap ((j : Int) + 1) = (j : Int) + 1 := i64_id _ (by omega) (by omega)
      obtain ⟨w2, hput, hs2, hg2⟩ := hset.out.store (HL.out may[j] (List.getElem_mem hlt))
      have HR : Hid (SetS w2 w.heap.size (may.take (j + 1))) := Lib.hid (by rw [List.take_succ_eq_append_getElem hlt]; exact hs2)
      have HB2 : Hid (Below w.heap.size w w2) := Lib.hid (hb.out.grown hg2 hb.out.size (fun k e => by cases e; exact Nat.le_refl _))
      clear hs2 hg2 hcl
      generalize str8 may[j] = t at *
      go_wp2_with fail
      go_roundw
      case rel => exact ⟨j + 1, by omega, by go_num, HR, HB2⟩
      case measure => simp [intOf]; omega
    · have b1 : ¬ (j : Int) < (may.length : Int) := by omega
      have e : j = may.length := by omega
      have HR : Hid (SetS wr w.heap.size may) := Lib.hid (by have := hset.out; rw [e, List.take_length] at this; exact this)
      clear e
      go_wp2_with fail
      go_ret
      exact ⟨_, rfl, Nat.le_refl _, HR.out, hb.out⟩

end Go.Proofs.Ytknfiiacalfelaa
