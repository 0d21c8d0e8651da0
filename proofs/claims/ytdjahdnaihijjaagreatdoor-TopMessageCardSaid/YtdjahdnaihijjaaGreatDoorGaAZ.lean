/-
  Texts, together: GaA, GaB.
  Conditions: none but sizes.
-/
import Derived.Deep.CutBlock
import Derived.Deep.DeepCutAuto
import Derived.Test.YtdjahdnaihijjaaGreatDoorGaPZ
import Derived.Deep.CutRange
import Derived.Deep.RegionWith
import Derived.WalkSpells
import Derived.WalkMore
import Derived.Deep.LoopGhost
import Derived.Test.YtdjahdnaihijjaaGreatDoorGaJZ
import Derived.Test.YtdjahdnaihijjaaGreatDoorGaWZ
import Derived.Test.YtdjahdnaihijjaaGreatDoorFrIZ
import Derived.Test.YtdjahdnaihijjaaGreatDoorFrRZ
/-
  The contracts of gather.isFirst, hasRightTypes, isTooLong and Check.
  Conditions: none but sizes.
-/
namespace Go.Proofs.YtdjahdnaihijjaaGreatDoor
open Go.RowKit
set_option linter.unusedVariables false
set_option linter.unusedSimpArgs false

/-- How a segment lies: two cells. -/
def sgC : Code Sg := { enc := fun s => [.int .u8 s.t, .string s.p], sz := 2, len := fun _ => rfl, one := fun x u hu => by simp at hu; rcases hu with rfl | rfl <;> rfl, pos := by omega }

theorem sg_cell {w : World} {d o : Nat} {l : List Sg} (h : ∀ j (h : j < l.length) k, k < sgC.sz → w.cell? ⟨d, o + (j * sgC.sz + k), none⟩ = (sgC.enc l[j])[k]?) {k : Nat} (hk : k < l.length) :
    w.cell? ⟨d, o + k * 2, none⟩ = some (.int .u8 (l[k].t : Nat)) ∧ w.cell? ⟨d, o + k * 2 + 1, none⟩ = some (.string l[k].p) :=
  ⟨h k hk 0 (by decide), h k hk 1 (by decide)⟩

set_option maxRecDepth 100000 in
theorem first_any (t k : Nat) (w : World) : Calls Tryz.prog 70 #[.int .u8 t, .int .u8 k] w fun e w' => e = .returned (.bool (firstD t k)) ∧ w' = w := by
  unfold firstD
  by_cases h0 : k = 0
  · subst h0
    rw [if_pos rfl]
    have e1 : ((t : Int) == 0) = (t == 0) := by rw [Bool.eq_iff_iff]; simp
    have e2 : (((0 : Nat) : Int) == 0) = true := rfl
    go_enter Tryz.func70, Tryz.ntmps70
    go_wp2_with fail
    go_ret
    exact ⟨by rw [← e1]; rfl, rfl⟩
  · rw [if_neg h0]
    have e2 : ((k : Int) == 0) = false := by rw [beq_eq_false_iff_ne]; omega
    by_cases h1 : k = 1
    · subst h1
      rw [if_pos rfl]
      have e1 : ((t : Int) == 1) = (t == 1) := by rw [Bool.eq_iff_iff]; simp; omega
      go_enter Tryz.func70, Tryz.ntmps70
      go_wp2_with fail
      go_ret
      exact ⟨by rw [← e1]; rfl, rfl⟩
    · rw [if_neg h1]
      have e3 : ((k : Int) == 1) = false := by rw [beq_eq_false_iff_ne]; omega
      have h0' : ¬ (k : Int) = 0 := by omega
      have h1' : ¬ (k : Int) = 1 := by omega
      go_enter Tryz.func70, Tryz.ntmps70
      go_wp2_with fail
      go_ret
      exact ⟨rfl, rfl⟩

theorem sumS_take : ∀ (l : List Sg) (k : Nat) (h : k < l.length), sumS (l.take (k + 1)) = sumS (l.take k) + l[k].p.size
  | s :: r, 0, _ => by simp [sumS]
  | s :: r, k + 1, h => by
    have := sumS_take r k (by simpa using h)
    simp only [List.take_succ_cons, sumS, List.getElem_cons_succ]
    omega
theorem sumS_le : ∀ (l : List Sg) (k : Nat), sumS (l.take k) ≤ sumS l
  | [], k => by simp
  | s :: r, 0 => by simp [sumS]
  | s :: r, k + 1 => by
    have := sumS_le r k
    simp only [List.take_succ_cons, sumS]
    omega

set_option maxRecDepth 100000 in
set_option maxHeartbeats 2000000 in
theorem long_any (A : Option Addr) (c d : Nat) (l : List Sg) (w : World) (h : ShowsG sgC w d (.slice A l.length c) l) (hl : l.length ≤ 17592186044416) (hz : ∀ s ∈ l, s.p.size ≤ 140737488351232) :
    Calls Tryz.prog 50 #[.slice A l.length c] w fun e w' => e = .returned (.bool (decide (16384 < sumS l))) ∧ Below w.heap.size w w' := by
  obtain ⟨_, hlc, hcm⟩ := h.lens
  have HS := Lib.hid (fun w' (hb : Below w.heap.size w w') => h.below' hb (Nat.le_refl _))
  have HZ := Lib.hid hz
  clear h hz
  go_enter Tryz.func50, Tryz.ntmps50
  go_wp2_with fail
  go_loopw [3, 8] (fun x i wr => ∃ k n : Nat, k ≤ l.length ∧ i = .int .i64 k ∧ x = .int .i64 n ∧ Hid (sumS (l.take k) + n = 16384) ∧ Hid (Below w.heap.size w wr)) (fun _ i _ => l.length - (intOf i).toNat)
  case atStart => exact ⟨0, 16384, Nat.zero_le _, rfl, rfl, Lib.hid (by simp [sumS]), Lib.hid (Below.refl _ _)⟩
  case round =>
    obtain ⟨k, n, hk, rfl, rfl, hsum, HB⟩ := hrel
    rename World => wj
    have hn : n ≤ 16384 := by have := hsum.out; omega
    by_cases hlt : k < l.length
    · have hkl : (k : Int) < (l.length : Int) := by omega
      have hzk := HZ.out _ (List.getElem_mem hlt)
      obtain ⟨o, rfl, hdj, hcl⟩ := (HS.out wj HB.out).at_ (by omega)
      obtain ⟨x0, x1⟩ := sg_cell hcl hlt
      have HT := Lib.hid (sumS_take l k hlt)
      have HL := Lib.hid (sumS_le l (k + 1))
      have HBA := Lib.hid (fun o => HB.out.alloc HB.out.size o)
      clear hcl
      generalize l[k] = s at *
      obtain ⟨st, sp⟩ := s
      simp only [] at *
      by_cases hbig : n < sp.size
      · have hb : (n : Int) < (sp.size : Int) := by omega
        have hfin : decide (16384 < sumS l) = true := by
          have h1 := HT.out
          have h2 := HL.out
          have h3 := hsum.out
          simp only [decide_eq_true_eq]
          omega
        go_wp2_with fail
        go_ret
        exact ⟨by first | rfl | (rw [hfin]; rfl), HBA.out _⟩
      · have hb : ¬ (n : Int) < (sp.size : Int) := by omega
        obtain ⟨m, hm⟩ : ∃ m : Nat, m = n - sp.size := ⟨_, rfl⟩
        have e1 : (n : Int) - (sp.size : Int) = (m : Int) := by omega
        have e2 : wrap64 ((n : Int) - (sp.size : Int)) = (m : Int) := by rw [e1]; exact w64_id _ (by omega) (by omega)
        have e3 : IntKind.i64.wrap ((n : Int) - (sp.size : Int)) = (m : Int) := by rw [e1]; exact i64_id _ (by omega) (by omega)
        have HN := Lib.hid (show sumS (l.take (k + 1)) + m = 16384 by have h1 := HT.out; have h3 := hsum.out; omega)
        clear hm e1
        go_wp2_with fail
        go_roundw
        case rel => exact ⟨k + 1, m, by omega, by go_num, rfl, HN, Lib.hid (HBA.out _)⟩
        case measure => simp [intOf]; omega
    · have hkl : ¬ (k : Int) < (l.length : Int) := by omega
      have hfin : decide (16384 < sumS l) = false := by
        have h3 := hsum.out
        rw [List.take_of_length_le (by omega)] at h3
        simp only [decide_eq_false_iff_not]
        omega
      go_wp2_with fail
      go_ret
      exact ⟨by first | rfl | (rw [hfin]; rfl), HB.out⟩


theorem rises_iff : ∀ (r : List Sg) (x : Sg), risesD x.t r = true ↔ ∀ j (h : j < r.length), ((x :: r)[j]'(by simp; omega)).t < r[j].t ∧ r[j].t ≤ 3
  | [], x => by simp [risesD]
  | y :: r, x => by
    rw [risesD, Bool.and_eq_true, decide_eq_true_eq, rises_iff r y]
    constructor
    · rintro ⟨h1, h2⟩ j hj
      cases j with
      | zero => simpa using h1
      | succ j => simpa using h2 j (by simpa using hj)
    · intro h
      refine ⟨h 0 (by simp), fun j hj => ?_⟩
      exact h (j + 1) (by simpa using hj)

theorem types_iff {l : List Sg} (h0 : 0 < l.length) (k : Nat) (h1 : firstD l[0].t k = true) (hk : k ≠ 0) : typesD k l = true ↔ ∀ j (h : j + 1 < l.length), l[j].t < l[j + 1].t ∧ l[j + 1].t ≤ 3 := by
  cases l with
  | nil => simp at h0
  | cons x r =>
    simp only [List.getElem_cons_zero] at h1
    simp only [typesD, h1, Bool.true_and, if_neg hk]
    rw [rises_iff]
    constructor
    · intro h j hj
      exact h j (by simpa using hj)
    · intro h j hj
      exact h j (by simpa using hj)
theorem types_zero {l : List Sg} (h0 : 0 < l.length) (h1 : firstD l[0].t 0 = true) : typesD 0 l = (l.length == 1) := by
  cases l with
  | nil => simp at h0
  | cons x r =>
    simp only [List.getElem_cons_zero] at h1
    simp [typesD, h1]
    cases r <;> simp
theorem types_no {l : List Sg} (h0 : 0 < l.length) {k : Nat} (h1 : firstD l[0].t k = false) : typesD k l = false := by
  cases l with
  | nil => simp at h0
  | cons x r =>
    simp only [List.getElem_cons_zero] at h1
    simp [typesD, h1]

/-- An assembly as a value. -/
def asV (ch k : Nat) (v : Value) : Value := .agg #[.int .u16 ch, .int .u8 k, v]
/-- An assembly in a block of its own. -/
def BoxA (w : World) (b : Nat) (ch k : Nat) (v : Value) : Prop := w.heap[b]? = some (.cells #[.int .u16 ch, .int .u8 k, v] 41 (0, 0))
section
variable {w w' : World} {b B ch k : Nat} {v : Value}
theorem BoxA.new (w : World) (ch k : Nat) (v : Value) : BoxA (w.alloc (Obj.cells #[.int .u16 ch, .int .u8 k, v] 41)) w.heap.size ch k v := heap_alloc_new w _
theorem BoxA.lt (h : BoxA w b ch k v) : b < w.heap.size := (Array.getElem?_eq_some_iff.1 h).1
theorem BoxA.kept (h : BoxA w b ch k v) (hb : Below B w w') (hB : w.heap.size ≤ B) : BoxA w' b ch k v := (hb.block b (Nat.lt_of_lt_of_le h.lt hB)).trans h
theorem BoxA.c0 (h : BoxA w b ch k v) : w.cell? ⟨b, 0, none⟩ = some (.int .u16 ch) := by rw [cell_of_row w b _ _ 41 (0, 0) h]; rfl
theorem BoxA.c1 (h : BoxA w b ch k v) : w.cell? ⟨b, 1, none⟩ = some (.int .u8 k) := by rw [cell_of_row w b _ _ 41 (0, 0) h]; rfl
theorem BoxA.c2 (h : BoxA w b ch k v) : w.cell? ⟨b, 2, none⟩ = some v := by rw [cell_of_row w b _ _ 41 (0, 0) h]; rfl
end

set_option maxRecDepth 100000 in
set_option maxHeartbeats 2000000 in
theorem types_any (ch k : Nat) (A : Option Addr) (c d : Nat) (l : List Sg) (w : World) (h : ShowsG sgC w d (.slice A l.length c) l) (hl : l.length ≤ 17592186044416) :
    Calls Tryz.prog 49 #[asV ch k (.slice A l.length c)] w fun e w' => e = .returned (.bool (typesD k l)) ∧ Below w.heap.size w w' := by
  obtain ⟨_, hlc, hcm⟩ := h.lens
  unfold asV
  by_cases h0 : 0 < l.length
  · obtain ⟨o, rfl, hd, hcl⟩ := h.at_ h0
    obtain ⟨x0, x1⟩ := sg_cell hcl h0
    have hl0 : ((l.length : Int) == 0) = false := by rw [beq_eq_false_iff_ne]; omega
    have hl1 : (0 : Int) < (l.length : Int) := by omega
    have HF := Lib.hid (fun w => first_any l[0].t k w)
    by_cases h1 : firstD l[0].t k = true
    · rw [h1] at HF
      have hdo : ∀ (o' : Obj), (w.alloc o').cell? ⟨d, o, none⟩ = some (.int .u8 (l[0].t : Nat)) := fun o' => by
        rw [Nat.zero_mul, Nat.add_zero] at x0; rw [← x0]; exact (f_below_box w o').cell (p := ⟨d, _, none⟩) hd
      by_cases hk : k = 0
      · have hfin : typesD k l = (l.length == 1) := by subst hk; exact types_zero h0 h1
        have e1 : ((l.length : Int) == 1) = (l.length == 1) := by rw [Bool.eq_iff_iff]; simp; omega
        have e2 : ((k : Int) == 0) = true := by rw [beq_iff_eq]; omega
        have HE2 := Lib.hid e2
        clear e2
        rw [hfin, ← e1]
        clear hfin e1 h1 hcl x1 x0 hk
        generalize l[0] = s at *
        obtain ⟨st, sp⟩ := s
        simp only [] at *
        go_enter Tryz.func49, Tryz.ntmps49
        go_upto_region 2 with fail
        have y0 := hdo (Obj.cells #[.int .u16 ch, .int .u8 k, .slice (some ⟨d, o, none⟩) l.length c] 41)
        clear hdo
        go_quiet ((go_at_call 70; exact Calls.quiet_of_same (HF.out _)))
        have e2 := HE2.out
        go_wp2_with fail
        go_ret
        exact ⟨rfl, below_drewN (f_below_box _ _) _⟩
      · have e2 : ((k : Int) == 0) = false := by rw [beq_eq_false_iff_ne]; omega
        have HT := Lib.hid (types_iff h0 k h1 hk)
        have HSH := Lib.hid (fun w' (hb : Below w.heap.size w w') => h.below' hb (Nat.le_refl _))
        have HL := Lib.hid h0
        obtain ⟨m, hm⟩ : ∃ m, m = l.length - 1 := ⟨_, rfl⟩
        have HM := Lib.hid hm
        have hl1' : (1 : Int) ≤ (l.length : Int) := by omega
        have hlcI : (l.length : Int) ≤ (c : Int) := by omega
        by_cases hone : l.length = 1
        · have hfin : typesD k l = true := HT.out.2 fun j hj => by omega
          have hm0 : m = 0 := by omega
          have HM0 := Lib.hid hm0
          clear h1 hcl x1 x0 hk h hone hm0
          generalize l[0] = s at *
          obtain ⟨st, sp⟩ := s
          simp only [] at *
          go_enter Tryz.func49, Tryz.ntmps49
          go_upto_region 2 with fail
          have y0 := hdo (Obj.cells #[.int .u16 ch, .int .u8 k, .slice (some ⟨d, o, none⟩) l.length c] 41)
          clear hdo
          go_quiet ((go_at_call 70; exact Calls.quiet_of_same (HF.out _)))
          go_wp2_with fail
          all_goals
            rw [← hm, HM0.out]
            clear hm y0
            go_loopw [30] (fun i wr => i = .int .i64 0 ∧ Hid (Below w.heap.size w wr)) (fun i _ => 0)
            case atStart => exact ⟨rfl, Lib.hid (below_drewN (f_below_box w _) _)⟩
            case round =>
              obtain ⟨rfl, HB⟩ := hrel
              go_wp2_with fail
              go_ret
              exact ⟨by first | rfl | (rw [hfin]; rfl), HB.out⟩
        · have hc1 : ¬ c = 1 := by omega
          clear h1 hcl x1 x0 hk h hone
          generalize hg0 : l[0] = s at *
          clear hg0
          obtain ⟨st, sp⟩ := s
          simp only [] at *
          go_enter Tryz.func49, Tryz.ntmps49
          go_upto_region 2 with fail
          have y0 := hdo (Obj.cells #[.int .u16 ch, .int .u8 k, .slice (some ⟨d, o, none⟩) l.length c] 41)
          clear hdo
          go_quiet ((go_at_call 70; exact Calls.quiet_of_same (HF.out _)))
          go_wp2_with fail
          rw [← hm]
          have HB0 := Lib.hid (below_drewN (f_below_box w (Obj.cells #[.int .u16 ch, .int .u8 k, .slice (some ⟨d, o, none⟩) l.length c] 41)) nq)
          clear hm y0 hc1
          go_loopw [30] (fun i wr => ∃ j : Nat, j ≤ m ∧ i = .int .i64 j ∧ Hid (∀ q (h : q + 1 < l.length), q < j → l[q].t < l[q + 1].t ∧ l[q + 1].t ≤ 3) ∧ Hid (Below w.heap.size w wr)) (fun i _ => m - (intOf i).toNat)
          case atStart => exact ⟨0, Nat.zero_le _, rfl, Lib.hid (fun q _ hq => by omega), HB0⟩
          case round =>
            obtain ⟨j, hj, rfl, HQ, HB⟩ := hrel
            rename World => wj
            by_cases hlt : j < m
            · have hjm : (j : Int) < (m : Int) := by omega
              have hj1 : j + 1 < l.length := by have := HM.out; omega
              have hjl : (j : Int) < (l.length : Int) := by omega
              obtain ⟨o', e', hdj, hcl⟩ := (HSH.out wj HB.out).at_ (by omega)
              cases e'
              obtain ⟨x0, _⟩ := sg_cell hcl (show j < l.length by omega)
              obtain ⟨y0, y1⟩ := sg_cell hcl hj1
              rw [show o + (j + 1) * 2 = o + 2 + j * 2 by omega] at y0 y1
              have HBA := Lib.hid (fun o => HB.out.alloc HB.out.size o)
              have hz : ∀ o', (wj.alloc o').cell? ⟨d, o + j * 2, none⟩ = some (.int .u8 (l[j].t : Nat)) := fun o' => by
                rw [← x0]; exact (f_below_box wj o').cell (p := ⟨d, _, none⟩) hdj
              have HT0 := Lib.hid (fun (hb : ¬ (l[j].t < l[j + 1].t ∧ l[j + 1].t ≤ 3)) => show typesD k l = false by
                cases ht : typesD k l with
                | false => rfl
                | true => exact absurd (HT.out.1 ht j hj1) hb)
              have HQ1 := Lib.hid (fun (hb : l[j].t < l[j + 1].t ∧ l[j + 1].t ≤ 3) => show ∀ q (h : q + 1 < l.length), q < j + 1 → l[q].t < l[q + 1].t ∧ l[q + 1].t ≤ 3 by
                intro q hq hqj
                by_cases e : q = j
                · subst e; exact hb
                · exact HQ.out q hq (by omega))
              clear hcl HQ HL HM
              generalize l[j].t = ta at *
              generalize l[j + 1].t = tb at *
              generalize l[j + 1].p = pb at *
              by_cases ha : tb ≤ ta
              · have i1 : (tb : Int) ≤ (ta : Int) := by omega
                have i2 : decide ((tb : Int) ≤ (ta : Int)) = true := by simpa using i1
                have hfin := HT0.out (by omega)
                go_upto_region 9 with fail
                have z0 := hz (Obj.cells #[.int .u8 tb, .string pb] 38)
                clear hz
                go_quiet (fail)
                go_wp2_with fail
                go_ret
                exact ⟨by first | rfl | (rw [hfin]; rfl), below_drewN (HBA.out _) _⟩
              · have i1 : ¬ (tb : Int) ≤ (ta : Int) := by omega
                have i2 : decide ((tb : Int) ≤ (ta : Int)) = false := by simpa using i1
                by_cases hb : 3 < tb
                · have i3 : (3 : Int) < (tb : Int) := by omega
                  have hfin := HT0.out (by omega)
                  go_upto_region 9 with fail
                  have z0 := hz (Obj.cells #[.int .u8 tb, .string pb] 38)
                  clear hz
                  go_quiet (fail)
                  go_wp2_with fail
                  go_ret
                  exact ⟨by first | rfl | (rw [hfin]; rfl), below_drewN (HBA.out _) _⟩
                · have i3 : ¬ (3 : Int) < (tb : Int) := by omega
                  have HN := Lib.hid (HQ1.out (by omega))
                  go_upto_region 9 with fail
                  have z0 := hz (Obj.cells #[.int .u8 tb, .string pb] 38)
                  clear hz
                  go_quiet (fail)
                  go_wp2_with fail
                  go_roundw
                  case rel => exact ⟨j + 1, by omega, by go_num, HN, Lib.hid (below_drewN (HBA.out _) _)⟩
                  case measure => simp [intOf]; omega
            · have hjm : ¬ (j : Int) < (m : Int) := by omega
              have hfin : typesD k l = true := HT.out.2 fun q hq => HQ.out q hq (by have := HM.out; omega)
              go_wp2_with fail
              go_ret
              exact ⟨by first | rfl | (rw [hfin]; rfl), HB.out⟩
    · have h1f : firstD l[0].t k = false := by simpa using h1
      have hfin := types_no h0 h1f
      rw [h1f] at HF
      have hdo : ∀ (o' : Obj), (w.alloc o').cell? ⟨d, o, none⟩ = some (.int .u8 (l[0].t : Nat)) := fun o' => by
        rw [Nat.zero_mul, Nat.add_zero] at x0; rw [← x0]; exact (f_below_box w o').cell (p := ⟨d, _, none⟩) hd
      clear x0
      clear h1 h1f hcl x1
      generalize l[0] = s at *
      obtain ⟨st, sp⟩ := s
      simp only [] at *
      go_enter Tryz.func49, Tryz.ntmps49
      go_upto_region 2 with fail
      have y0 := hdo (Obj.cells #[.int .u16 ch, .int .u8 k, .slice (some ⟨d, o, none⟩) l.length c] 41)
      clear hdo
      go_quiet ((go_at_call 70; exact Calls.quiet_of_same (HF.out _)))
      go_wp2_with fail
      go_ret
      exact ⟨by first | rfl | (rw [hfin]; rfl), below_drewN (f_below_box _ _) _⟩
  · have hl0 : ((l.length : Int) == 0) = true := by rw [beq_iff_eq]; omega
    have : l = [] := List.eq_nil_of_length_eq_zero (by omega)
    subst this
    go_enter Tryz.func49, Tryz.ntmps49
    go_wp2_with fail
    go_quiet (fail)
    go_wp2_with fail
    go_ret
    exact ⟨rfl, below_drewN (f_below_box _ _) _⟩

set_option maxRecDepth 100000 in
set_option maxHeartbeats 2000000 in
theorem gcheck_any (ch k : Nat) (A : Option Addr) (c d : Nat) (l : List Sg) (w : World) (h : ShowsG sgC w d (.slice A l.length c) l) (hl : l.length ≤ 17592186044416) (hz : ∀ s ∈ l, s.p.size ≤ 140737488351232) :
    Calls Tryz.prog 24 #[asV ch k (.slice A l.length c)] w fun e w' => e = .returned (.int .i64 (checkA k l)) ∧ Below w.heap.size w w' := by
  have hb0 := f_below_box w (Obj.cells #[.int .u16 ch, .int .u8 k, .slice A l.length c] 41)
  have HT := Lib.hid (types_any ch k A c d l _ (h.below' hb0 (Nat.le_refl _)) hl)
  have HL := Lib.hid (fun w' (hb : Below w.heap.size w w') => long_any A c d l w' (h.below' hb (Nat.le_refl _)) hl hz)
  have HB0 := Lib.hid hb0
  clear h hb0 hz
  unfold checkA
  unfold asV at HT ⊢
  by_cases ht : typesD k l = true
  · rw [ht] at HT
    by_cases hs : sumS l ≤ 16384
    · rw [if_pos ⟨ht, hs⟩]
      have e1 : decide (16384 < sumS l) = false := by simp; omega
      rw [e1] at HL
      have HX := Lib.hid (BoxA.new w ch k (.slice A l.length c))
      clear ht hs e1
      go_enter Tryz.func24, Tryz.ntmps24
      go_wp2_with (first
        | (go_at_call 49
           refine HT.out.mono ?_
           rintro e w1 ⟨rfl, hb1⟩
           have z2 := (HX.out.kept hb1 (Nat.le_refl _)).c2
           have hb01 := HB0.out.trans (hb1.mono HB0.out.size))
        | (go_at_call 50
           refine (HL.out _ hb01).mono ?_
           rintro e w2 ⟨rfl, hb2⟩))
      go_ret
      exact ⟨rfl, hb01.trans (hb2.mono hb01.size)⟩
    · rw [if_neg (fun h => hs h.2)]
      have e1 : decide (16384 < sumS l) = true := by simp; omega
      rw [e1] at HL
      have HX := Lib.hid (BoxA.new w ch k (.slice A l.length c))
      clear ht hs e1
      go_enter Tryz.func24, Tryz.ntmps24
      go_wp2_with (first
        | (go_at_call 49
           refine HT.out.mono ?_
           rintro e w1 ⟨rfl, hb1⟩
           have z2 := (HX.out.kept hb1 (Nat.le_refl _)).c2
           have hb01 := HB0.out.trans (hb1.mono HB0.out.size))
        | (go_at_call 50
           refine (HL.out _ hb01).mono ?_
           rintro e w2 ⟨rfl, hb2⟩))
      go_ret
      exact ⟨rfl, hb01.trans (hb2.mono hb01.size)⟩
  · rw [if_neg (fun h => ht h.1)]
    have hf : typesD k l = false := by simpa using ht
    rw [hf] at HT
    clear ht hf HL
    go_enter Tryz.func24, Tryz.ntmps24
    go_wp2_with (go_at_call 49; refine HT.out.mono ?_; rintro e w1 ⟨rfl, hb1⟩)
    go_ret
    exact ⟨rfl, HB0.out.trans (hb1.mono HB0.out.size)⟩

end Go.Proofs.YtdjahdnaihijjaaGreatDoor
/-
  The contract of gather.pieces.
  Conditions: none but sizes.
-/
namespace Go.Proofs.YtdjahdnaihijjaaGreatDoor
open Go.RowKit
set_option linter.unusedVariables false
set_option linter.unusedSimpArgs false

theorem cutP_end {n : Nat} {l : List UInt8} (h : l.length ≤ n) : cutP n l = [l] := by rw [cutP, dif_pos (.inr h)]
theorem cutP_more {n : Nat} {l : List UInt8} (hn : 1 ≤ n) (h : n < l.length) : cutP n l = l.take n :: cutP n (l.drop n) := by rw [cutP, dif_neg (by omega)]
theorem cutP_ne (n : Nat) (l : List UInt8) : cutP n l ≠ [] := by rw [cutP]; split <;> simp
theorem pieceF_end {n : Nat} {l : List UInt8} (h : l.length ≤ n) (a b : Bool) (t k ch : Nat) (c : Bool) : pieceF a b t k ch c (cutP n l) = [⟨a, b, c, true, t, k, ch, str8 l⟩] := by rw [cutP_end h]; rfl
theorem pieceF_more {n : Nat} {l : List UInt8} (hn : 1 ≤ n) (h : n < l.length) (a b : Bool) (t k ch : Nat) (c : Bool) : pieceF a b t k ch c (cutP n l) = ⟨a, b, c, false, t, k, ch, str8 (l.take n)⟩ :: pieceF a b t k ch false (cutP n (l.drop n)) := by
  rw [cutP_more hn h]
  cases hc : cutP n (l.drop n) with
  | nil => exact absurd hc (cutP_ne _ _)
  | cons x r => rfl
theorem pieceF_len (a b : Bool) (t k ch : Nat) : ∀ (l : List (List UInt8)) (c : Bool), (pieceF a b t k ch c l).length = l.length
  | [], _ => rfl
  | [x], _ => rfl
  | x :: y :: r, c => by simp only [pieceF, List.length_cons]; rw [pieceF_len a b t k ch (y :: r) false]; simp
theorem cutP_len {n : Nat} (hn : 1 ≤ n) : ∀ (m : Nat) (l : List UInt8), l.length ≤ m → (cutP n l).length ≤ l.length + 1
  | 0, l, h => by rw [cutP_end (by omega)]; simp
  | m + 1, l, h => by
    by_cases h2 : l.length ≤ n
    · rw [cutP_end h2]; simp
    · rw [cutP_more hn (by omega), List.length_cons]
      have := cutP_len hn m (l.drop n) (by rw [List.length_drop]; omega)
      rw [List.length_drop] at this
      omega
theorem framesD_len {n : Nat} (hn : 1 ≤ n) (k ch : Nat) : ∀ (l : List Sg) (a : Bool), (framesD n k ch a l).length ≤ sumS l + l.length
  | [], _ => by simp [framesD, sumS]
  | s :: r, a => by
    have h1 := framesD_len hn k ch r false
    have h2 := cutP_len hn _ (sb s.p) (Nat.le_refl _)
    rw [sb_length] at h2
    simp only [framesD, segF, sumS, List.length_append, List.length_cons, pieceF_len]
    omega
theorem framesD_at (n k ch : Nat) (l : List Sg) (j : Nat) (h : j < l.length) :
    framesD n k ch (j == 0) (l.drop j) = pieceF (j == 0) (j + 1 == l.length) l[j].t k ch true (cutP n (sb l[j].p)) ++ framesD n k ch (j + 1 == 0) (l.drop (j + 1)) := by
  rw [List.drop_eq_getElem_cons h]
  simp only [framesD, segF]
  have e1 : (l.drop (j + 1)).isEmpty = (j + 1 == l.length) := by
    rw [Bool.eq_iff_iff]
    simp [List.isEmpty_iff]
    omega
  rw [e1]
  rfl

theorem sb_from (s : ByteArray) (n : Nat) (h : n ≤ s.size) : sb (s.extract n s.size) = (sb s).drop n := by
  simp [sb, ByteArray.data_extract]
  rw [List.take_of_length_le]
  rw [List.length_drop, Array.length_toList]
  exact Nat.le_refl _
theorem sb_upto (s : ByteArray) (n : Nat) : sb (s.extract 0 n) = (sb s).take n := by
  simp [sb, ByteArray.data_extract]
def strN : Value → Nat
  | .string s => s.size
  | _ => 0
def PiecesSaid (n k ch : Nat) (l : List Sg) (w : World) (e : Ending) (w' : World) : Prop := ∃ v, e = .returned v ∧ OwnG frC 51 w' w.heap.size v (framesD n k ch true l) ∧ Below w.heap.size w w'

set_option maxRecDepth 100000 in
set_option maxHeartbeats 8000000 in
theorem pieces_any (n ch k : Nat) (A : Option Addr) (c d : Nat) (l : List Sg) (w : World) (h : ShowsG sgC w d (.slice A l.length c) l) (hl : l.length ≤ 3) (hz : sumS l ≤ 16384) (hn : 1 ≤ n) (hn2 : n ≤ 4084) :
    Calls Tryz.prog 25 #[asV ch k (.slice A l.length c), .int .i64 n] w (PiecesSaid n k ch l w) := by
  obtain ⟨_, hlc, hcm⟩ := h.lens
  unfold PiecesSaid asV
  obtain ⟨ALL, hALL⟩ : ∃ ALL, ALL = framesD n k ch true l := ⟨_, rfl⟩
  have hAL : ALL.length ≤ 20000 := by have := framesD_len hn k ch l true; rw [← hALL] at this; omega
  rw [← hALL]
  have HAT := Lib.hid (framesD_at n k ch l)
  have HZ := Lib.hid (fun (j : Nat) (hj : j < l.length) => show l[j].p.size ≤ 16384 by
    have := sumS_take l j hj
    have := sumS_le l (j + 1)
    omega)
  have HS := Lib.hid (fun w' (hb : Below w.heap.size w w') => h.below' hb (Nat.le_refl _))
  have hX := BoxA.new w ch k (.slice A l.length c)
  have hb0 := f_below_box w (Obj.cells #[.int .u16 ch, .int .u8 k, .slice A l.length c] 41)
  have hls : (w.alloc (Obj.cells #[.int .u16 ch, .int .u8 k, .slice A l.length c] 41)).heap.size = w.heap.size + 1 := by simp
  generalize hW1 : w.alloc (Obj.cells #[.int .u16 ch, .int .u8 k, .slice A l.length c] 41) = W1 at *
  have HW1 := Lib.hid hW1
  have HX := Lib.hid (And.intro hX (And.intro hb0 hls))
  have x0 := hX.c2
  have HALL := Lib.hid hALL
  clear h hX hb0 hls hALL hW1
  go_enter Tryz.func25, Tryz.ntmps25
  go_upto_region 2 with fail
  rw [HW1.out]
  clear HW1
  go_wp2_with fail
  go_step3
  go_wp2_with fail
  go_step3
  go_wp2_with fail
  clear x0
  go_loopw [5, 14] (fun v i wr => ∃ (j : Nat) (L : List Fr), j ≤ l.length ∧ i = .int .i64 j ∧ OwnG frC 51 wr (w.heap.size + 1) v L ∧ L ++ framesD n k ch (j == 0) (l.drop j) = ALL ∧ Hid (Below (w.heap.size + 1) W1 wr)) (fun _ i _ => l.length - (intOf i).toNat)
  case atStart => exact ⟨0, [], Nat.zero_le _, rfl, OwnG.nil_ _ _ _ _, by rw [HALL.out]; simp, Lib.hid (Below.refl _ _)⟩
  case round =>
    obtain ⟨j, L, hj, rfl, hO, hAll, HB⟩ := hrel
    rename World => wj
    by_cases hlt : j < l.length
    · have hjl : (j : Int) < (l.length : Int) := by omega
      obtain ⟨A5, c5, hv5, _, _⟩ := hO.form
      subst hv5
      have hbw := HX.out.2.1.trans (HB.out.mono (by omega))
      obtain ⟨o, rfl, hd, hcl⟩ := (HS.out wj hbw).at_ (by omega)
      obtain ⟨y0, y1⟩ := sg_cell hcl hlt
      have hp := HZ.out j hlt
      have hat := HAT.out j hlt
      rw [hat] at hAll
      obtain ⟨fa, hfa⟩ : ∃ fa, fa = (j == 0) := ⟨_, rfl⟩
      obtain ⟨fb, hfb⟩ : ∃ fb, fb = (j + 1 == l.length) := ⟨_, rfl⟩
      have e1 : ((j : Int) == 0) = fa := by rw [hfa, Bool.eq_iff_iff]; simp
      have e2 : ((j : Int) == (l.length : Int) - 1) = fb := by rw [hfb, Bool.eq_iff_iff]; simp; omega
      have e3 : wrap64 ((l.length : Int) - 1) = (l.length : Int) - 1 := w64_id _ (by omega) (by omega)
      have e4 : IntKind.i64.wrap ((l.length : Int) - 1) = (l.length : Int) - 1 := i64_id _ (by omega) (by omega)
      rw [← hfa, ← hfb] at hAll
      have hX1 := HX.out.1.kept (HB.out.mono (Nat.le_refl _)) (by have := HX.out.2.2; omega)
      have x0 := hX1.c0
      have x1 := hX1.c1
      have x2 := hX1.c2
      have hsz := HB.out.size
      have hgt : w.heap.size < wj.heap.size := by have := HX.out.2.2; omega
      clear hat hcl hfa hfb hX1
      generalize hre : framesD n k ch (j + 1 == 0) (l.drop (j + 1)) = REST at *
      have HRE := Lib.hid hre
      clear hre
      generalize l[j] = sg at *
      obtain ⟨t, p⟩ := sg
      simp only [] at *
      go_upto_region 6 with fail
      have hb6 : Below (w.heap.size + 1) W1 ((wj.alloc (Obj.cells #[.int .u8 t, .string p] 38)).alloc (Obj.cells #[.bool fa, .bool fb, .bool true, .bool false, .int .u8 t, .int .u8 k, .int .u16 ch, .string ⟨#[]⟩] 51)) := (HB.out.alloc (by omega) _).alloc (by simp; omega) _
      have hf6 := BoxF.new (wj.alloc (Obj.cells #[.int .u8 t, .string p] 38)) ⟨fa, fb, true, false, t, k, ch, ⟨#[]⟩⟩
      rw [World.size_alloc] at hf6
      have hO6 := (hO.alloc_ (Obj.cells #[.int .u8 t, .string p] 38)).alloc_ (Obj.cells #[.bool fa, .bool fb, .bool true, .bool false, .int .u8 t, .int .u8 k, .int .u16 ch, .string ⟨#[]⟩] 51)
      have hne6 : (Value.slice A5 L.length c5).ownBlock ≠ some (wj.heap.size + 1) := fun e => by have := (hO.block _ e).2; omega
      have H6 := Lib.hid (And.intro hb6 (And.intro hf6 (And.intro hO6 hne6)))
      have s1 : ((wj.alloc (Obj.cells #[.int .u8 t, .string p] 38)).alloc (Obj.cells #[.bool fa, .bool fb, .bool true, .bool false, .int .u8 t, .int .u8 k, .int .u16 ch, .string ⟨#[]⟩] 51)).cell? ⟨wj.heap.size, 1, none⟩ = some (.string p) := by
        have h1 := heap_alloc_new wj (Obj.cells #[.int .u8 t, .string p] 38)
        have h2 := (f_below_box (wj.alloc (Obj.cells #[.int .u8 t, .string p] 38)) (Obj.cells #[.bool fa, .bool fb, .bool true, .bool false, .int .u8 t, .int .u8 k, .int .u16 ch, .string ⟨#[]⟩] 51)).block wj.heap.size (by simp)
        rw [cell_of_row _ _ _ _ 38 (0, 0) (h2.trans h1)]
        rfl
      generalize ((wj.alloc (Obj.cells #[.int .u8 t, .string p] 38)).alloc (Obj.cells #[.bool fa, .bool fb, .bool true, .bool false, .int .u8 t, .int .u8 k, .int .u16 ch, .string ⟨#[]⟩] 51)) = W6 at *
      clear hb6 hf6 hO6 hne6 hO
      go_wp2_with fail
      clear s1 x0 x1 x2 y0 y1
      go_loopw [5, 9] (fun v r wr => ∃ (L' : List Fr) (S q : ByteArray) (x y : Bool), r = .string S ∧ OwnG frC 51 wr (w.heap.size + 1) v L' ∧ v.ownBlock ≠ some (wj.heap.size + 1) ∧ BoxF wr (wj.heap.size + 1) ⟨fa, fb, x, y, t, k, ch, q⟩ ∧ S.size ≤ 16384 ∧ Hid (L' ++ (pieceF fa fb t k ch x (cutP n (sb S)) ++ REST) = ALL) ∧ Hid (Below (w.heap.size + 1) W1 wr)) (fun _ r _ => strN r)
      case atStart => exact ⟨L, p, ⟨#[]⟩, true, false, rfl, H6.out.2.2.1, H6.out.2.2.2, H6.out.2.1, hp, Lib.hid hAll, Lib.hid H6.out.1⟩
      case round =>
        obtain ⟨L', S, q, x, y, rfl, hO, hne, hF, hS, hAl, HB'⟩ := hrel
        rename World => wi
        obtain ⟨A7, c7, hv7, _, _⟩ := hO.form
        subst hv7
        obtain ⟨m, hm⟩ : ∃ m, m = min n S.size := ⟨_, rfl⟩
        have hmS : m ≤ S.size := by omega
        have hmI : (m : Int) ≤ (S.size : Int) := by omega
        have HM := Lib.hid hm
        go_upto_region 8 with fail
        go_cut [10] from 37 to 40 (fun z wx => z = .int .i64 m ∧ wx = wi)
        case first =>
          have hmin : min (n : Int) (S.size : Int) = (m : Int) := by rw [hm]; omega
          have HMIN := Lib.hid hmin
          clear hm hmin
          go_wp2_with fail
          all_goals
            go_meet
            exact ⟨by rw [HMIN.out], rfl⟩
        case rest =>
          obtain ⟨rfl, hww⟩ := hcut
          rw [hww]
          clear hww hm
          go_upto_region 9 with fail
          have hFd : BoxF wi.drew (wj.heap.size + 1) ⟨fa, fb, x, y, t, k, ch, q⟩ := hF
          have hex : (S.extract 0 m).size ≤ 140737488355328 := by
            have := congrArg List.length (sb_upto S m)
            rw [sb_length, List.length_take, sb_length] at this
            omega
          have HC := Lib.hid (fun w' => clone_any (S.extract 0 m) w' hex)
          go_cut [8, 9] from 41 to 48 (fun z r wx => z = .pointer (some ⟨wj.heap.size + 1, 0, none⟩) ∧ r = .string (S.extract m S.size) ∧ OwnG frC 51 wx (w.heap.size + 1) (.slice A7 L'.length c7) L' ∧ BoxF wx (wj.heap.size + 1) ⟨fa, fb, x, y, t, k, ch, S.extract 0 m⟩ ∧ Hid (Below (w.heap.size + 1) W1 wx))
          case first =>
            go_region_with ((go_at_call 51
                             refine (HC.out _).mono ?_
                             rintro e w7 ⟨rfl, hb7⟩
                             have hb7' : Below wi.heap.size wi w7 := ⟨hb7.os, hb7.tape, hb7.output, hb7.size, hb7.block⟩
                             have hF7 := hF.kept hb7' (Nat.le_refl _)
                             have z7 := hF7.c7
                             have fr7 := hF7.fr 7
                             have hO7 := hO.below hb7' (Nat.le_refl _)
                             have hB7 := HB'.out.trans (hb7'.mono (by have := HB'.out.size; have := HX.out.2.2; omega))
                             have H7 := Lib.hid (And.intro (hF7.set7 (S.extract 0 m)) (And.intro hO7 hB7))
                             clear hF7 hb7 hb7' hO7 hB7))
            all_goals
              go_wp2_with fail
              go_meet
              exact ⟨rfl, rfl, H7.out.2.1.keep fun g hg => Below.heap_setCell _ _ _ _ (fun e => hne (by rw [hg, e])), H7.out.1, Lib.hid (below_set H7.out.2.2 (by omega) _)⟩
          case rest =>
            obtain ⟨rfl, rfl, hO8, hF8, HB8⟩ := hcut
            rename World => w8
            have hLl : L'.length ≤ 20000 := by
              have := congrArg List.length hAl.out
              simp only [List.length_append] at this
              omega
            have hse : str8 ((sb S).take m) = S.extract 0 m := by rw [← sb_upto, str8_sb]
            have hsd : sb (S.extract m S.size) = (sb S).drop m := sb_from S m hmS
            have hsz8 : (S.extract m S.size).size = S.size - m := by rw [← sb_length, hsd, List.length_drop, sb_length]
            by_cases hbig : n < S.size
            · have hmn : m = n := by rw [HM.out]; omega
              have hm1 : 1 ≤ m := by omega
              have HAL2 := Lib.hid (show L' ++ [⟨fa, fb, x, false, t, k, ch, S.extract 0 m⟩] ++ (pieceF fa fb t k ch false (cutP n (sb (S.extract m S.size))) ++ REST) = ALL by
                have h1 := hAl.out
                rw [pieceF_more hn (by rw [sb_length]; exact hbig), ← hmn, hse, ← hsd, hmn] at h1
                rw [hmn]
                simpa using h1)
              have hn1 : ¬ (S.extract m S.size).toList = [] := fun e => by
                rw [sb_toList] at e
                have := congrArg List.length e
                rw [sb_length] at this
                simp at this
                omega
              have hn2 : (S.extract m S.size).toList.isEmpty = false := by
                rw [← Bool.not_eq_true, List.isEmpty_iff]
                exact hn1
              clear hmn hse hsd HM HC hex
              generalize S.extract 0 m = Q at *
              generalize S.extract m S.size = S2 at *
              have p3 := hF8.c3
              have pf := hF8.fr 3
              go_upto_region 11 with fail
              clear p3 pf
              have hF10 := hF8.set3 false
              have hO10 : OwnG frC 51 (w8.setCell ⟨wj.heap.size + 1, 3, none⟩ (.bool false)) _ _ _ := hO8.keep fun g hg => Below.heap_setCell _ _ _ _ (fun e => hne (by rw [hg, e]))
              have hB10 := below_set HB8.out (show w.heap.size + 1 ≤ wj.heap.size + 1 by omega) (.bool false) (j := 3)
              generalize w8.setCell ⟨wj.heap.size + 1, 3, none⟩ (.bool false) = W10 at *
              have v0 := hF10.c0
              have v1 := hF10.c1
              have v2 := hF10.c2
              have v3 := hF10.c3
              have v4 := hF10.c4
              have v5 := hF10.c5
              have v6 := hF10.c6
              have v7 := hF10.c7
              have hs10 := hB10.size
              have hw1 := HX.out.2.2
              simp only [] at v0 v1 v2 v3 v4 v5 v6 v7
              go_upto_region 12 with (at_builtin
                                      refine wpList_appendGW frC _ rfl (.tmp 52) (.tmp 54) 42 rfl (w.heap.size + 1) 51 (.agg #[.bool false, .bool false, .bool false, .bool false, .int .u8 0, .int .u8 0, .int .u16 0, .string ⟨#[]⟩]) 24 Tryz.underlying42 infoFr rfl (.slice A7 L'.length c7) L' rfl (hO10.alloc_ _) W10.heap.size (.slice (some ⟨W10.heap.size, 0, none⟩) 1 1) [⟨fa, fb, x, false, t, k, ch, Q⟩] rfl (ShowsG.lit (C := frC) [⟨fa, fb, x, false, t, k, ch, Q⟩] (by simp [Code.all, frC, Fr.vs]) (by simp [maxLen])) (by simp) (by simp; omega) (by simp; omega) (by simp; omega) ?_
                                      intro v9 w9 ho9 hg9 hwh9)
              have hbA := (hB10.alloc (by omega) (Obj.cells #[.bool fa, .bool fb, .bool x, .bool false, .int .u8 t, .int .u8 k, .int .u16 ch, .string Q] 51)).grown hg9 (by simp; omega) (fun q hq => (hO10.block q hq).1)
              have hF9 : BoxF w9 (wj.heap.size + 1) ⟨fa, fb, x, false, t, k, ch, Q⟩ := (hg9.block _ (by have := hF10.lt; simp; omega) (fun e => hne e.symm)).trans (hF10.kept (f_below_box W10 _) (Nat.le_refl _))
              have hne9 : v9.ownBlock ≠ some (wj.heap.size + 1) := fun e => by
                rcases hwh9 with h | h
                · exact hne (by rw [← h, e])
                · rw [h] at e
                  have := Option.some.inj e
                  have h10 := hF10.lt
                  rw [World.size_alloc] at this
                  omega
              have z3 := hF9.c3
              have z2 := hF9.c2
              have zf := hF9.fr 2
              clear v0 v1 v2 v3 v4 v5 v6 v7 hF10 hO10 hB10 hg9 hwh9
              have HF9 := Lib.hid (And.intro ho9 (And.intro hne9 (And.intro (hF9.set2 false) hbA)))
              clear hF9 ho9 hne9 hbA
              go_wp2_with fail
              go_roundw
              case rel => exact ⟨L' ++ [⟨fa, fb, x, false, t, k, ch, Q⟩], S2, Q, false, false, rfl, HF9.out.1.keep fun g hg => Below.heap_setCell _ _ _ _ (fun e => HF9.out.2.1 (by rw [hg, e])), HF9.out.2.1, HF9.out.2.2.1, by omega, HAL2, Lib.hid (below_set HF9.out.2.2.2 (by omega) _)⟩
              case measure => simp [strN]; omega
            · have hmn : m = S.size := by rw [HM.out]; omega
              have HAL2 := Lib.hid (show L' ++ [⟨fa, fb, x, true, t, k, ch, S.extract 0 m⟩] ++ REST = ALL by
                have h1 := hAl.out
                rw [pieceF_end (by rw [sb_length]; omega)] at h1
                have h2 : str8 (sb S) = S.extract 0 m := by rw [← hse, List.take_of_length_le (by rw [sb_length]; omega)]
                rw [h2] at h1
                simpa using h1)
              have hn1 : S.extract m S.size = ⟨#[]⟩ := by
                rw [← str8_sb (S.extract m S.size), hsd, List.drop_of_length_le (by rw [sb_length]; omega)]
                rfl
              clear hmn hse hsd HM hsz8 HC hex
              rw [hn1]
              clear hn1
              generalize S.extract 0 m = Q at *
              have p3 := hF8.c3
              have pf := hF8.fr 3
              go_upto_region 11 with fail
              clear p3 pf
              have hF10 := hF8.set3 true
              have hO10 : OwnG frC 51 (w8.setCell ⟨wj.heap.size + 1, 3, none⟩ (.bool true)) _ _ _ := hO8.keep fun g hg => Below.heap_setCell _ _ _ _ (fun e => hne (by rw [hg, e]))
              have hB10 := below_set HB8.out (show w.heap.size + 1 ≤ wj.heap.size + 1 by omega) (.bool true) (j := 3)
              generalize w8.setCell ⟨wj.heap.size + 1, 3, none⟩ (.bool true) = W10 at *
              have v0 := hF10.c0
              have v1 := hF10.c1
              have v2 := hF10.c2
              have v3 := hF10.c3
              have v4 := hF10.c4
              have v5 := hF10.c5
              have v6 := hF10.c6
              have v7 := hF10.c7
              have hs10 := hB10.size
              have hw1 := HX.out.2.2
              simp only [] at v0 v1 v2 v3 v4 v5 v6 v7
              go_upto_region 12 with (at_builtin
                                      refine wpList_appendGW frC _ rfl (.tmp 52) (.tmp 54) 42 rfl (w.heap.size + 1) 51 (.agg #[.bool false, .bool false, .bool false, .bool false, .int .u8 0, .int .u8 0, .int .u16 0, .string ⟨#[]⟩]) 24 Tryz.underlying42 infoFr rfl (.slice A7 L'.length c7) L' rfl (hO10.alloc_ _) W10.heap.size (.slice (some ⟨W10.heap.size, 0, none⟩) 1 1) [⟨fa, fb, x, true, t, k, ch, Q⟩] rfl (ShowsG.lit (C := frC) [⟨fa, fb, x, true, t, k, ch, Q⟩] (by simp [Code.all, frC, Fr.vs]) (by simp [maxLen])) (by simp) (by simp; omega) (by simp; omega) (by simp; omega) ?_
                                      intro v9 w9 ho9 hg9 hwh9)
              have hbA := (hB10.alloc (by omega) (Obj.cells #[.bool fa, .bool fb, .bool x, .bool true, .int .u8 t, .int .u8 k, .int .u16 ch, .string Q] 51)).grown hg9 (by simp; omega) (fun q hq => (hO10.block q hq).1)
              have hF9 : BoxF w9 (wj.heap.size + 1) ⟨fa, fb, x, true, t, k, ch, Q⟩ := (hg9.block _ (by have := hF10.lt; simp; omega) (fun e => hne e.symm)).trans (hF10.kept (f_below_box W10 _) (Nat.le_refl _))
              have hne9 : v9.ownBlock ≠ some (wj.heap.size + 1) := fun e => by
                rcases hwh9 with h | h
                · exact hne (by rw [← h, e])
                · rw [h] at e
                  have := Option.some.inj e
                  have h10 := hF10.lt
                  rw [World.size_alloc] at this
                  omega
              have z3 := hF9.c3
              have z2 := hF9.c2
              have zf := hF9.fr 2
              clear v0 v1 v2 v3 v4 v5 v6 v7 hF10 hO10 hB10 hg9 hwh9
              clear z2 zf
              have HF9 := Lib.hid (And.intro ho9 hbA)
              clear hF9 ho9 hne9 hbA
              go_wp2_with fail
              go_roundw
              case rel => exact ⟨j + 1, L' ++ [⟨fa, fb, x, true, t, k, ch, Q⟩], by omega, by go_num, HF9.out.1, by rw [HRE.out]; exact HAL2.out, Lib.hid HF9.out.2⟩
              case measure => first | omega | (simp [intOf] <;> omega)
    · have hjl : ¬ (j : Int) < (l.length : Int) := by omega
      have hfin : L = ALL := by
        rw [List.drop_of_length_le (by omega)] at hAll
        simpa [framesD] using hAll
      subst hfin
      go_wp2_with fail
      go_ret
      exact ⟨_, rfl, hO.mono (by omega), HX.out.2.1.trans (HB.out.mono (by omega))⟩

end Go.Proofs.YtdjahdnaihijjaaGreatDoor
