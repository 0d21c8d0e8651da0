/-
  The contracts of gather.isFirst, hasRightTypes, isTooLong and Check.
  Conditions: none but sizes.
-/
import Derived.Test.YtocankfabgjjmaaGaP
import Derived.Deep.CutBlock
import Derived.Deep.DeepCutAuto
namespace Go.Proofs.Ytocankfabgjjmaa
open Go.RowKit
set_option linter.unusedVariables false
set_option linter.unusedSimpArgs false

/-- How a segment lies: two cells. -/
def sgC : Code Sg := { enc := fun s => [.int .u8 s.t, .string s.p], sz := 2, len := fun _ => rfl, one := fun x u hu => by simp at hu; rcases hu with rfl | rfl <;> rfl, pos := by omega }

theorem sg_cell {w : World} {d o : Nat} {l : List Sg} (h : ∀ j (h : j < l.length) k, k < sgC.sz → w.cell? ⟨d, o + (j * sgC.sz + k), none⟩ = (sgC.enc l[j])[k]?) {k : Nat} (hk : k < l.length) :
    w.cell? ⟨d, o + k * 2, none⟩ = some (.int .u8 (l[k].t : Nat)) ∧ w.cell? ⟨d, o + k * 2 + 1, none⟩ = some (.string l[k].p) :=
  ⟨h k hk 0 (by decide), h k hk 1 (by decide)⟩

set_option maxRecDepth 100000 in
theorem first_any (t k : Nat) (w : World) : Calls Try.prog 25 #[.int .u8 t, .int .u8 k] w fun e w' => e = .returned (.bool (firstD t k)) ∧ w' = w := by
  unfold firstD
  by_cases h0 : k = 0
  · subst h0
    rw [if_pos rfl]
    have e1 : ((t : Int) == 0) = (t == 0) := by rw [Bool.eq_iff_iff]; simp
    have e2 : (((0 : Nat) : Int) == 0) = true := rfl
    go_enter Try.func25, Try.ntmps25
    go_wp2_with fail
    go_ret
    exact ⟨by rw [← e1]; rfl, rfl⟩
  · rw [if_neg h0]
    have e2 : ((k : Int) == 0) = false := by rw [beq_eq_false_iff_ne]; omega
    by_cases h1 : k = 1
    · subst h1
      rw [if_pos rfl]
      have e1 : ((t : Int) == 1) = (t == 1) := by rw [Bool.eq_iff_iff]; simp; omega
      go_enter Try.func25, Try.ntmps25
      go_wp2_with fail
      go_ret
      exact ⟨by rw [← e1]; rfl, rfl⟩
    · rw [if_neg h1]
      have e3 : ((k : Int) == 1) = false := by rw [beq_eq_false_iff_ne]; omega
      have h0' : ¬ (k : Int) = 0 := by omega
      have h1' : ¬ (k : Int) = 1 := by omega
      go_enter Try.func25, Try.ntmps25
      go_wp2_with fail
      go_ret
      exact ⟨rfl, rfl⟩

theorem sumS_take : ∀ (l : List Sg) (k : Nat) (h : k < l.length), sumS (l.take (k + 1)) = sumS (l.take k) + l[k].p.size
  | s :: r, 0, _ => by simp [sumS]
  | s :: r, k + 1, h => by
    have := sumS_take r k (by simpa using h)
    simp only [List.take_succ_cons, sumS, List.getElem_cons_succ]
    omega
theorem sumS_le : ∀ (l : List Sg) (k : Nat), sumS (l.take k) ≤ sumS l
  | [], k => by simp
  | s :: r, 0 => by simp [sumS]
  | s :: r, k + 1 => by
    have := sumS_le r k
    simp only [List.take_succ_cons, sumS]
    omega

set_option maxRecDepth 100000 in
set_option maxHeartbeats 2000000 in
theorem long_any (A : Option Addr) (c d : Nat) (l : List Sg) (w : World) (h : ShowsG sgC w d (.slice A l.length c) l) (hl : l.length ≤ 17592186044416) (hz : ∀ s ∈ l, s.p.size ≤ 140737488351232) :
    Calls Try.prog 21 #[.slice A l.length c] w fun e w' => e = .returned (.bool (decide (16384 < sumS l))) ∧ Below w.heap.size w w' := by
  obtain ⟨_, hlc, hcm⟩ := h.lens
  have HS := Lib.hid (fun w' (hb : Below w.heap.size w w') => h.below' hb (Nat.le_refl _))
  have HZ := Lib.hid hz
  clear h hz
  go_enter Try.func21, Try.ntmps21
  go_wp2_with fail
  go_loopw [3, 8] (fun x i wr => ∃ k n : Nat, k ≤ l.length ∧ i = .int .i64 k ∧ x = .int .i64 n ∧ Hid (sumS (l.take k) + n = 16384) ∧ Hid (Below w.heap.size w wr)) (fun _ i _ => l.length - (intOf i).toNat)
  case atStart => exact ⟨0, 16384, Nat.zero_le _, rfl, rfl, Lib.hid (by simp [sumS]), Lib.hid (Below.refl _ _)⟩
  case round =>
    obtain ⟨k, n, hk, rfl, rfl, hsum, HB⟩ := hrel
    rename World => wj
    have hn : n ≤ 16384 := by have := hsum.out; omega
    by_cases hlt : k < l.length
    · have hkl : (k : Int) < (l.length : Int) := by omega
      have hzk := HZ.out _ (List.getElem_mem hlt)
      obtain ⟨o, rfl, hdj, hcl⟩ := (HS.out wj HB.out).at_ (by omega)
      obtain ⟨x0, x1⟩ := sg_cell hcl hlt
      have HT := Lib.hid (sumS_take l k hlt)
      have HL := Lib.hid (sumS_le l (k + 1))
      have HBA := Lib.hid (fun o => HB.out.alloc HB.out.size o)
      clear hcl
      generalize l[k] = s at *
      obtain ⟨st, sp⟩ := s
      simp only [] at *
      by_cases hbig : n < sp.size
      · have hb : (n : Int) < (sp.size : Int) := by omega
        have hfin : decide (16384 < sumS l) = true := by
          have h1 := HT.out
          have h2 := HL.out
          have h3 := hsum.out
          simp only [decide_eq_true_eq]
          omega
        go_wp2_with fail
        go_ret
        exact ⟨by first | rfl | (rw [hfin]; rfl), HBA.out _⟩
      · have hb : ¬ (n : Int) < (sp.size : Int) := by omega
        obtain ⟨m, hm⟩ : ∃ m : Nat, m = n - sp.size := ⟨_, rfl⟩
        have e1 : (n : Int) - (sp.size : Int) = (m : Int) := by omega
        have e2 : wrap64 ((n : Int) - (sp.size : Int)) = (m : Int) := by rw [e1]; exact w64_id _ (by omega) (by omega)
        have e3 : IntKind.i64.wrap ((n : Int) - (sp.size : Int)) = (m : Int) := by rw [e1]; exact i64_id _ (by omega) (by omega)
        have HN := Lib.hid (show sumS (l.take (k + 1)) + m = 16384 by have h1 := HT.out; have h3 := hsum.out; omega)
        clear hm e1
        go_wp2_with fail
        go_roundw
        case rel => exact ⟨k + 1, m, by omega, by go_num, rfl, HN, Lib.hid (HBA.out _)⟩
        case measure => simp [intOf]; omega
    · have hkl : ¬ (k : Int) < (l.length : Int) := by omega
      have hfin : decide (16384 < sumS l) = false := by
        have h3 := hsum.out
        rw [List.take_of_length_le (by omega)] at h3
        simp only [decide_eq_false_iff_not]
        omega
      go_wp2_with fail
      go_ret
      exact ⟨by first | rfl | (rw [hfin]; rfl), HB.out⟩


theorem rises_iff : ∀ (r : List Sg) (x : Sg), risesD x.t r = true ↔ ∀ j (h : j < r.length), ((x :: r)[j]'(by simp; omega)).t < r[j].t ∧ r[j].t ≤ 3
  | [], x => by simp [risesD]
  | y :: r, x => by
    rw [risesD, Bool.and_eq_true, decide_eq_true_eq, rises_iff r y]
    constructor
    · rintro ⟨h1, h2⟩ j hj
      cases j with
      | zero => simpa using h1
      | succ j => simpa using h2 j (by simpa using hj)
    · intro h
      refine ⟨h 0 (by simp), fun j hj => ?_⟩
      exact h (j + 1) (by simpa using hj)

theorem types_iff {l : List Sg} (h0 : 0 < l.length) (k : Nat) (h1 : firstD l[0].t k = true) (hk : k ≠ 0) : typesD k l = true ↔ ∀ j (h : j + 1 < l.length), l[j].t < l[j + 1].t ∧ l[j + 1].t ≤ 3 := by
  cases l with
  | nil => simp at h0
  | cons x r =>
    simp only [List.getElem_cons_zero] at h1
    simp only [typesD, h1, Bool.true_and, if_neg hk]
    rw [rises_iff]
    constructor
    · intro h j hj
      exact h j (by simpa using hj)
    · intro h j hj
      exact h j (by simpa using hj)
theorem types_zero {l : List Sg} (h0 : 0 < l.length) (h1 : firstD l[0].t 0 = true) : typesD 0 l = (l.length == 1) := by
  cases l with
  | nil => simp at h0
  | cons x r =>
    simp only [List.getElem_cons_zero] at h1
    simp [typesD, h1]
    cases r <;> simp
theorem types_no {l : List Sg} (h0 : 0 < l.length) {k : Nat} (h1 : firstD l[0].t k = false) : typesD k l = false := by
  cases l with
  | nil => simp at h0
  | cons x r =>
    simp only [List.getElem_cons_zero] at h1
    simp [typesD, h1]

/-- An assembly as a value. -/
def asV (ch k : Nat) (v : Value) : Value := .agg #[.int .u16 ch, .int .u8 k, v]
/-- An assembly in a block of its own. -/
def BoxA (w : World) (b : Nat) (ch k : Nat) (v : Value) : Prop := w.heap[b]? = some (.cells #[.int .u16 ch, .int .u8 k, v] 34 (0, 0))
section
variable {w w' : World} {b B ch k : Nat} {v : Value}
theorem BoxA.new (w : World) (ch k : Nat) (v : Value) : BoxA (w.alloc (Obj.cells #[.int .u16 ch, .int .u8 k, v] 34)) w.heap.size ch k v := heap_alloc_new w _
theorem BoxA.lt (h : BoxA w b ch k v) : b < w.heap.size := (Array.getElem?_eq_some_iff.1 h).1
theorem BoxA.kept (h : BoxA w b ch k v) (hb : Below B w w') (hB : w.heap.size ≤ B) : BoxA w' b ch k v := (hb.block b (Nat.lt_of_lt_of_le h.lt hB)).trans h
theorem BoxA.c0 (h : BoxA w b ch k v) : w.cell? ⟨b, 0, none⟩ = some (.int .u16 ch) := by rw [cell_of_row w b _ _ 34 (0, 0) h]; rfl
theorem BoxA.c1 (h : BoxA w b ch k v) : w.cell? ⟨b, 1, none⟩ = some (.int .u8 k) := by rw [cell_of_row w b _ _ 34 (0, 0) h]; rfl
theorem BoxA.c2 (h : BoxA w b ch k v) : w.cell? ⟨b, 2, none⟩ = some v := by rw [cell_of_row w b _ _ 34 (0, 0) h]; rfl
end

set_option maxRecDepth 100000 in
set_option maxHeartbeats 2000000 in
theorem types_any (ch k : Nat) (A : Option Addr) (c d : Nat) (l : List Sg) (w : World) (h : ShowsG sgC w d (.slice A l.length c) l) (hl : l.length ≤ 17592186044416) :
    Calls Try.prog 20 #[asV ch k (.slice A l.length c)] w fun e w' => e = .returned (.bool (typesD k l)) ∧ Below w.heap.size w w' := by
  obtain ⟨_, hlc, hcm⟩ := h.lens
  unfold asV
  by_cases h0 : 0 < l.length
  · obtain ⟨o, rfl, hd, hcl⟩ := h.at_ h0
    obtain ⟨x0, x1⟩ := sg_cell hcl h0
    have hl0 : ((l.length : Int) == 0) = false := by rw [beq_eq_false_iff_ne]; omega
    have hl1 : (0 : Int) < (l.length : Int) := by omega
    have HF := Lib.hid (fun w => first_any l[0].t k w)
    by_cases h1 : firstD l[0].t k = true
    · rw [h1] at HF
      have hdo : ∀ (o' : Obj), (w.alloc o').cell? ⟨d, o, none⟩ = some (.int .u8 (l[0].t : Nat)) := fun o' => by
        rw [Nat.zero_mul, Nat.add_zero] at x0; rw [← x0]; exact (f_below_box w o').cell (p := ⟨d, _, none⟩) hd
      by_cases hk : k = 0
      · have hfin : typesD k l = (l.length == 1) := by subst hk; exact types_zero h0 h1
        have e1 : ((l.length : Int) == 1) = (l.length == 1) := by rw [Bool.eq_iff_iff]; simp; omega
        have e2 : ((k : Int) == 0) = true := by rw [beq_iff_eq]; omega
        have HE2 := Lib.hid e2
        clear e2
        rw [hfin, ← e1]
        clear hfin e1 h1 hcl x1 x0 hk
        generalize l[0] = s at *
        obtain ⟨st, sp⟩ := s
        simp only [] at *
        go_enter Try.func20, Try.ntmps20
        go_upto_region 2 with fail
        have y0 := hdo (Obj.cells #[.int .u16 ch, .int .u8 k, .slice (some ⟨d, o, none⟩) l.length c] 34)
        clear hdo
        go_quiet ((go_at_call 25; exact Calls.quiet_of_same (HF.out _)))
        have e2 := HE2.out
        go_wp2_with fail
        go_ret
        exact ⟨rfl, below_drewN (f_below_box _ _) _⟩
      · have e2 : ((k : Int) == 0) = false := by rw [beq_eq_false_iff_ne]; omega
        have HT := Lib.hid (types_iff h0 k h1 hk)
        have HSH := Lib.hid (fun w' (hb : Below w.heap.size w w') => h.below' hb (Nat.le_refl _))
        have HL := Lib.hid h0
        obtain ⟨m, hm⟩ : ∃ m, m = l.length - 1 := ⟨_, rfl⟩
        have HM := Lib.hid hm
        have hl1' : (1 : Int) ≤ (l.length : Int) := by omega
        have hlcI : (l.length : Int) ≤ (c : Int) := by omega
        by_cases hone : l.length = 1
        · have hfin : typesD k l = true := HT.out.2 fun j hj => by omega
          have hm0 : m = 0 := by omega
          have HM0 := Lib.hid hm0
          clear h1 hcl x1 x0 hk h hone hm0
          generalize l[0] = s at *
          obtain ⟨st, sp⟩ := s
          simp only [] at *
          go_enter Try.func20, Try.ntmps20
          go_upto_region 2 with fail
          have y0 := hdo (Obj.cells #[.int .u16 ch, .int .u8 k, .slice (some ⟨d, o, none⟩) l.length c] 34)
          clear hdo
          go_quiet ((go_at_call 25; exact Calls.quiet_of_same (HF.out _)))
          go_wp2_with fail
          all_goals
            rw [← hm, HM0.out]
            clear hm y0
            go_loopw [30] (fun i wr => i = .int .i64 0 ∧ Hid (Below w.heap.size w wr)) (fun i _ => 0)
            case atStart => exact ⟨rfl, Lib.hid (below_drewN (f_below_box w _) _)⟩
            case round =>
              obtain ⟨rfl, HB⟩ := hrel
              go_wp2_with fail
              go_ret
              exact ⟨by first | rfl | (rw [hfin]; rfl), HB.out⟩
        · have hc1 : ¬ c = 1 := by omega
          clear h1 hcl x1 x0 hk h hone
          generalize hg0 : l[0] = s at *
          clear hg0
          obtain ⟨st, sp⟩ := s
          simp only [] at *
          go_enter Try.func20, Try.ntmps20
          go_upto_region 2 with fail
          have y0 := hdo (Obj.cells #[.int .u16 ch, .int .u8 k, .slice (some ⟨d, o, none⟩) l.length c] 34)
          clear hdo
          go_quiet ((go_at_call 25; exact Calls.quiet_of_same (HF.out _)))
          go_wp2_with fail
          rw [← hm]
          have HB0 := Lib.hid (below_drewN (f_below_box w (Obj.cells #[.int .u16 ch, .int .u8 k, .slice (some ⟨d, o, none⟩) l.length c] 34)) nq)
          clear hm y0 hc1
          go_loopw [30] (fun i wr => ∃ j : Nat, j ≤ m ∧ i = .int .i64 j ∧ Hid (∀ q (h : q + 1 < l.length), q < j → l[q].t < l[q + 1].t ∧ l[q + 1].t ≤ 3) ∧ Hid (Below w.heap.size w wr)) (fun i _ => m - (intOf i).toNat)
          case atStart => exact ⟨0, Nat.zero_le _, rfl, Lib.hid (fun q _ hq => by omega), HB0⟩
          case round =>
            obtain ⟨j, hj, rfl, HQ, HB⟩ := hrel
            rename World => wj
            by_cases hlt : j < m
            · have hjm : (j : Int) < (m : Int) := by omega
              have hj1 : j + 1 < l.length := by have := HM.out; omega
              have hjl : (j : Int) < (l.length : Int) := by omega
              obtain ⟨o', e', hdj, hcl⟩ := (HSH.out wj HB.out).at_ (by omega)
              cases e'
              obtain ⟨x0, _⟩ := sg_cell hcl (show j < l.length by omega)
              obtain ⟨y0, y1⟩ := sg_cell hcl hj1
              rw [show o + (j + 1) * 2 = o + 2 + j * 2 by omega] at y0 y1
              have HBA := Lib.hid (fun o => HB.out.alloc HB.out.size o)
              have hz : ∀ o', (wj.alloc o').cell? ⟨d, o + j * 2, none⟩ = some (.int .u8 (l[j].t : Nat)) := fun o' => by
                rw [← x0]; exact (f_below_box wj o').cell (p := ⟨d, _, none⟩) hdj
              have HT0 := Lib.hid (fun (hb : ¬ (l[j].t < l[j + 1].t ∧ l[j + 1].t ≤ 3)) => show typesD k l = false by
                cases ht : typesD k l with
                | false => rfl
                | true => exact absurd (HT.out.1 ht j hj1) hb)
              have HQ1 := Lib.hid (fun (hb : l[j].t < l[j + 1].t ∧ l[j + 1].t ≤ 3) => show ∀ q (h : q + 1 < l.length), q < j + 1 → l[q].t < l[q + 1].t ∧ l[q + 1].t ≤ 3 by
                intro q hq hqj
                by_cases e : q = j
                · subst e; exact hb
                · exact HQ.out q hq (by omega))
              clear hcl HQ HL HM
              generalize l[j].t = ta at *
              generalize l[j + 1].t = tb at *
              generalize l[j + 1].p = pb at *
              by_cases ha : tb ≤ ta
              · have i1 : (tb : Int) ≤ (ta : Int) := by omega
                have i2 : decide ((tb : Int) ≤ (ta : Int)) = true := by simpa using i1
                have hfin := HT0.out (by omega)
                go_upto_region 9 with fail
                have z0 := hz (Obj.cells #[.int .u8 tb, .string pb] 46)
                clear hz
                go_quiet (fail)
                go_wp2_with fail
                go_ret
                exact ⟨by first | rfl | (rw [hfin]; rfl), below_drewN (HBA.out _) _⟩
              · have i1 : ¬ (tb : Int) ≤ (ta : Int) := by omega
                have i2 : decide ((tb : Int) ≤ (ta : Int)) = false := by simpa using i1
                by_cases hb : 3 < tb
                · have i3 : (3 : Int) < (tb : Int) := by omega
                  have hfin := HT0.out (by omega)
                  go_upto_region 9 with fail
                  have z0 := hz (Obj.cells #[.int .u8 tb, .string pb] 46)
                  clear hz
                  go_quiet (fail)
                  go_wp2_with fail
                  go_ret
                  exact ⟨by first | rfl | (rw [hfin]; rfl), below_drewN (HBA.out _) _⟩
                · have i3 : ¬ (3 : Int) < (tb : Int) := by omega
                  have HN := Lib.hid (HQ1.out (by omega))
                  go_upto_region 9 with fail
                  have z0 := hz (Obj.cells #[.int .u8 tb, .string pb] 46)
                  clear hz
                  go_quiet (fail)
                  go_wp2_with fail
                  go_roundw
                  case rel => exact ⟨j + 1, by omega, by go_num, HN, Lib.hid (below_drewN (HBA.out _) _)⟩
                  case measure => simp [intOf]; omega
            · have hjm : ¬ (j : Int) < (m : Int) := by omega
              have hfin : typesD k l = true := HT.out.2 fun q hq => HQ.out q hq (by have := HM.out; omega)
              go_wp2_with fail
              go_ret
              exact ⟨by first | rfl | (rw [hfin]; rfl), HB.out⟩
    · have h1f : firstD l[0].t k = false := by simpa using h1
      have hfin := types_no h0 h1f
      rw [h1f] at HF
      have hdo : ∀ (o' : Obj), (w.alloc o').cell? ⟨d, o, none⟩ = some (.int .u8 (l[0].t : Nat)) := fun o' => by
        rw [Nat.zero_mul, Nat.add_zero] at x0; rw [← x0]; exact (f_below_box w o').cell (p := ⟨d, _, none⟩) hd
      clear x0
      clear h1 h1f hcl x1
      generalize l[0] = s at *
      obtain ⟨st, sp⟩ := s
      simp only [] at *
      go_enter Try.func20, Try.ntmps20
      go_upto_region 2 with fail
      have y0 := hdo (Obj.cells #[.int .u16 ch, .int .u8 k, .slice (some ⟨d, o, none⟩) l.length c] 34)
      clear hdo
      go_quiet ((go_at_call 25; exact Calls.quiet_of_same (HF.out _)))
      go_wp2_with fail
      go_ret
      exact ⟨by first | rfl | (rw [hfin]; rfl), below_drewN (f_below_box _ _) _⟩
  · have hl0 : ((l.length : Int) == 0) = true := by rw [beq_iff_eq]; omega
    have : l = [] := List.eq_nil_of_length_eq_zero (by omega)
    subst this
    go_enter Try.func20, Try.ntmps20
    go_wp2_with fail
    go_quiet (fail)
    go_wp2_with fail
    go_ret
    exact ⟨rfl, below_drewN (f_below_box _ _) _⟩

set_option maxRecDepth 100000 in
set_option maxHeartbeats 2000000 in
theorem gcheck_any (ch k : Nat) (A : Option Addr) (c d : Nat) (l : List Sg) (w : World) (h : ShowsG sgC w d (.slice A l.length c) l) (hl : l.length ≤ 17592186044416) (hz : ∀ s ∈ l, s.p.size ≤ 140737488351232) :
    Calls Try.prog 12 #[asV ch k (.slice A l.length c)] w fun e w' => e = .returned (.int .i64 (checkA k l)) ∧ Below w.heap.size w w' := by
  have hb0 := f_below_box w (Obj.cells #[.int .u16 ch, .int .u8 k, .slice A l.length c] 34)
  have HT := Lib.hid (types_any ch k A c d l _ (h.below' hb0 (Nat.le_refl _)) hl)
  have HL := Lib.hid (fun w' (hb : Below w.heap.size w w') => long_any A c d l w' (h.below' hb (Nat.le_refl _)) hl hz)
  have HB0 := Lib.hid hb0
  clear h hb0 hz
  unfold checkA
  unfold asV at HT ⊢
  by_cases ht : typesD k l = true
  · rw [ht] at HT
    by_cases hs : sumS l ≤ 16384
    · rw [if_pos ⟨ht, hs⟩]
      have e1 : decide (16384 < sumS l) = false := by simp; omega
      rw [e1] at HL
      have HX := Lib.hid (BoxA.new w ch k (.slice A l.length c))
      clear ht hs e1
      go_enter Try.func12, Try.ntmps12
      go_wp2_with (first
        | (go_at_call 20
           refine HT.out.mono ?_
           rintro e w1 ⟨rfl, hb1⟩
           have z2 := (HX.out.kept hb1 (Nat.le_refl _)).c2
           have hb01 := HB0.out.trans (hb1.mono HB0.out.size))
        | (go_at_call 21
           refine (HL.out _ hb01).mono ?_
           rintro e w2 ⟨rfl, hb2⟩))
      go_ret
      exact ⟨rfl, hb01.trans (hb2.mono hb01.size)⟩
    · rw [if_neg (fun h => hs h.2)]
      have e1 : decide (16384 < sumS l) = true := by simp; omega
      rw [e1] at HL
      have HX := Lib.hid (BoxA.new w ch k (.slice A l.length c))
      clear ht hs e1
      go_enter Try.func12, Try.ntmps12
      go_wp2_with (first
        | (go_at_call 20
           refine HT.out.mono ?_
           rintro e w1 ⟨rfl, hb1⟩
           have z2 := (HX.out.kept hb1 (Nat.le_refl _)).c2
           have hb01 := HB0.out.trans (hb1.mono HB0.out.size))
        | (go_at_call 21
           refine (HL.out _ hb01).mono ?_
           rintro e w2 ⟨rfl, hb2⟩))
      go_ret
      exact ⟨rfl, hb01.trans (hb2.mono hb01.size)⟩
  · rw [if_neg (fun h => ht h.1)]
    have hf : typesD k l = false := by simpa using ht
    rw [hf] at HT
    clear ht hf HL
    go_enter Try.func12, Try.ntmps12
    go_wp2_with (go_at_call 20; refine HT.out.mono ?_; rintro e w1 ⟨rfl, hb1⟩)
    go_ret
    exact ⟨rfl, HB0.out.trans (hb1.mono HB0.out.size)⟩

end Go.Proofs.Ytocankfabgjjmaa
