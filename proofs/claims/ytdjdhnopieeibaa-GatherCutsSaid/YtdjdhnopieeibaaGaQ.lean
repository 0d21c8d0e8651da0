/-
  The contract of the document's own Check for assemblies.
  Conditions: none but sizes.
-/
import Derived.Test.YtdjdhnopieeibaaGaK
namespace Go.Proofs.Ytdjdhnopieeibaa
open Go.RowKit
set_option linter.unusedVariables false
set_option linter.unusedSimpArgs false

theorem checkA_many {k : Nat} {l : List Sg} (h : 3 < l.length) : checkA k l = 70 := by
  refine checkA_no fun h0 => ?_
  have := types_three (checkA_zero h0).1
  omega
theorem checkA_great {k : Nat} {l : List Sg} (h : 16384 < sumS l) : checkA k l = 70 := by
  refine checkA_no fun h0 => ?_
  have := (checkA_zero h0).2
  omega
theorem checkA_none {k : Nat} {l : List Sg} (h : l.length = 0) : checkA k l = 70 := by
  have : l = [] := List.eq_nil_of_length_eq_zero h
  subst this
  simp [checkA, typesD]
theorem checkA_one {k : Nat} {l : List Sg} (h : l.length = 1) (hs : sumS l ≤ 16384) : checkA k l = if (k = 0 ∧ (l[0]'(by omega)).t = 0) ∨ (k = 1 ∧ (l[0]'(by omega)).t = 1) then 0 else 70 := by
  match l, h with
  | [a], _ =>
    simp only [checkA, typesD, firstD, hs, and_true, List.getElem_cons_zero]
    congr 1
    by_cases h0 : k = 0
    · subst h0; simp
    · by_cases h1 : k = 1
      · subst h1; simp [risesD]
      · simp [h0, h1]
theorem checkA_two {k : Nat} {l : List Sg} (h : l.length = 2) (hs : sumS l ≤ 16384) : checkA k l = if k = 1 ∧ (l[0]'(by omega)).t = 1 ∧ ((l[1]'(by omega)).t = 2 ∨ (l[1]'(by omega)).t = 3) then 0 else 70 := by
  match l, h with
  | [a, b], _ =>
    simp only [checkA, typesD, firstD, hs, and_true, List.getElem_cons_zero, List.getElem_cons_succ]
    congr 1
    by_cases h0 : k = 0
    · subst h0; simp
    · by_cases h1 : k = 1
      · subst h1
        simp [risesD]
        intro ha
        omega
      · simp [h0, h1]
theorem checkA_three {k : Nat} {l : List Sg} (h : l.length = 3) (hs : sumS l ≤ 16384) : checkA k l = if k = 1 ∧ (l[0]'(by omega)).t = 1 ∧ (l[1]'(by omega)).t = 2 ∧ (l[2]'(by omega)).t = 3 then 0 else 70 := by
  match l, h with
  | [a, b, c], _ =>
    simp only [checkA, typesD, firstD, hs, and_true, List.getElem_cons_zero, List.getElem_cons_succ]
    congr 1
    by_cases h0 : k = 0
    · subst h0; simp
    · by_cases h1 : k = 1
      · subst h1
        simp [risesD]
        intro ha
        omega
      · simp [h0, h1]

set_option maxRecDepth 100000 in
set_option maxHeartbeats 8000000 in
theorem qgcheck_any (ch k : Nat) (A : Option Addr) (c d : Nat) (l : List Sg) (w : World) (h : ShowsG sgC w d (.slice A l.length c) l) (hl : l.length ≤ 17592186044416) (hz : ∀ s ∈ l, s.p.size ≤ 140737488351232) :
    Calls Try.prog 24 #[asV ch k (.slice A l.length c)] w fun e w' => e = .returned (.int .i64 (checkA k l)) ∧ Below w.heap.size w w' := by
  obtain ⟨_, hlc, hcm⟩ := h.lens
  have hX := BoxA.new w ch k (.slice A l.length c)
  have hb0 := below_box w (Obj.cells #[.int .u16 ch, .int .u8 k, .slice A l.length c] 52)
  have HS := Lib.hid (h.below' hb0 (Nat.le_refl _))
  have HZ := Lib.hid hz
  have HB := Lib.hid hb0
  have x1 := hX.c1
  have x2 := hX.c2
  obtain ⟨R, hR⟩ : ∃ R, R = checkA k l := ⟨_, rfl⟩
  rw [← hR]
  have HR := Lib.hid hR
  unfold asV
  generalize hW1 : w.alloc (Obj.cells #[.int .u16 ch, .int .u8 k, .slice A l.length c] 52) = W1 at *
  have HW := Lib.hid hW1
  clear h hX hb0 hR hW1 hz
  go_enter Try.func24, Try.ntmps24
  go_upto_region 1 with fail
  rw [HW.out]
  clear HW
  go_wp2_with fail
  go_loopw [3, 4] (fun x i wr => ∃ j n : Nat, j ≤ l.length ∧ i = .int .i64 j ∧ x = .int .i64 n ∧ Hid (sumS (l.take j) = n) ∧ n ≤ 16384 ∧ wr = W1) (fun _ i _ => l.length - (intOf i).toNat)
  case atStart => exact ⟨0, 0, Nat.zero_le _, rfl, rfl, Lib.hid (by simp [sumS]), by omega, rfl⟩
  case round =>
    obtain ⟨j, n, hj, rfl, rfl, hsum, hn, rfl⟩ := hrel
    by_cases hlt : j < l.length
    · have hjl : (j : Int) < (l.length : Int) := by omega
      have hzj := HZ.out _ (List.getElem_mem hlt)
      obtain ⟨o, rfl, hd, hcl⟩ := HS.out.at_ (by omega)
      obtain ⟨y0, y1⟩ := sg_cell hcl hlt
      have HT := Lib.hid (sumS_take l j hlt)
      have HL := Lib.hid (sumS_le l (j + 1))
      clear hcl
      generalize l[j] = s at *
      obtain ⟨st, sp⟩ := s
      simp only [] at *
      obtain ⟨m, hm⟩ : ∃ m : Nat, m = n + sp.size := ⟨_, rfl⟩
      have e0 : (n : Int) + (sp.size : Int) = (m : Int) := by omega
      have E2 := Lib.hid (show wrap64 ((n : Int) + (sp.size : Int)) = (m : Int) ∧ IntKind.i64.wrap ((n : Int) + (sp.size : Int)) = (m : Int) by rw [e0]; exact ⟨w64_id _ (by omega) (by omega), i64_id _ (by omega) (by omega)⟩)
      have HN := Lib.hid (show sumS (l.take (j + 1)) = m by have h1 := HT.out; have h3 := hsum.out; omega)
      obtain ⟨r, hr⟩ : ∃ r : Nat, r = 16384 - n := ⟨_, rfl⟩
      have e4 : (16384 : Int) - (n : Int) = (r : Int) := by omega
      have W12 := Lib.hid (show wrap64 (16384 - (n : Int)) = (r : Int) ∧ IntKind.i64.wrap (16384 - (n : Int)) = (r : Int) by rw [e4]; exact ⟨w64_id _ (by omega) (by omega), i64_id _ (by omega) (by omega)⟩)
      have HRN := Lib.hid (show r + n = 16384 by omega)
      have HM := Lib.hid hm
      clear hr e4 e0 hm
      by_cases hbig : r < sp.size
      · have hb : (r : Int) < (sp.size : Int) := by omega
        have hfin : R = 70 := HR.out.trans (checkA_great (by have h1 := HT.out; have h2 := HL.out; have h3 := hsum.out; have h4 := HRN.out; omega))
        obtain ⟨w1, w2⟩ := W12.out
        go_wp2_with fail
        go_ret
        exact ⟨by first | rfl | (rw [hfin]; rfl), HB.out⟩
      · have hb : ¬ (r : Int) < (sp.size : Int) := by omega
        have hm2 : m ≤ 16384 := by have h4 := HRN.out; have h5 := HM.out; omega
        obtain ⟨w1, w2⟩ := W12.out
        obtain ⟨e2, e3⟩ := E2.out
        go_wp2_with fail
        go_roundw
        case rel => exact ⟨j + 1, m, by omega, by go_num, rfl, HN, hm2, by first | trivial | rfl⟩
        case measure => simp [intOf]; omega
    · have hjl : ¬ (j : Int) < (l.length : Int) := by omega
      have hs : sumS l ≤ 16384 := by
        have := hsum.out
        rw [List.take_of_length_le (by omega)] at this
        omega

      by_cases hn0 : l.length = 0
      · have hfin : R = 70 := HR.out.trans (checkA_none hn0)
        have n0 : (l.length : Int) < 1 := by omega
        have n1 : ((l.length : Int) == 1) = false := by rw [beq_eq_false_iff_ne]; omega
        have n2 : ((l.length : Int) == 2) = false := by rw [beq_eq_false_iff_ne]; omega
        have n3 : ((l.length : Int) == 3) = false := by rw [beq_eq_false_iff_ne]; omega
        have n4 : ¬ (3 : Int) < (l.length : Int) := by omega
        by_cases hk0 : k = 0
        · have k1 : ((k : Int) == 0) = true := by rw [beq_iff_eq]; omega
          have k2 : ((k : Int) != 1) = true := by simp; omega
          clear hk0 hn0
          have HFIN := Lib.hid hfin
          clear hfin
          go_wp2_with fail
          go_ret
          exact ⟨by first | rfl | (rw [HFIN.out]; rfl), HB.out⟩
        · by_cases hk1 : k = 1
          · have k1 : ((k : Int) == 0) = false := by rw [beq_eq_false_iff_ne]; omega
            have k2 : ((k : Int) != 1) = false := by simp; omega
            clear hk0 hk1 hn0
            have HFIN := Lib.hid hfin
            clear hfin
            go_wp2_with fail
            go_ret
            exact ⟨by first | rfl | (rw [HFIN.out]; rfl), HB.out⟩
          · have k1 : ((k : Int) == 0) = false := by rw [beq_eq_false_iff_ne]; omega
            have k2 : ((k : Int) != 1) = true := by simp; omega
            clear hk0 hk1 hn0
            have HFIN := Lib.hid hfin
            clear hfin
            go_wp2_with fail
            go_ret
            exact ⟨by first | rfl | (rw [HFIN.out]; rfl), HB.out⟩
      · obtain ⟨o, rfl, hd, hcl⟩ := HS.out.at_ (by omega)
        have y0 := (sg_cell hcl (show 0 < l.length by omega)).1
        rw [Nat.zero_mul, Nat.add_zero] at y0
        by_cases hn4 : 3 < l.length
        · have hfin : R = 70 := HR.out.trans (checkA_many hn4)
          have n0 : ¬ (l.length : Int) < 1 := by omega
          have n1 : ((l.length : Int) == 1) = false := by rw [beq_eq_false_iff_ne]; omega
          have n2 : ((l.length : Int) == 2) = false := by rw [beq_eq_false_iff_ne]; omega
          have n3 : ((l.length : Int) == 3) = false := by rw [beq_eq_false_iff_ne]; omega
          have n4 : (3 : Int) < (l.length : Int) := by omega
          have p0 : (0 : Int) < (l.length : Int) := by omega
          have p1 : (1 : Int) < (l.length : Int) := by omega
          have p2 : (2 : Int) < (l.length : Int) := by omega
          clear hcl
          generalize (l[0]'(by omega)).t = t0 at *
          by_cases hk0 : k = 0
          · have k1 : ((k : Int) == 0) = true := by rw [beq_iff_eq]; omega
            have k2 : ((k : Int) != 1) = true := by simp; omega
            clear hk0 hn0 hn4
            have HFIN := Lib.hid hfin
            clear hfin
            go_wp2_with fail
            go_ret
            exact ⟨by first | rfl | (rw [HFIN.out]; rfl), HB.out⟩
          · by_cases hk1 : k = 1
            · have k1 : ((k : Int) == 0) = false := by rw [beq_eq_false_iff_ne]; omega
              have k2 : ((k : Int) != 1) = false := by simp; omega
              clear hk0 hk1 hn0 hn4
              have HFIN := Lib.hid hfin
              clear hfin
              go_wp2_with fail
              go_ret
              exact ⟨by first | rfl | (rw [HFIN.out]; rfl), HB.out⟩
            · have k1 : ((k : Int) == 0) = false := by rw [beq_eq_false_iff_ne]; omega
              have k2 : ((k : Int) != 1) = true := by simp; omega
              clear hk0 hk1 hn0 hn4
              have HFIN := Lib.hid hfin
              clear hfin
              go_wp2_with fail
              go_ret
              exact ⟨by first | rfl | (rw [HFIN.out]; rfl), HB.out⟩
        · by_cases hn1 : l.length = 1
          · have hone := HR.out.trans (checkA_one hn1 hs)
            have n0 : ¬ (l.length : Int) < 1 := by omega
            have n1 : ((l.length : Int) == 1) = true := by rw [beq_iff_eq]; omega
            have n2 : ((l.length : Int) == 2) = false := by rw [beq_eq_false_iff_ne]; omega
            have n3 : ((l.length : Int) == 3) = false := by rw [beq_eq_false_iff_ne]; omega
            have n4 : ¬ (3 : Int) < (l.length : Int) := by omega
            have p0 : (0 : Int) < (l.length : Int) := by omega
            clear hcl
            generalize (l[0]'(by omega)).t = t0 at *
            by_cases hk0 : k = 0
            · have k1 : ((k : Int) == 0) = true := by rw [beq_iff_eq]; omega
              have k2 : ((k : Int) != 1) = true := by simp; omega
              by_cases ht : t0 = 0
              · have u0 : ((t0 : Int) == 0) = true := by rw [beq_iff_eq]; omega
                have u0' : ((t0 : Int) != 0) = false := by simp; omega
                have hfin : R = 0 := hone.trans (if_pos (.inl ⟨hk0, ht⟩))
                clear hk0 ht hone hn0 hn1 hn4
                have HFIN := Lib.hid hfin
                clear hfin
                go_wp2_with fail
                go_ret
                exact ⟨by first | rfl | (rw [HFIN.out]; rfl), HB.out⟩
              · have u0 : ((t0 : Int) == 0) = false := by rw [beq_eq_false_iff_ne]; omega
                have u0' : ((t0 : Int) != 0) = true := by simp; omega
                have hfin : R = 70 := hone.trans (if_neg (by omega))
                clear hk0 ht hone hn0 hn1 hn4
                have HFIN := Lib.hid hfin
                clear hfin
                go_wp2_with fail
                go_ret
                exact ⟨by first | rfl | (rw [HFIN.out]; rfl), HB.out⟩
            · by_cases hk1 : k = 1
              · have k1 : ((k : Int) == 0) = false := by rw [beq_eq_false_iff_ne]; omega
                have k2 : ((k : Int) != 1) = false := by simp; omega
                by_cases ht : t0 = 1
                · have u1 : ((t0 : Int) == 1) = true := by rw [beq_iff_eq]; omega
                  have u1' : ((t0 : Int) != 1) = false := by simp; omega
                  have hfin : R = 0 := hone.trans (if_pos (.inr ⟨hk1, ht⟩))
                  clear hk0 hk1 ht hone hn0 hn1 hn4
                  have HFIN := Lib.hid hfin
                  clear hfin
                  go_wp2_with fail
                  go_ret
                  exact ⟨by first | rfl | (rw [HFIN.out]; rfl), HB.out⟩
                · have u1 : ((t0 : Int) == 1) = false := by rw [beq_eq_false_iff_ne]; omega
                  have u1' : ((t0 : Int) != 1) = true := by simp; omega
                  have hfin : R = 70 := hone.trans (if_neg (by omega))
                  clear hk0 hk1 ht hone hn0 hn1 hn4
                  have HFIN := Lib.hid hfin
                  clear hfin
                  go_wp2_with fail
                  go_ret
                  exact ⟨by first | rfl | (rw [HFIN.out]; rfl), HB.out⟩
              · have k1 : ((k : Int) == 0) = false := by rw [beq_eq_false_iff_ne]; omega
                have k2 : ((k : Int) != 1) = true := by simp; omega
                have hfin : R = 70 := hone.trans (if_neg (by omega))
                clear hk0 hk1 hone hn0 hn1 hn4
                have HFIN := Lib.hid hfin
                clear hfin
                go_wp2_with fail
                go_ret
                exact ⟨by first | rfl | (rw [HFIN.out]; rfl), HB.out⟩
          · have y2 := (sg_cell hcl (show 1 < l.length by omega)).1
            rw [Nat.one_mul] at y2
            by_cases hn2 : l.length = 2
            · have htwo := HR.out.trans (checkA_two hn2 hs)
              have n0 : ¬ (l.length : Int) < 1 := by omega
              have n1 : ((l.length : Int) == 1) = false := by rw [beq_eq_false_iff_ne]; omega
              have n2 : ((l.length : Int) == 2) = true := by rw [beq_iff_eq]; omega
              have n3 : ((l.length : Int) == 3) = false := by rw [beq_eq_false_iff_ne]; omega
              have n4 : ¬ (3 : Int) < (l.length : Int) := by omega
              have p0 : (0 : Int) < (l.length : Int) := by omega
              have p1 : (1 : Int) < (l.length : Int) := by omega
              clear hcl
              generalize (l[0]'(by omega)).t = t0 at *
              generalize (l[1]'(by omega)).t = t1 at *
              by_cases hk0 : k = 0
              · have k1 : ((k : Int) == 0) = true := by rw [beq_iff_eq]; omega
                have k2 : ((k : Int) != 1) = true := by simp; omega
                have hfin : R = 70 := htwo.trans (if_neg (by omega))
                clear hn0 hn1 hn2 hn4 htwo hk0
                have HFIN := Lib.hid hfin
                clear hfin
                go_wp2_with fail
                go_ret
                exact ⟨by first | rfl | (rw [HFIN.out]; rfl), HB.out⟩
              · by_cases hk1 : k = 1
                · have k1 : ((k : Int) == 0) = false := by rw [beq_eq_false_iff_ne]; omega
                  have k2 : ((k : Int) != 1) = false := by simp; omega
                  by_cases ht : t0 = 1
                  · have u1 : ((t0 : Int) == 1) = true := by rw [beq_iff_eq]; omega
                    have u1' : ((t0 : Int) != 1) = false := by simp; omega
                    by_cases hb : t1 = 2
                    · have v2 : ((t1 : Int) == 2) = true := by rw [beq_iff_eq]; omega
                      have v2' : ((t1 : Int) != 2) = false := by simp; omega
                      have hfin : R = 0 := htwo.trans (if_pos ⟨hk1, ht, .inl hb⟩)
                      clear hn0 hn1 hn2 hn4 htwo hk0 hk1 ht hb
                      have HFIN := Lib.hid hfin
                      clear hfin
                      go_wp2_with fail
                      go_ret
                      exact ⟨by first | rfl | (rw [HFIN.out]; rfl), HB.out⟩
                    · by_cases hc : t1 = 3
                      · have v2 : ((t1 : Int) == 2) = false := by rw [beq_eq_false_iff_ne]; omega
                        have v2' : ((t1 : Int) != 2) = true := by simp; omega
                        have v3 : ((t1 : Int) == 3) = true := by rw [beq_iff_eq]; omega
                        have v3' : ((t1 : Int) != 3) = false := by simp; omega
                        have hfin : R = 0 := htwo.trans (if_pos ⟨hk1, ht, .inr hc⟩)
                        clear hn0 hn1 hn2 hn4 htwo hk0 hk1 ht hb hc
                        have HFIN := Lib.hid hfin
                        clear hfin
                        go_wp2_with fail
                        go_ret
                        exact ⟨by first | rfl | (rw [HFIN.out]; rfl), HB.out⟩
                      · have v2 : ((t1 : Int) == 2) = false := by rw [beq_eq_false_iff_ne]; omega
                        have v2' : ((t1 : Int) != 2) = true := by simp; omega
                        have v3 : ((t1 : Int) == 3) = false := by rw [beq_eq_false_iff_ne]; omega
                        have v3' : ((t1 : Int) != 3) = true := by simp; omega
                        have hfin : R = 70 := htwo.trans (if_neg (by omega))
                        clear hn0 hn1 hn2 hn4 htwo hk0 hk1 ht hb hc
                        have HFIN := Lib.hid hfin
                        clear hfin
                        go_wp2_with fail
                        go_ret
                        exact ⟨by first | rfl | (rw [HFIN.out]; rfl), HB.out⟩
                  · have u1 : ((t0 : Int) == 1) = false := by rw [beq_eq_false_iff_ne]; omega
                    have u1' : ((t0 : Int) != 1) = true := by simp; omega
                    have hfin : R = 70 := htwo.trans (if_neg (by omega))
                    clear hn0 hn1 hn2 hn4 htwo hk0 hk1 ht
                    have HFIN := Lib.hid hfin
                    clear hfin
                    go_wp2_with fail
                    go_ret
                    exact ⟨by first | rfl | (rw [HFIN.out]; rfl), HB.out⟩
                · have k1 : ((k : Int) == 0) = false := by rw [beq_eq_false_iff_ne]; omega
                  have k2 : ((k : Int) != 1) = true := by simp; omega
                  have hfin : R = 70 := htwo.trans (if_neg (by omega))
                  clear hn0 hn1 hn2 hn4 htwo hk0 hk1
                  have HFIN := Lib.hid hfin
                  clear hfin
                  go_wp2_with fail
                  go_ret
                  exact ⟨by first | rfl | (rw [HFIN.out]; rfl), HB.out⟩
            · have hn3 : l.length = 3 := by omega
              have y4 := (sg_cell hcl (show 2 < l.length by omega)).1
              have htwo := HR.out.trans (checkA_three hn3 hs)
              have n0 : ¬ (l.length : Int) < 1 := by omega
              have n1 : ((l.length : Int) == 1) = false := by rw [beq_eq_false_iff_ne]; omega
              have n2 : ((l.length : Int) == 2) = false := by rw [beq_eq_false_iff_ne]; omega
              have n3 : ((l.length : Int) == 3) = true := by rw [beq_iff_eq]; omega
              have n4 : ¬ (3 : Int) < (l.length : Int) := by omega
              have p0 : (0 : Int) < (l.length : Int) := by omega
              have p1 : (1 : Int) < (l.length : Int) := by omega
              have p2 : (2 : Int) < (l.length : Int) := by omega
              clear hcl
              generalize (l[0]'(by omega)).t = t0 at *
              generalize (l[1]'(by omega)).t = t1 at *
              generalize (l[2]'(by omega)).t = t2 at *
              by_cases hk0 : k = 0
              · have k1 : ((k : Int) == 0) = true := by rw [beq_iff_eq]; omega
                have k2 : ((k : Int) != 1) = true := by simp; omega
                have hfin : R = 70 := htwo.trans (if_neg (by omega))
                clear hn0 hn1 hn2 hn3 hn4 htwo hk0
                have HFIN := Lib.hid hfin
                clear hfin
                go_wp2_with fail
                go_ret
                exact ⟨by first | rfl | (rw [HFIN.out]; rfl), HB.out⟩
              · by_cases hk1 : k = 1
                · have k1 : ((k : Int) == 0) = false := by rw [beq_eq_false_iff_ne]; omega
                  have k2 : ((k : Int) != 1) = false := by simp; omega
                  by_cases ht : t0 = 1
                  · have u1 : ((t0 : Int) == 1) = true := by rw [beq_iff_eq]; omega
                    have u1' : ((t0 : Int) != 1) = false := by simp; omega
                    by_cases hb : t1 = 2
                    · have v2 : ((t1 : Int) == 2) = true := by rw [beq_iff_eq]; omega
                      have v2' : ((t1 : Int) != 2) = false := by simp; omega
                      by_cases hc : t2 = 3
                      · have q3 : ((t2 : Int) == 3) = true := by rw [beq_iff_eq]; omega
                        have q3' : ((t2 : Int) != 3) = false := by simp; omega
                        have hfin : R = 0 := htwo.trans (if_pos ⟨hk1, ht, hb, hc⟩)
                        clear hn0 hn1 hn2 hn3 hn4 htwo hk0 hk1 ht hb hc
                        have HFIN := Lib.hid hfin
                        clear hfin
                        go_wp2_with fail
                        go_ret
                        exact ⟨by first | rfl | (rw [HFIN.out]; rfl), HB.out⟩
                      · have q3 : ((t2 : Int) == 3) = false := by rw [beq_eq_false_iff_ne]; omega
                        have q3' : ((t2 : Int) != 3) = true := by simp; omega
                        have hfin : R = 70 := htwo.trans (if_neg (by omega))
                        clear hn0 hn1 hn2 hn3 hn4 htwo hk0 hk1 ht hb hc
                        have HFIN := Lib.hid hfin
                        clear hfin
                        go_wp2_with fail
                        go_ret
                        exact ⟨by first | rfl | (rw [HFIN.out]; rfl), HB.out⟩
                    · have v2 : ((t1 : Int) == 2) = false := by rw [beq_eq_false_iff_ne]; omega
                      have v2' : ((t1 : Int) != 2) = true := by simp; omega
                      have hfin : R = 70 := htwo.trans (if_neg (by omega))
                      clear hn0 hn1 hn2 hn3 hn4 htwo hk0 hk1 ht hb
                      have HFIN := Lib.hid hfin
                      clear hfin
                      go_wp2_with fail
                      go_ret
                      exact ⟨by first | rfl | (rw [HFIN.out]; rfl), HB.out⟩
                  · have u1 : ((t0 : Int) == 1) = false := by rw [beq_eq_false_iff_ne]; omega
                    have u1' : ((t0 : Int) != 1) = true := by simp; omega
                    have hfin : R = 70 := htwo.trans (if_neg (by omega))
                    clear hn0 hn1 hn2 hn3 hn4 htwo hk0 hk1 ht
                    have HFIN := Lib.hid hfin
                    clear hfin
                    go_wp2_with fail
                    go_ret
                    exact ⟨by first | rfl | (rw [HFIN.out]; rfl), HB.out⟩
                · have k1 : ((k : Int) == 0) = false := by rw [beq_eq_false_iff_ne]; omega
                  have k2 : ((k : Int) != 1) = true := by simp; omega
                  have hfin : R = 70 := htwo.trans (if_neg (by omega))
                  clear hn0 hn1 hn2 hn3 hn4 htwo hk0 hk1
                  have HFIN := Lib.hid hfin
                  clear hfin
                  go_wp2_with fail
                  go_ret
                  exact ⟨by first | rfl | (rw [HFIN.out]; rfl), HB.out⟩

end Go.Proofs.Ytdjdhnopieeibaa
