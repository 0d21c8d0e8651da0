/-
  Texts, together: WqC, WqD.
  Conditions: none but sizes.
-/
import Derived.Test.YtpmafabphlejeaaGreatWqAZ
import Derived.Test.YtpmafabphlejeaaGreatEnQnZ
import Derived.Test.YtpmafabphlejeaaGreatWkHZ
/-
  The contracts of the document's put, ref, count, Check.
  Conditions: none but sizes.
-/
namespace Go.Proofs.YtpmafabphlejeaaGreat
open Go.RowKit
set_option linter.unusedVariables false
set_option linter.unusedSimpArgs false
set_option maxRecDepth 100000

noncomputable def putB0 (p : PutE) : Bool := decide (p.id = 0) && qmayB p
theorem putB0_iff (p : PutE) : putB0 p = true ↔ putMay false p := by
  have h := dput_iff (k := 4) (by decide) p
  have e : decide ((4 : Nat) = 3) = false := by decide
  rw [e] at h
  rw [← h]
  unfold putB0 dput
  simp
  exact and_comm
set_option maxHeartbeats 1000000 in
theorem qput17_any (c : PutC) (w : World) (h : PutAt w c) : Calls Tryz.prog 37 #[putV c] w fun e w' => e = .returned (.bool (putB0 c.e)) ∧ Below w.heap.size w w' := by
  have HM := Lib.hid (fun w' (hb : Below w.heap.size w w') => qmay_any c w' (h.kept hb (Nat.le_refl _)))
  unfold putB0
  have hX := BoxT.new (c := c) w
  have HB := Lib.hid (below_boxV w (Obj.cells #[.string c.e.q, .int .u64 c.e.id, .string c.e.p.key, .bool c.e.p.dur, .bool c.e.p.red, .string c.e.p.id, .int .u8 c.x.k, .int .u64 c.x.n, .string c.x.s, .slice c.x.a3 c.x.n3 c.x.c3, .slice c.x.a4 c.x.n4 c.x.c4, .string c.e.body] 35))
  obtain ⟨⟨e0, e1, e2, e3, e4, e5⟩, e6, e7, e8, e9, e10, e11⟩ := hX.cells
  generalize qmayB c.e = m at *
  unfold putV at *
  obtain ⟨b, hb⟩ : ∃ b, b = decide (c.e.id = 0) := ⟨_, rfl⟩
  rw [← hb]
  have t1 : ((c.e.id : Int) == 0) = b := by rw [hb, Bool.eq_iff_iff]; simp
  clear h hX hb
  cases b
  case false =>
    go_enter Tryz.func37, Tryz.ntmps37
    go_wp2_with fail
    go_ret
    exact ⟨rfl, HB.out⟩
  case true =>
    go_enter Tryz.func37, Tryz.ntmps37
    go_wp2_with fail
    refine (HM.out _ HB.out).mono ?_
    rintro e w1 ⟨rfl, hb1⟩
    have HB1 := Lib.hid (HB.out.trans (hb1.mono HB.out.size))
    clear hb1
    go_wp2_with fail
    go_ret
    exact ⟨by first | rfl | simp, HB1.out⟩
set_option maxHeartbeats 1000000 in
theorem qref17_any (r : RefE) (w : World) (h : RefAt r) : Calls Tryz.prog 40 #[refV r] w fun e w' => e = .returned (.bool (refMay r)) ∧ Below w.heap.size w w' := by
  have HQ := Lib.hid (fun w' => qqname_any r.q w' (by have := h.1; omega))
  have HI := Lib.hid (fun w' => qid_any r.id w')
  unfold refMay refV
  have hX := BoxR2.new w r
  have e0 := hX.c0
  have e1 := hX.c1
  have HB := Lib.hid (below_boxV w (Obj.cells #[.string r.q, .int .u64 r.id] 37))
  generalize qnOK r.q = a at *
  generalize msgOK r.id = b at *
  clear h hX
  cases a
  all_goals
    go_enter Tryz.func40, Tryz.ntmps40
    go_wp2_with (first
      | (go_at_call 65; refine (HQ.out _).mono ?_; rintro e w1 ⟨rfl, rfl⟩)
      | (go_at_call 66; refine (HI.out _).mono ?_; rintro e w1 ⟨rfl, rfl⟩))
    go_ret
    exact ⟨by first | rfl | simp, HB.out⟩
set_option maxHeartbeats 2000000 in
theorem qcount_any (A : Option Addr) (c : Nat) (rs : List RefE) (r : RefE) (w : World) (h : RowR w A c rs) (hn : rs.length ≤ 1000000) :
    Calls Tryz.prog 41 #[.slice A rs.length c, refV r] w fun e w' => e = .returned (.int .i64 (cntR rs r)) ∧ Below w.heap.size w w' := by
  unfold refV
  have HS := Lib.hid h
  have hX0 := BoxR2.new w r
  have hB0 := below_boxV w (Obj.cells #[.string r.q, .int .u64 r.id] 37)
  have HX := Lib.hid (fun w' (hb : Below (w.heap.size + 1) (w.alloc (Obj.cells #[.string r.q, .int .u64 r.id] 37)) w') => (hX0.kept hb (by simp)))
  have HB0 := Lib.hid hB0
  have HBx := Lib.hid (Below.refl (w.heap.size + 1) (w.alloc (Obj.cells #[.string r.q, .int .u64 r.id] 37)))
  clear h hX0 hB0
  go_enter Tryz.func41, Tryz.ntmps41
  go_wp2_with fail
  go_loopw [5, 6] (fun nv iv wr => ∃ (j m : Nat), j ≤ rs.length ∧ m ≤ 1000000 ∧ nv = .int .i64 m ∧ iv = .int .i64 j ∧ Hid (m = cntR (rs.take j) r) ∧ Hid (Below w.heap.size w wr) ∧ Hid (Below (w.heap.size + 1) (w.alloc (Obj.cells #[.string r.q, .int .u64 r.id] 37)) wr)) (fun _ i _ => rs.length - (intOf i).toNat)
  case atStart => exact ⟨0, 0, by omega, by omega, rfl, rfl, Lib.hid (by simp [cntR]), HB0, HBx⟩
  case round =>
    rename World => wr
    obtain ⟨j, m, hj, hm, rfl, rfl, hcn, hb, hbx⟩ := hrel
    by_cases hlt : j < rs.length
    · obtain ⟨d, o, rfl, hd, c0, c1⟩ := (HS.out.kept hb.out (Nat.le_refl _)).at_ j hlt
      have hX := HX.out wr hbx.out
      have k0 := hX.c0
      have k1 := hX.c1
      have hj1 : (j : Int) < (rs.length : Int) := by omega
      have hj0 : (0 : Int) ≤ (j : Int) := by omega
      have b3 : IntKind.i64.wrap ((j : Int) + 1) = (j : Int) + 1 := i64_id _ (by omega) (by omega)
      have b4 : IntKind.i64.wrap ((m : Int) + 1) = (m : Int) + 1 := i64_id _ (by omega) (by omega)
      have hst := cntR_snoc rs r j hlt
      rw [← hcn.out] at hst
      have hle := cntR_le (rs.take (j + 1)) r
      rw [List.length_take] at hle
      have hEq := fun w => run_eq_ref rs[j].q r.q rs[j].id r.id w
      have hGd := refGuard
      have hdc : decide (rs[j].q = r.q ∧ rs[j].id = r.id) = decide (rs[j] = r) := by
        rw [Bool.eq_iff_iff]
        simp only [decide_eq_true_eq]
        exact ⟨fun h => refE_ext h.1 h.2, fun h => by rw [h]; exact ⟨rfl, rfl⟩⟩
      rw [hdc] at hEq
      by_cases e : rs[j] = r
      · have HT := Lib.hid (show m + 1 = cntR (rs.take (j + 1)) r by rw [hst, if_pos e])
        have HM := Lib.hid (show m + 1 ≤ 1000000 by rw [HT.out]; omega)
        rw [decide_eq_true e] at hEq
        clear hdc e hX hd hst hle
        go_wp2_with fail
        go_quiet (fail)
        go_wp2_with fail
        go_roundw
        case rel => exact ⟨j + 1, m + 1, by omega, HM.out, by go_num, by go_num, HT, Lib.hid (below_drewN hb.out _), Lib.hid (below_drewN hbx.out _)⟩
        case measure => simp [intOf]; omega
      · have HT := Lib.hid (show m = cntR (rs.take (j + 1)) r by rw [hst, if_neg e]; omega)
        rw [decide_eq_false e] at hEq
        clear hdc e hX hd hst hle
        go_wp2_with fail
        go_quiet (fail)
        go_wp2_with fail
        go_roundw
        case rel => exact ⟨j + 1, m, by omega, hm, by go_num, by go_num, HT, Lib.hid (below_drewN hb.out _), Lib.hid (below_drewN hbx.out _)⟩
        case measure => simp [intOf]; omega
    · have hjl : ¬ (j : Int) < (rs.length : Int) := by omega
      have HT := Lib.hid (show m = cntR rs r by rw [hcn.out, List.take_of_length_le (by omega)])
      go_wp2_with fail
      go_ret
      exact ⟨by rw [← HT.out]; rfl, hb.out⟩

end Go.Proofs.YtpmafabphlejeaaGreat
/-
  The contract of the document's Check.
  Conditions: none but sizes.
-/
namespace Go.Proofs.YtpmafabphlejeaaGreat
open Go.RowKit
set_option linter.unusedVariables false
set_option linter.unusedSimpArgs false
set_option maxRecDepth 100000

theorem workV_doc {ps : List PutE} {rs : List RefE} : workV ps rs ↔ (ps.length ≤ 100 ∧ rs.length ≤ 100) ∧ (∀ j (h : j < ps.length), putB0 ps[j] = true) ∧ (∀ j (h : j < rs.length), refMay rs[j] = true ∧ cntR rs rs[j] ≤ 1) := by
  unfold workV
  rw [nodup_cnt]
  constructor
  · rintro ⟨h1, h2, h3, h4, h5⟩
    exact ⟨⟨h1, h2⟩, fun j hj => (putB0_iff _).2 (h3 _ (List.getElem_mem hj)), fun j hj => ⟨h4 _ (List.getElem_mem hj), h5 _ (List.getElem_mem hj)⟩⟩
  · rintro ⟨⟨h1, h2⟩, h3, h4⟩
    refine ⟨h1, h2, fun p hp => ?_, fun r hr => ?_, fun r hr => ?_⟩
    · obtain ⟨j, hj, rfl⟩ := List.getElem_of_mem hp
      exact (putB0_iff _).1 (h3 j hj)
    · obtain ⟨j, hj, rfl⟩ := List.getElem_of_mem hr
      exact (h4 j hj).1
    · obtain ⟨j, hj, rfl⟩ := List.getElem_of_mem hr
      exact (h4 j hj).2

set_option maxHeartbeats 8000000 in
theorem qcheckw_any (x : WorkC) (w : World) (h : ShowsW w x) : Calls Tryz.prog 17 #[workVal x] w fun e w' => e = .returned (.int .i64 (errW x.ps x.rs)) ∧ Below w.heap.size w w' := by
  have HPU := Lib.hid (fun j (hj : j < x.cs.length) w' (hb : Below w.heap.size w w') => qput17_any x.cs[j] w' ((h.puts.each j hj).kept hb (Nat.le_refl _)))
  have HRE := Lib.hid (fun j (hj : j < x.rs.length) w' => qref17_any x.rs[j] w' (h.takes.each j hj))
  have HCN := Lib.hid (fun hn r w' (hb : Below w.heap.size w w') => qcount_any x.A2 x.c2 x.rs r w' (h.takes.kept hb (Nat.le_refl _)) hn)
  have HSP := Lib.hid h.puts
  have HST := Lib.hid h.takes
  unfold putV at HPU
  obtain ⟨R, hR⟩ : ∃ R, R = errW x.ps x.rs := ⟨_, rfl⟩
  rw [← hR]
  have HNO := Lib.hid (show (¬ workV x.ps x.rs → R = 130) ∧ (workV x.ps x.rs → R = 0) from ⟨fun hv => by rw [hR]; exact errW_no (wB_no hv), fun hv => by rw [hR]; exact errW_ok (wB_iff.2 hv)⟩)
  have HV := Lib.hid (workV_doc (ps := x.ps) (rs := x.rs))
  have hlm1 := h.puts.lm
  have hlm2 := h.takes.lm
  clear h hR
  obtain ⟨A1, c1, cs, A2, c2, rs⟩ := x
  unfold workVal WorkC.ps refV at *
  simp only [esOf_len] at *
  have hX0 := BoxK.new w (.slice A1 cs.length c1) (.slice A2 rs.length c2)
  have HB0 := Lib.hid (below_boxV w (Obj.cells #[.slice A1 cs.length c1, .slice A2 rs.length c2] 25))
  have HX := Lib.hid (fun w' (hb : Below (w.heap.size + 1) (w.alloc (Obj.cells #[.slice A1 cs.length c1, .slice A2 rs.length c2] 25)) w') => (hX0.kept hb (by simp)))
  have HBx := Lib.hid (Below.refl (w.heap.size + 1) (w.alloc (Obj.cells #[.slice A1 cs.length c1, .slice A2 rs.length c2] 25)))
  have HZ0 := Lib.hid (show (w.alloc (Obj.cells #[.slice A1 cs.length c1, .slice A2 rs.length c2] 25)).heap.size = w.heap.size + 1 by simp)
  have k0 := hX0.c0
  have k1 := hX0.c1
  clear hX0
  by_cases h1 : cs.length ≤ 100
  case neg =>
    have t1 : decide ((100 : Int) < (cs.length : Int)) = true := by simp; omega
    have HN := Lib.hid (HNO.out.1 (fun hv => h1 (HV.out.1 hv).1.1))
    clear h1
    go_enter Tryz.func17, Tryz.ntmps17
    go_wp2_with fail
    go_ret
    exact ⟨by rw [HN.out]; rfl, HB0.out⟩
  have t1 : decide ((100 : Int) < (cs.length : Int)) = false := by simp; omega
  by_cases h2 : rs.length ≤ 100
  case neg =>
    have t2 : decide ((100 : Int) < (rs.length : Int)) = true := by simp; omega
    have HN := Lib.hid (HNO.out.1 (fun hv => h2 (HV.out.1 hv).1.2))
    clear h1 h2
    go_enter Tryz.func17, Tryz.ntmps17
    go_wp2_with fail
    go_ret
    exact ⟨by rw [HN.out]; rfl, HB0.out⟩
  have t2 : decide ((100 : Int) < (rs.length : Int)) = false := by simp; omega
  go_enter Tryz.func17, Tryz.ntmps17
  go_wp2_with fail
  clear t1 t2
  go_loopw [3] (fun iv wr => ∃ (j : Nat), j ≤ cs.length ∧ iv = .int .i64 j ∧ Hid (∀ q (hq : q < cs.length), q < j → putB0 cs[q].e = true) ∧ Hid (Below w.heap.size w wr) ∧ Hid (Below (w.heap.size + 1) (w.alloc (Obj.cells #[.slice A1 cs.length c1, .slice A2 rs.length c2] 25)) wr)) (fun i _ => cs.length - (intOf i).toNat)
  case atStart => exact ⟨0, by omega, rfl, Lib.hid (fun q _ h => absurd h (by omega)), HB0, HBx⟩
  case round =>
    rename World => wr
    obtain ⟨j, hj, rfl, hlo, hb, hbx⟩ := hrel
    have hX := HX.out wr hbx.out
    have m0 := hX.c0
    have m1 := hX.c1
    have hbs := hb.out.size
    have hzx : w.heap.size + 1 ≤ wr.heap.size := by have := hX.lt; omega
    by_cases hlt : j < cs.length
    · obtain ⟨d, o, rfl, hd, ⟨e0, e1, e2, e3, e4, e5⟩, e6, e7, e8, e9, e10, e11⟩ := (HSP.out.kept hb.out (Nat.le_refl _)).at_ j hlt
      have hj1 : (j : Int) < (cs.length : Int) := by omega
      have hj0 : (0 : Int) ≤ (j : Int) := by omega
      have b3 : IntKind.i64.wrap ((j : Int) + 1) = (j : Int) + 1 := i64_id _ (by omega) (by omega)
      have HC := Lib.hid (HPU.out j hlt wr hb.out)
      cases hp : putB0 cs[j].e with
      | false =>
        rw [hp] at HC
        have HN := Lib.hid (HNO.out.1 (fun hv => by have := (HV.out.1 hv).2.1 j hlt; rw [esOf_get cs j hlt, hp] at this; cases this))
        clear hp hX hd
        go_wp2_with fail
        refine HC.out.mono ?_
        rintro e w2 ⟨rfl, hb2⟩
        have HB2 := Lib.hid (hb.out.trans (hb2.mono hbs))
        clear hb2
        go_wp2_with fail
        go_ret
        exact ⟨by rw [HN.out]; rfl, HB2.out⟩
      | true =>
        rw [hp] at HC
        have HLO : Hid (∀ q (hq : q < cs.length), q < j + 1 → putB0 cs[q].e = true) := Lib.hid (fun q hq hqj => by
          by_cases hqj2 : q < j
          · exact hlo.out q hq hqj2
          · obtain rfl : q = j := by omega
            exact hp)
        clear hp hX hd
        go_wp2_with fail
        refine HC.out.mono ?_
        rintro e w2 ⟨rfl, hb2⟩
        have HB2 := Lib.hid (hb.out.trans (hb2.mono hbs))
        have HBX2 := Lib.hid (hbx.out.trans (hb2.mono hzx))
        clear hb2
        go_wp2_with fail
        go_roundw
        case rel => exact ⟨j + 1, by omega, by go_num, HLO, HB2, HBX2⟩
        case measure => simp [intOf]; omega
    · have hjl : ¬ (j : Int) < (cs.length : Int) := by omega
      have HLP := Lib.hid (show ∀ q (hq : q < cs.length), putB0 ((esOf cs)[q]'(by rw [esOf_len]; exact hq)) = true from fun q hq => by rw [esOf_get cs q hq]; exact hlo.out q hq (by omega))
      clear hX hlo
      go_wp2_with fail
      go_loopw [4] (fun iv wz => ∃ (j : Nat), j ≤ rs.length ∧ iv = .int .i64 j ∧ Hid (∀ q (hq : q < rs.length), q < j → refMay rs[q] = true ∧ cntR rs rs[q] ≤ 1) ∧ Hid (Below w.heap.size w wz) ∧ Hid (Below (w.heap.size + 1) (w.alloc (Obj.cells #[.slice A1 cs.length c1, .slice A2 rs.length c2] 25)) wz)) (fun i _ => rs.length - (intOf i).toNat)
      case atStart => exact ⟨0, by omega, rfl, Lib.hid (fun q _ h => absurd h (by omega)), hb, hbx⟩
      case round =>
        rename World => wz
        obtain ⟨j2, hj2, rfl, hlo2, hb2, hbx2⟩ := hrel
        clear m0 m1 hjl
        have hX := HX.out wz hbx2.out
        have m1 := hX.c1
        have hbs2 := hb2.out.size
        have hzx2 : w.heap.size + 1 ≤ wz.heap.size := by have := hX.lt; omega
        by_cases hlt2 : j2 < rs.length
        · obtain ⟨d, o, rfl, hd, c0, c1'⟩ := (HST.out.kept hb2.out (Nat.le_refl _)).at_ j2 hlt2
          have hj1 : (j2 : Int) < (rs.length : Int) := by omega
          have hj0 : (0 : Int) ≤ (j2 : Int) := by omega
          have b3 : IntKind.i64.wrap ((j2 : Int) + 1) = (j2 : Int) + 1 := i64_id _ (by omega) (by omega)
          have HRC := Lib.hid (fun w' => HRE.out j2 hlt2 w')
          have HCC := Lib.hid (fun w' (hb' : Below w.heap.size w w') => HCN.out (by omega) rs[j2] w' hb')
          have HKEEP := Lib.hid (show ∀ w', Below wz.heap.size wz w' → w'.cell? ⟨w.heap.size, 1, none⟩ = some (.slice (some ⟨d, o, none⟩) rs.length c2) ∧ w'.cell? ⟨d, o + j2 * 2, none⟩ = some (.string rs[j2].q) ∧ w'.cell? ⟨d, o + j2 * 2 + 1, none⟩ = some (.int .u64 rs[j2].id) from fun w' hb' =>
            ⟨(hX.kept hb' (Nat.le_refl _)).c1, (World.cell?_of_block (w := wz) (hb'.block d hd)).trans c0, (World.cell?_of_block (w := wz) (hb'.block d hd)).trans c1'⟩)
          have HVR := Lib.hid (show workV (esOf cs) rs → refMay rs[j2] = true ∧ cntR rs rs[j2] ≤ 1 from fun hv => (HV.out.1 hv).2.2 j2 hlt2)
          have HCL := Lib.hid (cntR_le rs rs[j2])
          obtain ⟨r, hrj⟩ : ∃ r, r = rs[j2] := ⟨_, rfl⟩
          rw [← hrj] at c0 c1' HRC HCC HKEEP HVR HCL
          have HRJ := Lib.hid hrj
          clear hrj
          cases hp : refMay r with
          | false =>
            rw [hp] at HRC
            have HN := Lib.hid (HNO.out.1 (fun hv => by have := (HVR.out hv).1; rw [hp] at this; cases this))
            clear hp hX hd c0 c1'
            go_upto_region 11 with fail
            have hy0 := below_drew1 (Below.refl wz.heap.size wz)
            refine wp_region_held_drew (S := fun w' => w'.cell? ⟨w.heap.size, 1, none⟩ = some (.slice (some ⟨d, o, none⟩) rs.length c2) ∧ w'.cell? ⟨d, o + j2 * 2, none⟩ = some (.string r.q) ∧ w'.cell? ⟨d, o + j2 * 2 + 1, none⟩ = some (.int .u64 r.id)) (by kernel_rfl) (HKEEP.out _ hy0) (fun hHeld => ?_)
            refine wpAnyH_take (i := 0) (oi := { dst := some 36, op := Op.fieldAddr 25 (Operand.tmp 1) 1, type := 0, pos := "ref.go:46", after := #[], guard := none }) (v := ?_) rfl (by kernel_rfl) (by kernel_rfl) (by kernel_rfl) (fun _ _ _ h => h) (Or.inl ⟨by rfl, ?_⟩) (by assumption) ?_
            rotate_left
            · intro w9 hSw
              obtain ⟨g1, g2, g3⟩ := hSw
              go_simp
              try with_reducible rfl
            try simp only [Act.put, List.setIfInBounds_toArray, List.set_cons_zero, List.set_cons_succ]
            refine wpAnyH_take (i := 1) (oi := { dst := some 37, op := Op.load 23 (Operand.tmp 36), type := 23, pos := "ref.go:46", after := #[{ on := 0, ground := Ground.data }], guard := none }) (v := ?_) rfl (by kernel_rfl) (by kernel_rfl) (by kernel_rfl) (fun _ _ _ h => h) (Or.inl ⟨by rfl, ?_⟩) (by assumption) ?_
            rotate_left
            · intro w9 hSw
              obtain ⟨g1, g2, g3⟩ := hSw
              go_simp
              try with_reducible rfl
            try simp only [Act.put, List.setIfInBounds_toArray, List.set_cons_zero, List.set_cons_succ]
            refine wpAnyH_take (i := 2) (oi := { dst := some 38, op := Op.move (Operand.tmp 4), type := 3, pos := "ref.go:46", after := #[], guard := none }) (v := ?_) rfl (by kernel_rfl) (by kernel_rfl) (by kernel_rfl) (fun _ _ _ h => h) (Or.inl ⟨by rfl, ?_⟩) (by assumption) ?_
            rotate_left
            · intro w9 hSw
              obtain ⟨g1, g2, g3⟩ := hSw
              go_simp
              try with_reducible rfl
            try simp only [Act.put, List.setIfInBounds_toArray, List.set_cons_zero, List.set_cons_succ]
            refine wpAnyH_take (i := 3) (oi := { dst := some 39, op := Op.indexAddr 23 (Operand.tmp 37) (Operand.tmp 38), type := 0, pos := "ref.go:46", after := #[{ on := 1, ground := Ground.data }, { on := 2, ground := Ground.data }], guard := none }) (v := ?_) rfl (by kernel_rfl) (by kernel_rfl) (by kernel_rfl) (fun _ _ _ h => h) (Or.inl ⟨by rfl, ?_⟩) (by assumption) ?_
            rotate_left
            · intro w9 hSw
              obtain ⟨g1, g2, g3⟩ := hSw
              go_simp
              try with_reducible rfl
            try simp only [Act.put, List.setIfInBounds_toArray, List.set_cons_zero, List.set_cons_succ]
            refine wpAnyH_take (i := 4) (oi := { dst := some 40, op := Op.load 37 (Operand.tmp 39), type := 37, pos := "ref.go:46", after := #[{ on := 3, ground := Ground.data }], guard := none }) (v := ?_) rfl (by kernel_rfl) (by kernel_rfl) (by kernel_rfl) (fun _ _ _ h => h) (Or.inl ⟨by rfl, ?_⟩) (by assumption) ?_
            rotate_left
            · intro w9 hSw
              obtain ⟨g1, g2, g3⟩ := hSw
              go_simp
              try with_reducible rfl
            try simp only [Act.put, List.setIfInBounds_toArray, List.set_cons_zero, List.set_cons_succ]
            refine wpAnyH_ready (rs := [5]) (by kernel_rfl) (by simp) ?_
            refine AllReadyH.cons (o := { dst := some 41, op := Op.call { callee := Callee.value (Operand.func 40), args := #[Operand.tmp 40], argTypes := #[37] }, type := 4, pos := "ref.go:46", after := #[{ on := 4, ground := Ground.data }], guard := none }) rfl (fun K hK => ?_) AllReadyH.nil
            go_simp
            refine (HRC.out _).mono ?_
            rintro e y1 ⟨rfl, hx1⟩
            have hy1 := hy0.trans (hx1.mono hy0.size)
            have hS1 := HKEEP.out _ hy1
            refine hK.out _ _ hS1 (fun _ => ?_)
            clear hK K
            try simp only [Act.put, List.setIfInBounds_toArray, List.set_cons_zero, List.set_cons_succ]
            refine wpAnyH_take (i := 6) (oi := { dst := some 42, op := Op.unOp UnOp.not 4 (Operand.tmp 41), type := 4, pos := "ref.go:46", after := #[{ on := 5, ground := Ground.data }], guard := none }) (v := ?_) rfl (by kernel_rfl) (by kernel_rfl) (by kernel_rfl) (fun _ _ _ h => h) (Or.inl ⟨by rfl, ?_⟩) (by assumption) ?_
            rotate_left
            · intro w9 hSw
              obtain ⟨g1, g2, g3⟩ := hSw
              go_simp
              try with_reducible rfl
            try simp only [Act.put, List.setIfInBounds_toArray, List.set_cons_zero, List.set_cons_succ]
            refine wpAnyH_take (i := 7) (oi := { dst := some 43, op := Op.move (Operand.tmp 42), type := 4, pos := "ref.go:46", after := #[{ on := 6, ground := Ground.data }, { on := 5, ground := Ground.chain }], guard := none }) (v := ?_) rfl (by kernel_rfl) (by kernel_rfl) (by kernel_rfl) (fun _ _ _ h => h) (Or.inl ⟨by rfl, ?_⟩) (by assumption) ?_
            rotate_left
            · intro w9 hSw
              obtain ⟨g1, g2, g3⟩ := hSw
              go_simp
              try with_reducible rfl
            try simp only [Act.put, List.setIfInBounds_toArray, List.set_cons_zero, List.set_cons_succ]
            refine wpAnyH_take (i := 8) (oi := { dst := some 44, op := Op.fieldAddr 25 (Operand.tmp 1) 1, type := 0, pos := "ref.go:46", after := #[{ on := 7, ground := Ground.guard }], guard := some (7, false) }) (v := _) rfl (by kernel_rfl) (by kernel_rfl) (by kernel_rfl) (fun _ _ _ h => h) (Or.inr ⟨by rfl, rfl⟩) (by assumption) ?_
            try simp only [Act.put, List.setIfInBounds_toArray, List.set_cons_zero, List.set_cons_succ]
            refine wpAnyH_take (i := 9) (oi := { dst := some 45, op := Op.load 23 (Operand.tmp 44), type := 23, pos := "ref.go:46", after := #[{ on := 8, ground := Ground.data }, { on := 7, ground := Ground.guard }], guard := some (7, false) }) (v := _) rfl (by kernel_rfl) (by kernel_rfl) (by kernel_rfl) (fun _ _ _ h => h) (Or.inr ⟨by rfl, rfl⟩) (by assumption) ?_
            try simp only [Act.put, List.setIfInBounds_toArray, List.set_cons_zero, List.set_cons_succ]
            refine wpAnyH_take (i := 10) (oi := { dst := some 46, op := Op.fieldAddr 25 (Operand.tmp 1) 1, type := 0, pos := "ref.go:46", after := #[{ on := 7, ground := Ground.guard }], guard := some (7, false) }) (v := _) rfl (by kernel_rfl) (by kernel_rfl) (by kernel_rfl) (fun _ _ _ h => h) (Or.inr ⟨by rfl, rfl⟩) (by assumption) ?_
            try simp only [Act.put, List.setIfInBounds_toArray, List.set_cons_zero, List.set_cons_succ]
            refine wpAnyH_take (i := 11) (oi := { dst := some 47, op := Op.load 23 (Operand.tmp 46), type := 23, pos := "ref.go:46", after := #[{ on := 10, ground := Ground.data }, { on := 7, ground := Ground.guard }], guard := some (7, false) }) (v := _) rfl (by kernel_rfl) (by kernel_rfl) (by kernel_rfl) (fun _ _ _ h => h) (Or.inr ⟨by rfl, rfl⟩) (by assumption) ?_
            try simp only [Act.put, List.setIfInBounds_toArray, List.set_cons_zero, List.set_cons_succ]
            refine wpAnyH_take (i := 12) (oi := { dst := some 48, op := Op.move (Operand.tmp 4), type := 3, pos := "ref.go:46", after := #[{ on := 7, ground := Ground.guard }], guard := some (7, false) }) (v := _) rfl (by kernel_rfl) (by kernel_rfl) (by kernel_rfl) (fun _ _ _ h => h) (Or.inr ⟨by rfl, rfl⟩) (by assumption) ?_
            try simp only [Act.put, List.setIfInBounds_toArray, List.set_cons_zero, List.set_cons_succ]
            refine wpAnyH_take (i := 13) (oi := { dst := some 49, op := Op.indexAddr 23 (Operand.tmp 47) (Operand.tmp 48), type := 0, pos := "ref.go:46", after := #[{ on := 11, ground := Ground.data }, { on := 12, ground := Ground.data }, { on := 7, ground := Ground.guard }], guard := some (7, false) }) (v := _) rfl (by kernel_rfl) (by kernel_rfl) (by kernel_rfl) (fun _ _ _ h => h) (Or.inr ⟨by rfl, rfl⟩) (by assumption) ?_
            try simp only [Act.put, List.setIfInBounds_toArray, List.set_cons_zero, List.set_cons_succ]
            refine wpAnyH_take (i := 14) (oi := { dst := some 50, op := Op.load 37 (Operand.tmp 49), type := 37, pos := "ref.go:46", after := #[{ on := 13, ground := Ground.data }, { on := 7, ground := Ground.guard }], guard := some (7, false) }) (v := _) rfl (by kernel_rfl) (by kernel_rfl) (by kernel_rfl) (fun _ _ _ h => h) (Or.inr ⟨by rfl, rfl⟩) (by assumption) ?_
            try simp only [Act.put, List.setIfInBounds_toArray, List.set_cons_zero, List.set_cons_succ]
            refine wpAnyH_take (i := 15) (oi := { dst := some 51, op := Op.call { callee := Callee.value (Operand.func 41), args := #[Operand.tmp 45, Operand.tmp 50], argTypes := #[23, 37] }, type := 3, pos := "ref.go:46", after := #[{ on := 9, ground := Ground.data }, { on := 14, ground := Ground.data }, { on := 7, ground := Ground.chain }, { on := 7, ground := Ground.guard }], guard := some (7, false) }) (v := _) rfl (by kernel_rfl) (by kernel_rfl) (by kernel_rfl) (fun _ _ _ h => h) (Or.inr ⟨by rfl, rfl⟩) (by assumption) ?_
            try simp only [Act.put, List.setIfInBounds_toArray, List.set_cons_zero, List.set_cons_succ]
            refine wpAnyH_take (i := 16) (oi := { dst := some 52, op := Op.binOp BinOp.gtr 3 (Operand.tmp 51) (Operand.const (Value.int IntKind.i64 1)) 3, type := 4, pos := "ref.go:46", after := #[{ on := 15, ground := Ground.data }, { on := 7, ground := Ground.guard }], guard := some (7, false) }) (v := _) rfl (by kernel_rfl) (by kernel_rfl) (by kernel_rfl) (fun _ _ _ h => h) (Or.inr ⟨by rfl, rfl⟩) (by assumption) ?_
            try simp only [Act.put, List.setIfInBounds_toArray, List.set_cons_zero, List.set_cons_succ]
            refine wpAnyH_take (i := 17) (oi := { dst := some 53, op := Op.pick (Operand.tmp 43) (Operand.const (Value.bool true)) (Operand.tmp 52), type := 4, pos := "ref.go:46", after := #[{ on := 7, ground := Ground.data }, { on := 16, ground := Ground.data }], guard := none }) (v := ?_) rfl (by kernel_rfl) (by kernel_rfl) (by kernel_rfl) (fun _ _ _ h => h) (Or.inl ⟨by rfl, ?_⟩) (by assumption) ?_
            rotate_left
            · intro w9 hSw
              obtain ⟨g1, g2, g3⟩ := hSw
              go_simp
              try with_reducible rfl
            try simp only [Act.put, List.setIfInBounds_toArray, List.set_cons_zero, List.set_cons_succ]
            refine wpAnyH_done (by kernel_rfl) ?_ _
            have HF := Lib.hid (hb2.out.trans (hy1.mono hbs2))
            clear hy0 hx1 hy1
            go_wp2_with fail
            go_ret
            exact ⟨by rw [HN.out]; rfl, HF.out⟩
          | true =>
            rw [hp] at HRC
            obtain ⟨b, hbd⟩ : ∃ b, b = decide (1 < cntR rs r) := ⟨_, rfl⟩
            have t5 : decide ((1 : Int) < (cntR rs r : Int)) = b := by rw [hbd, Bool.eq_iff_iff]; simp only [decide_eq_true_eq]; omega
            have HBD := Lib.hid (And.intro hp hbd)
            clear hp hbd hX hd c0 c1'
            go_upto_region 11 with fail
            have hy0 := below_drew1 (Below.refl wz.heap.size wz)
            refine wp_region_held_drew (S := fun w' => w'.cell? ⟨w.heap.size, 1, none⟩ = some (.slice (some ⟨d, o, none⟩) rs.length c2) ∧ w'.cell? ⟨d, o + j2 * 2, none⟩ = some (.string r.q) ∧ w'.cell? ⟨d, o + j2 * 2 + 1, none⟩ = some (.int .u64 r.id)) (by kernel_rfl) (HKEEP.out _ hy0) (fun hHeld => ?_)
            refine wpAnyH_take (i := 0) (oi := { dst := some 36, op := Op.fieldAddr 25 (Operand.tmp 1) 1, type := 0, pos := "ref.go:46", after := #[], guard := none }) (v := ?_) rfl (by kernel_rfl) (by kernel_rfl) (by kernel_rfl) (fun _ _ _ h => h) (Or.inl ⟨by rfl, ?_⟩) (by assumption) ?_
            rotate_left
            · intro w9 hSw
              obtain ⟨g1, g2, g3⟩ := hSw
              go_simp
              try with_reducible rfl
            try simp only [Act.put, List.setIfInBounds_toArray, List.set_cons_zero, List.set_cons_succ]
            refine wpAnyH_take (i := 1) (oi := { dst := some 37, op := Op.load 23 (Operand.tmp 36), type := 23, pos := "ref.go:46", after := #[{ on := 0, ground := Ground.data }], guard := none }) (v := ?_) rfl (by kernel_rfl) (by kernel_rfl) (by kernel_rfl) (fun _ _ _ h => h) (Or.inl ⟨by rfl, ?_⟩) (by assumption) ?_
            rotate_left
            · intro w9 hSw
              obtain ⟨g1, g2, g3⟩ := hSw
              go_simp
              try with_reducible rfl
            try simp only [Act.put, List.setIfInBounds_toArray, List.set_cons_zero, List.set_cons_succ]
            refine wpAnyH_take (i := 2) (oi := { dst := some 38, op := Op.move (Operand.tmp 4), type := 3, pos := "ref.go:46", after := #[], guard := none }) (v := ?_) rfl (by kernel_rfl) (by kernel_rfl) (by kernel_rfl) (fun _ _ _ h => h) (Or.inl ⟨by rfl, ?_⟩) (by assumption) ?_
            rotate_left
            · intro w9 hSw
              obtain ⟨g1, g2, g3⟩ := hSw
              go_simp
              try with_reducible rfl
            try simp only [Act.put, List.setIfInBounds_toArray, List.set_cons_zero, List.set_cons_succ]
            refine wpAnyH_take (i := 3) (oi := { dst := some 39, op := Op.indexAddr 23 (Operand.tmp 37) (Operand.tmp 38), type := 0, pos := "ref.go:46", after := #[{ on := 1, ground := Ground.data }, { on := 2, ground := Ground.data }], guard := none }) (v := ?_) rfl (by kernel_rfl) (by kernel_rfl) (by kernel_rfl) (fun _ _ _ h => h) (Or.inl ⟨by rfl, ?_⟩) (by assumption) ?_
            rotate_left
            · intro w9 hSw
              obtain ⟨g1, g2, g3⟩ := hSw
              go_simp
              try with_reducible rfl
            try simp only [Act.put, List.setIfInBounds_toArray, List.set_cons_zero, List.set_cons_succ]
            refine wpAnyH_take (i := 4) (oi := { dst := some 40, op := Op.load 37 (Operand.tmp 39), type := 37, pos := "ref.go:46", after := #[{ on := 3, ground := Ground.data }], guard := none }) (v := ?_) rfl (by kernel_rfl) (by kernel_rfl) (by kernel_rfl) (fun _ _ _ h => h) (Or.inl ⟨by rfl, ?_⟩) (by assumption) ?_
            rotate_left
            · intro w9 hSw
              obtain ⟨g1, g2, g3⟩ := hSw
              go_simp
              try with_reducible rfl
            try simp only [Act.put, List.setIfInBounds_toArray, List.set_cons_zero, List.set_cons_succ]
            refine wpAnyH_ready (rs := [5]) (by kernel_rfl) (by simp) ?_
            refine AllReadyH.cons (o := { dst := some 41, op := Op.call { callee := Callee.value (Operand.func 40), args := #[Operand.tmp 40], argTypes := #[37] }, type := 4, pos := "ref.go:46", after := #[{ on := 4, ground := Ground.data }], guard := none }) rfl (fun K hK => ?_) AllReadyH.nil
            go_simp
            refine (HRC.out _).mono ?_
            rintro e y1 ⟨rfl, hx1⟩
            have hy1 := hy0.trans (hx1.mono hy0.size)
            have hS1 := HKEEP.out _ hy1
            refine hK.out _ _ hS1 (fun _ => ?_)
            clear hK K
            try simp only [Act.put, List.setIfInBounds_toArray, List.set_cons_zero, List.set_cons_succ]
            refine wpAnyH_take (i := 6) (oi := { dst := some 42, op := Op.unOp UnOp.not 4 (Operand.tmp 41), type := 4, pos := "ref.go:46", after := #[{ on := 5, ground := Ground.data }], guard := none }) (v := ?_) rfl (by kernel_rfl) (by kernel_rfl) (by kernel_rfl) (fun _ _ _ h => h) (Or.inl ⟨by rfl, ?_⟩) (by assumption) ?_
            rotate_left
            · intro w9 hSw
              obtain ⟨g1, g2, g3⟩ := hSw
              go_simp
              try with_reducible rfl
            try simp only [Act.put, List.setIfInBounds_toArray, List.set_cons_zero, List.set_cons_succ]
            refine wpAnyH_take (i := 7) (oi := { dst := some 43, op := Op.move (Operand.tmp 42), type := 4, pos := "ref.go:46", after := #[{ on := 6, ground := Ground.data }, { on := 5, ground := Ground.chain }], guard := none }) (v := ?_) rfl (by kernel_rfl) (by kernel_rfl) (by kernel_rfl) (fun _ _ _ h => h) (Or.inl ⟨by rfl, ?_⟩) (by assumption) ?_
            rotate_left
            · intro w9 hSw
              obtain ⟨g1, g2, g3⟩ := hSw
              go_simp
              try with_reducible rfl
            try simp only [Act.put, List.setIfInBounds_toArray, List.set_cons_zero, List.set_cons_succ]
            refine wpAnyH_take (i := 8) (oi := { dst := some 44, op := Op.fieldAddr 25 (Operand.tmp 1) 1, type := 0, pos := "ref.go:46", after := #[{ on := 7, ground := Ground.guard }], guard := some (7, false) }) (v := ?_) rfl (by kernel_rfl) (by kernel_rfl) (by kernel_rfl) (fun _ _ _ h => h) (Or.inl ⟨by rfl, ?_⟩) (by assumption) ?_
            rotate_left
            · intro w9 hSw
              obtain ⟨g1, g2, g3⟩ := hSw
              go_simp
              try with_reducible rfl
            try simp only [Act.put, List.setIfInBounds_toArray, List.set_cons_zero, List.set_cons_succ]
            refine wpAnyH_take (i := 9) (oi := { dst := some 45, op := Op.load 23 (Operand.tmp 44), type := 23, pos := "ref.go:46", after := #[{ on := 8, ground := Ground.data }, { on := 7, ground := Ground.guard }], guard := some (7, false) }) (v := ?_) rfl (by kernel_rfl) (by kernel_rfl) (by kernel_rfl) (fun _ _ _ h => h) (Or.inl ⟨by rfl, ?_⟩) (by assumption) ?_
            rotate_left
            · intro w9 hSw
              obtain ⟨g1, g2, g3⟩ := hSw
              go_simp
              try with_reducible rfl
            try simp only [Act.put, List.setIfInBounds_toArray, List.set_cons_zero, List.set_cons_succ]
            refine wpAnyH_take (i := 10) (oi := { dst := some 46, op := Op.fieldAddr 25 (Operand.tmp 1) 1, type := 0, pos := "ref.go:46", after := #[{ on := 7, ground := Ground.guard }], guard := some (7, false) }) (v := ?_) rfl (by kernel_rfl) (by kernel_rfl) (by kernel_rfl) (fun _ _ _ h => h) (Or.inl ⟨by rfl, ?_⟩) (by assumption) ?_
            rotate_left
            · intro w9 hSw
              obtain ⟨g1, g2, g3⟩ := hSw
              go_simp
              try with_reducible rfl
            try simp only [Act.put, List.setIfInBounds_toArray, List.set_cons_zero, List.set_cons_succ]
            refine wpAnyH_take (i := 11) (oi := { dst := some 47, op := Op.load 23 (Operand.tmp 46), type := 23, pos := "ref.go:46", after := #[{ on := 10, ground := Ground.data }, { on := 7, ground := Ground.guard }], guard := some (7, false) }) (v := ?_) rfl (by kernel_rfl) (by kernel_rfl) (by kernel_rfl) (fun _ _ _ h => h) (Or.inl ⟨by rfl, ?_⟩) (by assumption) ?_
            rotate_left
            · intro w9 hSw
              obtain ⟨g1, g2, g3⟩ := hSw
              go_simp
              try with_reducible rfl
            try simp only [Act.put, List.setIfInBounds_toArray, List.set_cons_zero, List.set_cons_succ]
            refine wpAnyH_take (i := 12) (oi := { dst := some 48, op := Op.move (Operand.tmp 4), type := 3, pos := "ref.go:46", after := #[{ on := 7, ground := Ground.guard }], guard := some (7, false) }) (v := ?_) rfl (by kernel_rfl) (by kernel_rfl) (by kernel_rfl) (fun _ _ _ h => h) (Or.inl ⟨by rfl, ?_⟩) (by assumption) ?_
            rotate_left
            · intro w9 hSw
              obtain ⟨g1, g2, g3⟩ := hSw
              go_simp
              try with_reducible rfl
            try simp only [Act.put, List.setIfInBounds_toArray, List.set_cons_zero, List.set_cons_succ]
            refine wpAnyH_take (i := 13) (oi := { dst := some 49, op := Op.indexAddr 23 (Operand.tmp 47) (Operand.tmp 48), type := 0, pos := "ref.go:46", after := #[{ on := 11, ground := Ground.data }, { on := 12, ground := Ground.data }, { on := 7, ground := Ground.guard }], guard := some (7, false) }) (v := ?_) rfl (by kernel_rfl) (by kernel_rfl) (by kernel_rfl) (fun _ _ _ h => h) (Or.inl ⟨by rfl, ?_⟩) (by assumption) ?_
            rotate_left
            · intro w9 hSw
              obtain ⟨g1, g2, g3⟩ := hSw
              go_simp
              try with_reducible rfl
            try simp only [Act.put, List.setIfInBounds_toArray, List.set_cons_zero, List.set_cons_succ]
            refine wpAnyH_take (i := 14) (oi := { dst := some 50, op := Op.load 37 (Operand.tmp 49), type := 37, pos := "ref.go:46", after := #[{ on := 13, ground := Ground.data }, { on := 7, ground := Ground.guard }], guard := some (7, false) }) (v := ?_) rfl (by kernel_rfl) (by kernel_rfl) (by kernel_rfl) (fun _ _ _ h => h) (Or.inl ⟨by rfl, ?_⟩) (by assumption) ?_
            rotate_left
            · intro w9 hSw
              obtain ⟨g1, g2, g3⟩ := hSw
              go_simp
              try with_reducible rfl
            try simp only [Act.put, List.setIfInBounds_toArray, List.set_cons_zero, List.set_cons_succ]
            refine wpAnyH_ready (rs := [15]) (by kernel_rfl) (by simp) ?_
            refine AllReadyH.cons (o := { dst := some 51, op := Op.call { callee := Callee.value (Operand.func 41), args := #[Operand.tmp 45, Operand.tmp 50], argTypes := #[23, 37] }, type := 3, pos := "ref.go:46", after := #[{ on := 9, ground := Ground.data }, { on := 14, ground := Ground.data }, { on := 7, ground := Ground.chain }, { on := 7, ground := Ground.guard }], guard := some (7, false) }) rfl (fun K hK => ?_) AllReadyH.nil
            go_simp
            refine (HCC.out _ (hb2.out.trans (hy1.mono hbs2))).mono ?_
            rintro e y2 ⟨rfl, hx2⟩
            have hy2 := hy1.trans (hx2.mono hy1.size)
            have hS2 := HKEEP.out _ hy2
            refine hK.out _ _ hS2 (fun _ => ?_)
            clear hK K
            try simp only [Act.put, List.setIfInBounds_toArray, List.set_cons_zero, List.set_cons_succ]
            refine wpAnyH_take (i := 16) (oi := { dst := some 52, op := Op.binOp BinOp.gtr 3 (Operand.tmp 51) (Operand.const (Value.int IntKind.i64 1)) 3, type := 4, pos := "ref.go:46", after := #[{ on := 15, ground := Ground.data }, { on := 7, ground := Ground.guard }], guard := some (7, false) }) (v := ?_) rfl (by kernel_rfl) (by kernel_rfl) (by kernel_rfl) (fun _ _ _ h => h) (Or.inl ⟨by rfl, ?_⟩) (by assumption) ?_
            rotate_left
            · intro w9 hSw
              obtain ⟨g1, g2, g3⟩ := hSw
              go_simp
              try with_reducible rfl
            try simp only [Act.put, List.setIfInBounds_toArray, List.set_cons_zero, List.set_cons_succ]
            refine wpAnyH_take (i := 17) (oi := { dst := some 53, op := Op.pick (Operand.tmp 43) (Operand.const (Value.bool true)) (Operand.tmp 52), type := 4, pos := "ref.go:46", after := #[{ on := 7, ground := Ground.data }, { on := 16, ground := Ground.data }], guard := none }) (v := ?_) rfl (by kernel_rfl) (by kernel_rfl) (by kernel_rfl) (fun _ _ _ h => h) (Or.inl ⟨by rfl, ?_⟩) (by assumption) ?_
            rotate_left
            · intro w9 hSw
              obtain ⟨g1, g2, g3⟩ := hSw
              go_simp
              try with_reducible rfl
            try simp only [Act.put, List.setIfInBounds_toArray, List.set_cons_zero, List.set_cons_succ]
            refine wpAnyH_done (by kernel_rfl) ?_ _
            have HF := Lib.hid (hb2.out.trans (hy2.mono hbs2))
            have HF2 := Lib.hid (hbx2.out.trans (hy2.mono hzx2))
            clear hy0 hx1 hy1 hx2 hy2
            cases b
            case true =>
              have HN := Lib.hid (HNO.out.1 (fun hv => by have h1 := (HVR.out hv).2; have h2 := HBD.out.2; symm at h2; rw [decide_eq_true_eq] at h2; omega))
              go_wp2_with fail
              go_ret
              exact ⟨by rw [HN.out]; rfl, HF.out⟩
            case false =>
              have HLO : Hid (∀ q (hq : q < rs.length), q < j2 + 1 → refMay rs[q] = true ∧ cntR rs rs[q] ≤ 1) := Lib.hid (fun q hq hqj => by
                by_cases hqj2 : q < j2
                · exact hlo2.out q hq hqj2
                · obtain rfl : q = j2 := by omega
                  rw [← HRJ.out]
                  have h2 := HBD.out.2
                  symm at h2
                  rw [decide_eq_false_iff_not] at h2
                  exact ⟨HBD.out.1, by omega⟩)
              go_wp2_with fail
              go_roundw
              case rel => exact ⟨j2 + 1, by omega, by go_num, HLO, HF, HF2⟩
              case measure => simp [intOf]; omega
        · have hjl : ¬ (j2 : Int) < (rs.length : Int) := by omega
          have HN := Lib.hid (HNO.out.2 (HV.out.2 ⟨⟨h1, h2⟩, HLP.out, fun q hq => hlo2.out q hq (by omega)⟩))
          go_wp2_with fail
          go_ret
          exact ⟨by rw [HN.out]; rfl, hb2.out⟩

end Go.Proofs.YtpmafabphlejeaaGreat
