/-
  Texts, together: Mq98, Mq110, Mq119, Mq100.
  Conditions: none but sizes.
-/
import Derived.Deep.RegionHeld3
import Derived.Test.YtpbdnfonflmncaaGreatMq0Z
/-
  The document's arg of an argument of the kind 98.
  Conditions: none but sizes.
-/
namespace Go.Proofs.YtpbdnfonflmncaaGreat
open Go.RowKit
set_option linter.unusedVariables false
set_option linter.unusedSimpArgs false

set_option maxRecDepth 100000 in
set_option maxHeartbeats 4000000 in
theorem qarg_98 (a : ArgP) (A : Option Addr) (c dq : Nat) (v0 v1 v2 v3 v4 : Value) (w : World) (h : ShowsA w a A c dq v0 v1 v2 v3 v4) (hql : a.q.length ≤ 1100) :
    Calls Tryz.prog 24 #[.int .u8 (98 : Nat), argV a (.slice A a.q.length c) v0 v1 v2 v3 v4] w (ArgSaid 98 a w) := by
  have hX := BoxG.new w a (.slice A a.q.length c) v0 v1 v2 v3 v4
  have hb0 : Below w.heap.size w (w.alloc (Obj.cells #[.bool a.is, .int .u64 a.n, .string a.s, .int .u32 a.f, .string a.g, .string a.h, .slice A a.q.length c, v0, v1, v2, v3, v4] 52)) := below_box w _
  have HS := Lib.hid (fun w' (hb : Below w.heap.size w w') => h.kept hb (Nat.le_refl _))
  have hsz := h.sz
  have HA := Lib.hid (show a = a from rfl)
  have HV := Lib.hid (fun w' (hb : Below w.heap.size w w') => (show Calls Tryz.prog 42 #[.agg #[v0, v1, v2, v3, v4], .agg #[.int .u8 0, .int .u64 0, .string ⟨#[]⟩, .slice none 0 0, .slice none 0 0]] w' fun e w'' => e = .returned (.bool (sameT a.v zT)) ∧ Below w'.heap.size w' w'' from qsame_main _ a.v zT [v0, v1, v2, v3, v4] [.int .u8 (0 : Nat), .int .u64 (0 : Nat), .string ⟨#[]⟩, .slice none 0 0, .slice none 0 0] w' rfl (h.kept hb (Nat.le_refl _)).v (shows_zT w')))
  have HE : Hid (∀ w' : World, (Op.equalIn 10000 44 (.agg #[.int .u32 (a.f : Int), .string a.g, .string a.h]) (.agg #[.int .u32 0, .string ⟨#[]⟩, .string ⟨#[]⟩])).run Tryz.prog w' = .ok (decide (a.f = 0 ∧ a.g = ⟨#[]⟩ ∧ a.h = ⟨#[]⟩)) w') := Lib.hid fun w' => run_eq_xid a.f 0 a.g a.h ⟨#[]⟩ ⟨#[]⟩ w'
  have hG := xidGuard
  have HST : Hid (sameT a.v zT = true ↔ a.v = zT) := Lib.hid (sameT_iff _ _)
  unfold argV
  obtain ⟨⟨p0, p1, p2⟩, ⟨p3, p4, p5⟩, p6, p7, p8, p9, p10, p11⟩ := hX.cells
  obtain ⟨ai, an, az, af, ag, ah, aq, av⟩ := a
  simp only [] at *
  generalize hW : w.alloc (Obj.cells #[.bool ai, .int .u64 an, .string az, .int .u32 af, .string ag, .string ah, .slice A aq.length c, v0, v1, v2, v3, v4] 52) = W at *
  have HLT : Hid (w.heap.size < W.heap.size) := Lib.hid (by rw [← hW]; simp)
  have HWW := Lib.hid hW
  have HB := Lib.hid hb0
  generalize sameT av zT = S at *
  clear hX hb0 hW h hsz HS HA
  by_cases H2 : an = 0
  · skip
    have s2 : ((an : Int) != 0) = false := by rw [H2]; rfl
    by_cases H3 : az = ⟨#[]⟩
    · skip
      have s3 : az.toList = [] := by rw [sb_toList, H3]; rfl
      have s3b : (az.toList == []) = true := by rw [s3]; rfl
      by_cases H4 : af = 0 ∧ ag = ⟨#[]⟩ ∧ ah = ⟨#[]⟩
      · skip
        have hE := fun w' => HE.out w'
        rw [decide_eq_true H4] at hE
        by_cases H5 : aq = []
        · skip
          have s5 : decide (0 < aq.length) = false := by rw [H5]; rfl
          by_cases H6 : S = true
          · skip
            obtain rfl : S = true := H6
            have HBR : Hid (bareA 98 ⟨ai, an, az, af, ag, ah, aq, av⟩) := Lib.hid ⟨fun _ => H2, fun _ => H3, fun _ => H4, fun _ => H5, fun _ => HST.out.1 (by first | rfl | trivial)⟩
            have HIS : Hid (98 ≠ 98 → ai = true) := Lib.hid (fun x => absurd rfl x)
            clear H2 H3 H4 H5
            go_enter Tryz.func24, Tryz.ntmps24
            go_upto_region 1 with fail
            rw [HWW.out]
            go_upto_region 5 with (go_at_call 42; refine (HV.out _ HB.out).mono ?_; rintro e w2 ⟨rfl, hb2⟩; have hB2 := HB.out.trans (hb2.mono HB.out.size); have HB2 := Lib.hid (And.intro hb2 hB2); have hXB := hb2.size; clear hb2 hB2)
            go_wp2_with fail
            go_ret2
            exact arg_yes _ rfl ⟨HIS.out, fit_b _, HBR.out⟩ (Own.nil_ _ _ _) HB2.out.2
          · skip
            obtain rfl : S = false := by simpa using H6
            have HNV : Hid (¬ validA 98 ⟨ai, an, az, af, ag, ah, aq, av⟩) := Lib.hid (fun hv => (by have := HST.out.2 (hv.2.2.2.2.2.2 (by decide)); cases this))
            clear H2 H3 H4 H5
            go_enter Tryz.func24, Tryz.ntmps24
            go_upto_region 1 with fail
            rw [HWW.out]
            go_wp2_with fail
            refine (HV.out _ HB.out).mono ?_
            rintro e w2 ⟨rfl, hb2⟩
            have hB2 := HB.out.trans (hb2.mono HB.out.size)
            go_wp2_with fail
            go_ret2
            exact arg_no _ rfl HNV.out hB2
        · skip
          have s5 : decide (0 < aq.length) = true := by have := List.length_pos_iff.2 H5; simpa using this
          have HNV : Hid (¬ validA 98 ⟨ai, an, az, af, ag, ah, aq, av⟩) := Lib.hid (fun hv => H5 (hv.2.2.2.2.2.1 (by decide)))
          clear H2 H3 H4 H5
          go_enter Tryz.func24, Tryz.ntmps24
          go_upto_region 1 with fail
          rw [HWW.out]
          go_wp2_with fail
          go_ret2
          exact arg_no _ rfl HNV.out HB.out
      · skip
        have hE := fun w' => HE.out w'
        rw [decide_eq_false H4] at hE
        have HNV : Hid (¬ validA 98 ⟨ai, an, az, af, ag, ah, aq, av⟩) := Lib.hid (fun hv => H4 (hv.2.2.2.2.1 (by decide)))
        clear H2 H3 H4
        go_enter Tryz.func24, Tryz.ntmps24
        go_upto_region 1 with fail
        rw [HWW.out]
        go_wp2_with fail
        go_ret2
        exact arg_no _ rfl HNV.out HB.out
    · skip
      have s3 : ¬ az.toList = [] := by rw [sb_toList]; intro e; exact H3 (xsb_inj.1 e)
      have s3b : (az.toList == []) = false := by simpa using s3
      have HNV : Hid (¬ validA 98 ⟨ai, an, az, af, ag, ah, aq, av⟩) := Lib.hid (fun hv => H3 (hv.2.2.2.1 (by decide)))
      clear H2 H3
      go_enter Tryz.func24, Tryz.ntmps24
      go_upto_region 1 with fail
      rw [HWW.out]
      go_wp2_with fail
      go_ret2
      exact arg_no _ rfl HNV.out HB.out
  · skip
    have s2 : ((an : Int) != 0) = true := by rw [bne_iff_ne]; omega
    have HNV : Hid (¬ validA 98 ⟨ai, an, az, af, ag, ah, aq, av⟩) := Lib.hid (fun hv => H2 (hv.2.2.1 (by decide)))
    clear H2
    go_enter Tryz.func24, Tryz.ntmps24
    go_upto_region 1 with fail
    rw [HWW.out]
    go_wp2_with fail
    go_ret2
    exact arg_no _ rfl HNV.out HB.out

end Go.Proofs.YtpbdnfonflmncaaGreat
/-
  The document's arg of an argument of the kind 110.
  Conditions: none but sizes.
-/
namespace Go.Proofs.YtpbdnfonflmncaaGreat
open Go.RowKit
set_option linter.unusedVariables false
set_option linter.unusedSimpArgs false

set_option maxRecDepth 100000 in
set_option maxHeartbeats 4000000 in
theorem qarg_110 (a : ArgP) (A : Option Addr) (c dq : Nat) (v0 v1 v2 v3 v4 : Value) (w : World) (h : ShowsA w a A c dq v0 v1 v2 v3 v4) (hql : a.q.length ≤ 1100) :
    Calls Tryz.prog 24 #[.int .u8 (110 : Nat), argV a (.slice A a.q.length c) v0 v1 v2 v3 v4] w (ArgSaid 110 a w) := by
  have hX := BoxG.new w a (.slice A a.q.length c) v0 v1 v2 v3 v4
  have hb0 : Below w.heap.size w (w.alloc (Obj.cells #[.bool a.is, .int .u64 a.n, .string a.s, .int .u32 a.f, .string a.g, .string a.h, .slice A a.q.length c, v0, v1, v2, v3, v4] 52)) := below_box w _
  have HS := Lib.hid (fun w' (hb : Below w.heap.size w w') => h.kept hb (Nat.le_refl _))
  have hsz := h.sz
  have HA := Lib.hid (show a = a from rfl)
  have HV := Lib.hid (fun w' (hb : Below w.heap.size w w') => (show Calls Tryz.prog 42 #[.agg #[v0, v1, v2, v3, v4], .agg #[.int .u8 0, .int .u64 0, .string ⟨#[]⟩, .slice none 0 0, .slice none 0 0]] w' fun e w'' => e = .returned (.bool (sameT a.v zT)) ∧ Below w'.heap.size w' w'' from qsame_main _ a.v zT [v0, v1, v2, v3, v4] [.int .u8 (0 : Nat), .int .u64 (0 : Nat), .string ⟨#[]⟩, .slice none 0 0, .slice none 0 0] w' rfl (h.kept hb (Nat.le_refl _)).v (shows_zT w')))
  have HWD := Lib.hid (fun w' => (show Calls Tryz.prog 44 #[.int .u8 (110 : Nat)] w' fun e w'' => e = .returned (.int .i64 1) ∧ w'' = w' from qwidth_any 110 (by omega) w'))
  have HNU := Lib.hid (fun w' => (show Calls Tryz.prog 43 #[.int .u64 a.n, .int .i64 1] w' fun e w'' => ∃ v, e = .returned v ∧ Own 5 w'' w'.heap.size v (be 1 a.n) ∧ Below w'.heap.size w' w'' from number_any 1 a.n w' (by omega) hsz.n))
  have HE : Hid (∀ w' : World, (Op.equalIn 10000 44 (.agg #[.int .u32 (a.f : Int), .string a.g, .string a.h]) (.agg #[.int .u32 0, .string ⟨#[]⟩, .string ⟨#[]⟩])).run Tryz.prog w' = .ok (decide (a.f = 0 ∧ a.g = ⟨#[]⟩ ∧ a.h = ⟨#[]⟩)) w') := Lib.hid fun w' => run_eq_xid a.f 0 a.g a.h ⟨#[]⟩ ⟨#[]⟩ w'
  have hG := xidGuard
  have HST : Hid (sameT a.v zT = true ↔ a.v = zT) := Lib.hid (sameT_iff _ _)
  unfold argV
  obtain ⟨⟨p0, p1, p2⟩, ⟨p3, p4, p5⟩, p6, p7, p8, p9, p10, p11⟩ := hX.cells
  obtain ⟨ai, an, az, af, ag, ah, aq, av⟩ := a
  simp only [] at *
  generalize hW : w.alloc (Obj.cells #[.bool ai, .int .u64 an, .string az, .int .u32 af, .string ag, .string ah, .slice A aq.length c, v0, v1, v2, v3, v4] 52) = W at *
  have HLT : Hid (w.heap.size < W.heap.size) := Lib.hid (by rw [← hW]; simp)
  have HWW := Lib.hid hW
  have HB := Lib.hid hb0
  generalize sameT av zT = S at *
  clear hX hb0 hW h hsz HS HA
  by_cases H1 : ai = true
  · skip
    rw [H1] at p0
    by_cases H3 : az = ⟨#[]⟩
    · skip
      have s3 : az.toList = [] := by rw [sb_toList, H3]; rfl
      have s3b : (az.toList == []) = true := by rw [s3]; rfl
      by_cases H4 : af = 0 ∧ ag = ⟨#[]⟩ ∧ ah = ⟨#[]⟩
      · skip
        have hE := fun w' => HE.out w'
        rw [decide_eq_true H4] at hE
        by_cases H5 : aq = []
        · skip
          have s5 : decide (0 < aq.length) = false := by rw [H5]; rfl
          by_cases H6 : S = true
          · skip
            obtain rfl : S = true := H6
            have HBR : Hid (bareA 110 ⟨ai, an, az, af, ag, ah, aq, av⟩) := Lib.hid ⟨fun x => absurd (show isNum 110 by decide) x, fun _ => H3, fun _ => H4, fun _ => H5, fun _ => HST.out.1 (by first | rfl | trivial)⟩
            have HIS : Hid (110 ≠ 98 → ai = true) := Lib.hid (fun _ => H1)
            clear H1 H3 H4 H5
            by_cases hf : an < 256
            · skip
              have i1 : (an : Int) < 256 := by omega
              have HF := Lib.hid hf
              clear hf
              go_enter Tryz.func24, Tryz.ntmps24
              go_upto_region 1 with fail
              rw [HWW.out]
              go_upto_region 5 with (go_at_call 42; refine (HV.out _ HB.out).mono ?_; rintro e w2 ⟨rfl, hb2⟩; have hB2 := HB.out.trans (hb2.mono HB.out.size); have HB2 := Lib.hid (And.intro hb2 hB2); have hXB := hb2.size; clear hb2 hB2)
              have hk2 : ∀ i, w2.cell? ⟨w.heap.size, i, none⟩ = W.cell? ⟨w.heap.size, i, none⟩ := fun i => World.cell?_of_block (HB2.out.1.block _ HLT.out)
              have q0 := (hk2 0).trans p0
              have q1 := (hk2 1).trans p1
              have q2 := (hk2 2).trans p2
              have q3 := (hk2 3).trans p3
              have q4 := (hk2 4).trans p4
              have q5 := (hk2 5).trans p5
              have q6 := (hk2 6).trans p6
              have q7 := (hk2 7).trans p7
              have q8 := (hk2 8).trans p8
              have q9 := (hk2 9).trans p9
              have q10 := (hk2 10).trans p10
              have q11 := (hk2 11).trans p11
              clear hk2
              have HL2 : Hid (w.heap.size < w2.heap.size) := Lib.hid (Nat.lt_of_lt_of_le HLT.out HB2.out.1.size)
              go_upto_region 9 with fail
              have HKEEP := Lib.hid (fun w' (hb : Below w2.heap.size w2 w') => (show w'.cell? ⟨w.heap.size, 1, none⟩ = some (.int .u64 an) from (World.cell?_of_block (hb.block _ HL2.out)).trans q1))
              have HNX := Lib.hid (fun w' w'' (hb' : Below w'.heap.size w' w'') (hb : Below w2.heap.size w2 w') => hb.trans (hb'.mono hb.size))
              have hbd : Below w2.heap.size w2 w2.drew := below_drew1 (Below.refl _ _)
              have HWB := Lib.hid (fun w' => (show Calls Tryz.prog 44 #[.int .u8 (110 : Nat)] w' fun e w'' => e = .returned (.int .i64 1) ∧ Below w'.heap.size w' w'' from (HWD.out w').mono fun e w'' ⟨h1, h2⟩ => ⟨h1, by rw [h2]; exact Below.refl _ _⟩))
              have HNV2 := Lib.hid (fun w' (hb : Below w2.heap.size w2 w') => (show Calls Tryz.prog 43 #[.int .u64 an, .int .i64 1] w' fun e w'' => ∃ v, e = .returned v ∧ Own 5 w'' w.heap.size v (be 1 an) ∧ Below w'.heap.size w' w'' from (HNU.out w').mono fun e w'' ⟨v, h1, h2, h3⟩ => ⟨v, h1, h2.mono (Nat.le_trans HB2.out.2.size hb.size), h3⟩))
              clear q0 q1 q2 q3 q4 q5 q6 q7 q8 q9 q10 q11 p0 p1 p2 p3 p4 p5 p6 p7 p8 p9 p10 p11
              go_region_held3 (fun w' => w'.cell? ⟨w.heap.size, 1, none⟩ = some (.int .u64 an)) (exact HKEEP.out _ (by assumption))
                (first
                  | (go_at_call 44
                     refine (HWB.out _).mono ?_
                     rintro e w5 ⟨rfl, hb5⟩
                     have hb5' := HNX.out _ _ hb5 (by assumption))
                  | (go_at_call 43
                     refine (HNV2.out _ (by assumption)).mono ?_
                     rintro e w6 ⟨v6, rfl, ho6, hb6⟩
                     have hb6' := HNX.out _ _ hb6 (by assumption)))
              all_goals
                go_wp2_with fail
                go_ret2
                rw [shl_1]
                rw [decide_eq_true i1]
                refine arg_yes v6 rfl ⟨HIS.out, (fit_num _ (by decide)).2 HF.out, HBR.out⟩ ?_ ?_
                · rw [show encA 110 ⟨ai, an, az, af, ag, ah, aq, av⟩ = be 1 an by unfold encA; rw [if_pos (by decide)]; rfl]
                  first | exact ho6 | exact own_below ho6 hb5
                · first | exact HB2.out.2.trans (hb5'.mono HB2.out.2.size) | exact HB2.out.2.trans (hb6'.mono HB2.out.2.size)
            · skip
              have i1 : ¬ (an : Int) < 256 := by omega
              have HF := Lib.hid hf
              clear hf
              go_enter Tryz.func24, Tryz.ntmps24
              go_upto_region 1 with fail
              rw [HWW.out]
              go_upto_region 5 with (go_at_call 42; refine (HV.out _ HB.out).mono ?_; rintro e w2 ⟨rfl, hb2⟩; have hB2 := HB.out.trans (hb2.mono HB.out.size); have HB2 := Lib.hid (And.intro hb2 hB2); have hXB := hb2.size; clear hb2 hB2)
              have hk2 : ∀ i, w2.cell? ⟨w.heap.size, i, none⟩ = W.cell? ⟨w.heap.size, i, none⟩ := fun i => World.cell?_of_block (HB2.out.1.block _ HLT.out)
              have q0 := (hk2 0).trans p0
              have q1 := (hk2 1).trans p1
              have q2 := (hk2 2).trans p2
              have q3 := (hk2 3).trans p3
              have q4 := (hk2 4).trans p4
              have q5 := (hk2 5).trans p5
              have q6 := (hk2 6).trans p6
              have q7 := (hk2 7).trans p7
              have q8 := (hk2 8).trans p8
              have q9 := (hk2 9).trans p9
              have q10 := (hk2 10).trans p10
              have q11 := (hk2 11).trans p11
              clear hk2
              have HL2 : Hid (w.heap.size < w2.heap.size) := Lib.hid (Nat.lt_of_lt_of_le HLT.out HB2.out.1.size)
              go_upto_region 9 with fail
              have HKEEP := Lib.hid (fun w' (hb : Below w2.heap.size w2 w') => (show w'.cell? ⟨w.heap.size, 1, none⟩ = some (.int .u64 an) from (World.cell?_of_block (hb.block _ HL2.out)).trans q1))
              have HNX := Lib.hid (fun w' w'' (hb' : Below w'.heap.size w' w'') (hb : Below w2.heap.size w2 w') => hb.trans (hb'.mono hb.size))
              have hbd : Below w2.heap.size w2 w2.drew := below_drew1 (Below.refl _ _)
              have HWB := Lib.hid (fun w' => (show Calls Tryz.prog 44 #[.int .u8 (110 : Nat)] w' fun e w'' => e = .returned (.int .i64 1) ∧ Below w'.heap.size w' w'' from (HWD.out w').mono fun e w'' ⟨h1, h2⟩ => ⟨h1, by rw [h2]; exact Below.refl _ _⟩))
              have HNV2 := Lib.hid (fun w' (hb : Below w2.heap.size w2 w') => (show Calls Tryz.prog 43 #[.int .u64 an, .int .i64 1] w' fun e w'' => ∃ v, e = .returned v ∧ Own 5 w'' w.heap.size v (be 1 an) ∧ Below w'.heap.size w' w'' from (HNU.out w').mono fun e w'' ⟨v, h1, h2, h3⟩ => ⟨v, h1, h2.mono (Nat.le_trans HB2.out.2.size hb.size), h3⟩))
              clear q0 q1 q2 q3 q4 q5 q6 q7 q8 q9 q10 q11 p0 p1 p2 p3 p4 p5 p6 p7 p8 p9 p10 p11
              go_region_held3 (fun w' => w'.cell? ⟨w.heap.size, 1, none⟩ = some (.int .u64 an)) (exact HKEEP.out _ (by assumption))
                (first
                  | (go_at_call 44
                     refine (HWB.out _).mono ?_
                     rintro e w5 ⟨rfl, hb5⟩
                     have hb5' := HNX.out _ _ hb5 (by assumption))
                  | (go_at_call 43
                     refine (HNV2.out _ (by assumption)).mono ?_
                     rintro e w6 ⟨v6, rfl, ho6, hb6⟩
                     have hb6' := HNX.out _ _ hb6 (by assumption)))
              all_goals
                go_wp2_with fail
                go_ret2
                rw [shl_1]
                rw [decide_eq_false (show ¬ ((an : Int) < 256) by omega)]
                refine arg_no v6 rfl (fun hv => HF.out ((fit_num _ (by decide)).1 hv.2.1)) ?_
                first | exact HB2.out.2.trans (hb5'.mono HB2.out.2.size) | exact HB2.out.2.trans (hb6'.mono HB2.out.2.size)
          · skip
            obtain rfl : S = false := by simpa using H6
            have HNV : Hid (¬ validA 110 ⟨ai, an, az, af, ag, ah, aq, av⟩) := Lib.hid (fun hv => (by have := HST.out.2 (hv.2.2.2.2.2.2 (by decide)); cases this))
            clear H1 H3 H4 H5
            go_enter Tryz.func24, Tryz.ntmps24
            go_upto_region 1 with fail
            rw [HWW.out]
            go_wp2_with fail
            refine (HV.out _ HB.out).mono ?_
            rintro e w2 ⟨rfl, hb2⟩
            have hB2 := HB.out.trans (hb2.mono HB.out.size)
            go_wp2_with fail
            go_ret2
            exact arg_no _ rfl HNV.out hB2
        · skip
          have s5 : decide (0 < aq.length) = true := by have := List.length_pos_iff.2 H5; simpa using this
          have HNV : Hid (¬ validA 110 ⟨ai, an, az, af, ag, ah, aq, av⟩) := Lib.hid (fun hv => H5 (hv.2.2.2.2.2.1 (by decide)))
          clear H1 H3 H4 H5
          go_enter Tryz.func24, Tryz.ntmps24
          go_upto_region 1 with fail
          rw [HWW.out]
          go_wp2_with fail
          go_ret2
          exact arg_no _ rfl HNV.out HB.out
      · skip
        have hE := fun w' => HE.out w'
        rw [decide_eq_false H4] at hE
        have HNV : Hid (¬ validA 110 ⟨ai, an, az, af, ag, ah, aq, av⟩) := Lib.hid (fun hv => H4 (hv.2.2.2.2.1 (by decide)))
        clear H1 H3 H4
        go_enter Tryz.func24, Tryz.ntmps24
        go_upto_region 1 with fail
        rw [HWW.out]
        go_wp2_with fail
        go_ret2
        exact arg_no _ rfl HNV.out HB.out
    · skip
      have s3 : ¬ az.toList = [] := by rw [sb_toList]; intro e; exact H3 (xsb_inj.1 e)
      have s3b : (az.toList == []) = false := by simpa using s3
      have HNV : Hid (¬ validA 110 ⟨ai, an, az, af, ag, ah, aq, av⟩) := Lib.hid (fun hv => H3 (hv.2.2.2.1 (by decide)))
      clear H1 H3
      go_enter Tryz.func24, Tryz.ntmps24
      go_upto_region 1 with fail
      rw [HWW.out]
      go_wp2_with fail
      go_ret2
      exact arg_no _ rfl HNV.out HB.out
  · skip
    rw [show ai = false by simpa using H1] at p0
    have HNV : Hid (¬ validA 110 ⟨ai, an, az, af, ag, ah, aq, av⟩) := Lib.hid (fun hv => H1 (hv.1 (by decide)))
    clear H1
    go_enter Tryz.func24, Tryz.ntmps24
    go_upto_region 1 with fail
    rw [HWW.out]
    go_wp2_with fail
    go_ret2
    exact arg_no _ rfl HNV.out HB.out

end Go.Proofs.YtpbdnfonflmncaaGreat
/-
  The document's arg of an argument of the kind 119.
  Conditions: none but sizes.
-/
namespace Go.Proofs.YtpbdnfonflmncaaGreat
open Go.RowKit
set_option linter.unusedVariables false
set_option linter.unusedSimpArgs false

set_option maxRecDepth 100000 in
set_option maxHeartbeats 4000000 in
theorem qarg_119 (a : ArgP) (A : Option Addr) (c dq : Nat) (v0 v1 v2 v3 v4 : Value) (w : World) (h : ShowsA w a A c dq v0 v1 v2 v3 v4) (hql : a.q.length ≤ 1100) :
    Calls Tryz.prog 24 #[.int .u8 (119 : Nat), argV a (.slice A a.q.length c) v0 v1 v2 v3 v4] w (ArgSaid 119 a w) := by
  have hX := BoxG.new w a (.slice A a.q.length c) v0 v1 v2 v3 v4
  have hb0 : Below w.heap.size w (w.alloc (Obj.cells #[.bool a.is, .int .u64 a.n, .string a.s, .int .u32 a.f, .string a.g, .string a.h, .slice A a.q.length c, v0, v1, v2, v3, v4] 52)) := below_box w _
  have HS := Lib.hid (fun w' (hb : Below w.heap.size w w') => h.kept hb (Nat.le_refl _))
  have hsz := h.sz
  have HA := Lib.hid (show a = a from rfl)
  have HV := Lib.hid (fun w' (hb : Below w.heap.size w w') => (show Calls Tryz.prog 42 #[.agg #[v0, v1, v2, v3, v4], .agg #[.int .u8 0, .int .u64 0, .string ⟨#[]⟩, .slice none 0 0, .slice none 0 0]] w' fun e w'' => e = .returned (.bool (sameT a.v zT)) ∧ Below w'.heap.size w' w'' from qsame_main _ a.v zT [v0, v1, v2, v3, v4] [.int .u8 (0 : Nat), .int .u64 (0 : Nat), .string ⟨#[]⟩, .slice none 0 0, .slice none 0 0] w' rfl (h.kept hb (Nat.le_refl _)).v (shows_zT w')))
  have HWD := Lib.hid (fun w' => (show Calls Tryz.prog 44 #[.int .u8 (119 : Nat)] w' fun e w'' => e = .returned (.int .i64 2) ∧ w'' = w' from qwidth_any 119 (by omega) w'))
  have HNU := Lib.hid (fun w' => (show Calls Tryz.prog 43 #[.int .u64 a.n, .int .i64 2] w' fun e w'' => ∃ v, e = .returned v ∧ Own 5 w'' w'.heap.size v (be 2 a.n) ∧ Below w'.heap.size w' w'' from number_any 2 a.n w' (by omega) hsz.n))
  have HE : Hid (∀ w' : World, (Op.equalIn 10000 44 (.agg #[.int .u32 (a.f : Int), .string a.g, .string a.h]) (.agg #[.int .u32 0, .string ⟨#[]⟩, .string ⟨#[]⟩])).run Tryz.prog w' = .ok (decide (a.f = 0 ∧ a.g = ⟨#[]⟩ ∧ a.h = ⟨#[]⟩)) w') := Lib.hid fun w' => run_eq_xid a.f 0 a.g a.h ⟨#[]⟩ ⟨#[]⟩ w'
  have hG := xidGuard
  have HST : Hid (sameT a.v zT = true ↔ a.v = zT) := Lib.hid (sameT_iff _ _)
  unfold argV
  obtain ⟨⟨p0, p1, p2⟩, ⟨p3, p4, p5⟩, p6, p7, p8, p9, p10, p11⟩ := hX.cells
  obtain ⟨ai, an, az, af, ag, ah, aq, av⟩ := a
  simp only [] at *
  generalize hW : w.alloc (Obj.cells #[.bool ai, .int .u64 an, .string az, .int .u32 af, .string ag, .string ah, .slice A aq.length c, v0, v1, v2, v3, v4] 52) = W at *
  have HLT : Hid (w.heap.size < W.heap.size) := Lib.hid (by rw [← hW]; simp)
  have HWW := Lib.hid hW
  have HB := Lib.hid hb0
  generalize sameT av zT = S at *
  clear hX hb0 hW h hsz HS HA
  by_cases H1 : ai = true
  · skip
    rw [H1] at p0
    by_cases H3 : az = ⟨#[]⟩
    · skip
      have s3 : az.toList = [] := by rw [sb_toList, H3]; rfl
      have s3b : (az.toList == []) = true := by rw [s3]; rfl
      by_cases H4 : af = 0 ∧ ag = ⟨#[]⟩ ∧ ah = ⟨#[]⟩
      · skip
        have hE := fun w' => HE.out w'
        rw [decide_eq_true H4] at hE
        by_cases H5 : aq = []
        · skip
          have s5 : decide (0 < aq.length) = false := by rw [H5]; rfl
          by_cases H6 : S = true
          · skip
            obtain rfl : S = true := H6
            have HBR : Hid (bareA 119 ⟨ai, an, az, af, ag, ah, aq, av⟩) := Lib.hid ⟨fun x => absurd (show isNum 119 by decide) x, fun _ => H3, fun _ => H4, fun _ => H5, fun _ => HST.out.1 (by first | rfl | trivial)⟩
            have HIS : Hid (119 ≠ 98 → ai = true) := Lib.hid (fun _ => H1)
            clear H1 H3 H4 H5
            by_cases hf : an < 65536
            · skip
              have i1 : (an : Int) < 65536 := by omega
              have HF := Lib.hid hf
              clear hf
              go_enter Tryz.func24, Tryz.ntmps24
              go_upto_region 1 with fail
              rw [HWW.out]
              go_upto_region 5 with (go_at_call 42; refine (HV.out _ HB.out).mono ?_; rintro e w2 ⟨rfl, hb2⟩; have hB2 := HB.out.trans (hb2.mono HB.out.size); have HB2 := Lib.hid (And.intro hb2 hB2); have hXB := hb2.size; clear hb2 hB2)
              have hk2 : ∀ i, w2.cell? ⟨w.heap.size, i, none⟩ = W.cell? ⟨w.heap.size, i, none⟩ := fun i => World.cell?_of_block (HB2.out.1.block _ HLT.out)
              have q0 := (hk2 0).trans p0
              have q1 := (hk2 1).trans p1
              have q2 := (hk2 2).trans p2
              have q3 := (hk2 3).trans p3
              have q4 := (hk2 4).trans p4
              have q5 := (hk2 5).trans p5
              have q6 := (hk2 6).trans p6
              have q7 := (hk2 7).trans p7
              have q8 := (hk2 8).trans p8
              have q9 := (hk2 9).trans p9
              have q10 := (hk2 10).trans p10
              have q11 := (hk2 11).trans p11
              clear hk2
              have HL2 : Hid (w.heap.size < w2.heap.size) := Lib.hid (Nat.lt_of_lt_of_le HLT.out HB2.out.1.size)
              go_upto_region 9 with fail
              have HKEEP := Lib.hid (fun w' (hb : Below w2.heap.size w2 w') => (show w'.cell? ⟨w.heap.size, 1, none⟩ = some (.int .u64 an) from (World.cell?_of_block (hb.block _ HL2.out)).trans q1))
              have HNX := Lib.hid (fun w' w'' (hb' : Below w'.heap.size w' w'') (hb : Below w2.heap.size w2 w') => hb.trans (hb'.mono hb.size))
              have hbd : Below w2.heap.size w2 w2.drew := below_drew1 (Below.refl _ _)
              have HWB := Lib.hid (fun w' => (show Calls Tryz.prog 44 #[.int .u8 (119 : Nat)] w' fun e w'' => e = .returned (.int .i64 2) ∧ Below w'.heap.size w' w'' from (HWD.out w').mono fun e w'' ⟨h1, h2⟩ => ⟨h1, by rw [h2]; exact Below.refl _ _⟩))
              have HNV2 := Lib.hid (fun w' (hb : Below w2.heap.size w2 w') => (show Calls Tryz.prog 43 #[.int .u64 an, .int .i64 2] w' fun e w'' => ∃ v, e = .returned v ∧ Own 5 w'' w.heap.size v (be 2 an) ∧ Below w'.heap.size w' w'' from (HNU.out w').mono fun e w'' ⟨v, h1, h2, h3⟩ => ⟨v, h1, h2.mono (Nat.le_trans HB2.out.2.size hb.size), h3⟩))
              clear q0 q1 q2 q3 q4 q5 q6 q7 q8 q9 q10 q11 p0 p1 p2 p3 p4 p5 p6 p7 p8 p9 p10 p11
              go_region_held3 (fun w' => w'.cell? ⟨w.heap.size, 1, none⟩ = some (.int .u64 an)) (exact HKEEP.out _ (by assumption))
                (first
                  | (go_at_call 44
                     refine (HWB.out _).mono ?_
                     rintro e w5 ⟨rfl, hb5⟩
                     have hb5' := HNX.out _ _ hb5 (by assumption))
                  | (go_at_call 43
                     refine (HNV2.out _ (by assumption)).mono ?_
                     rintro e w6 ⟨v6, rfl, ho6, hb6⟩
                     have hb6' := HNX.out _ _ hb6 (by assumption)))
              all_goals
                go_wp2_with fail
                go_ret2
                rw [shl_2]
                rw [decide_eq_true i1]
                refine arg_yes v6 rfl ⟨HIS.out, (fit_num _ (by decide)).2 HF.out, HBR.out⟩ ?_ ?_
                · rw [show encA 119 ⟨ai, an, az, af, ag, ah, aq, av⟩ = be 2 an by unfold encA; rw [if_pos (by decide)]; rfl]
                  first | exact ho6 | exact own_below ho6 hb5
                · first | exact HB2.out.2.trans (hb5'.mono HB2.out.2.size) | exact HB2.out.2.trans (hb6'.mono HB2.out.2.size)
            · skip
              have i1 : ¬ (an : Int) < 65536 := by omega
              have HF := Lib.hid hf
              clear hf
              go_enter Tryz.func24, Tryz.ntmps24
              go_upto_region 1 with fail
              rw [HWW.out]
              go_upto_region 5 with (go_at_call 42; refine (HV.out _ HB.out).mono ?_; rintro e w2 ⟨rfl, hb2⟩; have hB2 := HB.out.trans (hb2.mono HB.out.size); have HB2 := Lib.hid (And.intro hb2 hB2); have hXB := hb2.size; clear hb2 hB2)
              have hk2 : ∀ i, w2.cell? ⟨w.heap.size, i, none⟩ = W.cell? ⟨w.heap.size, i, none⟩ := fun i => World.cell?_of_block (HB2.out.1.block _ HLT.out)
              have q0 := (hk2 0).trans p0
              have q1 := (hk2 1).trans p1
              have q2 := (hk2 2).trans p2
              have q3 := (hk2 3).trans p3
              have q4 := (hk2 4).trans p4
              have q5 := (hk2 5).trans p5
              have q6 := (hk2 6).trans p6
              have q7 := (hk2 7).trans p7
              have q8 := (hk2 8).trans p8
              have q9 := (hk2 9).trans p9
              have q10 := (hk2 10).trans p10
              have q11 := (hk2 11).trans p11
              clear hk2
              have HL2 : Hid (w.heap.size < w2.heap.size) := Lib.hid (Nat.lt_of_lt_of_le HLT.out HB2.out.1.size)
              go_upto_region 9 with fail
              have HKEEP := Lib.hid (fun w' (hb : Below w2.heap.size w2 w') => (show w'.cell? ⟨w.heap.size, 1, none⟩ = some (.int .u64 an) from (World.cell?_of_block (hb.block _ HL2.out)).trans q1))
              have HNX := Lib.hid (fun w' w'' (hb' : Below w'.heap.size w' w'') (hb : Below w2.heap.size w2 w') => hb.trans (hb'.mono hb.size))
              have hbd : Below w2.heap.size w2 w2.drew := below_drew1 (Below.refl _ _)
              have HWB := Lib.hid (fun w' => (show Calls Tryz.prog 44 #[.int .u8 (119 : Nat)] w' fun e w'' => e = .returned (.int .i64 2) ∧ Below w'.heap.size w' w'' from (HWD.out w').mono fun e w'' ⟨h1, h2⟩ => ⟨h1, by rw [h2]; exact Below.refl _ _⟩))
              have HNV2 := Lib.hid (fun w' (hb : Below w2.heap.size w2 w') => (show Calls Tryz.prog 43 #[.int .u64 an, .int .i64 2] w' fun e w'' => ∃ v, e = .returned v ∧ Own 5 w'' w.heap.size v (be 2 an) ∧ Below w'.heap.size w' w'' from (HNU.out w').mono fun e w'' ⟨v, h1, h2, h3⟩ => ⟨v, h1, h2.mono (Nat.le_trans HB2.out.2.size hb.size), h3⟩))
              clear q0 q1 q2 q3 q4 q5 q6 q7 q8 q9 q10 q11 p0 p1 p2 p3 p4 p5 p6 p7 p8 p9 p10 p11
              go_region_held3 (fun w' => w'.cell? ⟨w.heap.size, 1, none⟩ = some (.int .u64 an)) (exact HKEEP.out _ (by assumption))
                (first
                  | (go_at_call 44
                     refine (HWB.out _).mono ?_
                     rintro e w5 ⟨rfl, hb5⟩
                     have hb5' := HNX.out _ _ hb5 (by assumption))
                  | (go_at_call 43
                     refine (HNV2.out _ (by assumption)).mono ?_
                     rintro e w6 ⟨v6, rfl, ho6, hb6⟩
                     have hb6' := HNX.out _ _ hb6 (by assumption)))
              all_goals
                go_wp2_with fail
                go_ret2
                rw [shl_2]
                rw [decide_eq_false (show ¬ ((an : Int) < 65536) by omega)]
                refine arg_no v6 rfl (fun hv => HF.out ((fit_num _ (by decide)).1 hv.2.1)) ?_
                first | exact HB2.out.2.trans (hb5'.mono HB2.out.2.size) | exact HB2.out.2.trans (hb6'.mono HB2.out.2.size)
          · skip
            obtain rfl : S = false := by simpa using H6
            have HNV : Hid (¬ validA 119 ⟨ai, an, az, af, ag, ah, aq, av⟩) := Lib.hid (fun hv => (by have := HST.out.2 (hv.2.2.2.2.2.2 (by decide)); cases this))
            clear H1 H3 H4 H5
            go_enter Tryz.func24, Tryz.ntmps24
            go_upto_region 1 with fail
            rw [HWW.out]
            go_wp2_with fail
            refine (HV.out _ HB.out).mono ?_
            rintro e w2 ⟨rfl, hb2⟩
            have hB2 := HB.out.trans (hb2.mono HB.out.size)
            go_wp2_with fail
            go_ret2
            exact arg_no _ rfl HNV.out hB2
        · skip
          have s5 : decide (0 < aq.length) = true := by have := List.length_pos_iff.2 H5; simpa using this
          have HNV : Hid (¬ validA 119 ⟨ai, an, az, af, ag, ah, aq, av⟩) := Lib.hid (fun hv => H5 (hv.2.2.2.2.2.1 (by decide)))
          clear H1 H3 H4 H5
          go_enter Tryz.func24, Tryz.ntmps24
          go_upto_region 1 with fail
          rw [HWW.out]
          go_wp2_with fail
          go_ret2
          exact arg_no _ rfl HNV.out HB.out
      · skip
        have hE := fun w' => HE.out w'
        rw [decide_eq_false H4] at hE
        have HNV : Hid (¬ validA 119 ⟨ai, an, az, af, ag, ah, aq, av⟩) := Lib.hid (fun hv => H4 (hv.2.2.2.2.1 (by decide)))
        clear H1 H3 H4
        go_enter Tryz.func24, Tryz.ntmps24
        go_upto_region 1 with fail
        rw [HWW.out]
        go_wp2_with fail
        go_ret2
        exact arg_no _ rfl HNV.out HB.out
    · skip
      have s3 : ¬ az.toList = [] := by rw [sb_toList]; intro e; exact H3 (xsb_inj.1 e)
      have s3b : (az.toList == []) = false := by simpa using s3
      have HNV : Hid (¬ validA 119 ⟨ai, an, az, af, ag, ah, aq, av⟩) := Lib.hid (fun hv => H3 (hv.2.2.2.1 (by decide)))
      clear H1 H3
      go_enter Tryz.func24, Tryz.ntmps24
      go_upto_region 1 with fail
      rw [HWW.out]
      go_wp2_with fail
      go_ret2
      exact arg_no _ rfl HNV.out HB.out
  · skip
    rw [show ai = false by simpa using H1] at p0
    have HNV : Hid (¬ validA 119 ⟨ai, an, az, af, ag, ah, aq, av⟩) := Lib.hid (fun hv => H1 (hv.1 (by decide)))
    clear H1
    go_enter Tryz.func24, Tryz.ntmps24
    go_upto_region 1 with fail
    rw [HWW.out]
    go_wp2_with fail
    go_ret2
    exact arg_no _ rfl HNV.out HB.out

end Go.Proofs.YtpbdnfonflmncaaGreat
/-
  The document's arg of an argument of the kind 100.
  Conditions: none but sizes.
-/
namespace Go.Proofs.YtpbdnfonflmncaaGreat
open Go.RowKit
set_option linter.unusedVariables false
set_option linter.unusedSimpArgs false

set_option maxRecDepth 100000 in
set_option maxHeartbeats 4000000 in
theorem qarg_100 (a : ArgP) (A : Option Addr) (c dq : Nat) (v0 v1 v2 v3 v4 : Value) (w : World) (h : ShowsA w a A c dq v0 v1 v2 v3 v4) (hql : a.q.length ≤ 1100) :
    Calls Tryz.prog 24 #[.int .u8 (100 : Nat), argV a (.slice A a.q.length c) v0 v1 v2 v3 v4] w (ArgSaid 100 a w) := by
  have hX := BoxG.new w a (.slice A a.q.length c) v0 v1 v2 v3 v4
  have hb0 : Below w.heap.size w (w.alloc (Obj.cells #[.bool a.is, .int .u64 a.n, .string a.s, .int .u32 a.f, .string a.g, .string a.h, .slice A a.q.length c, v0, v1, v2, v3, v4] 52)) := below_box w _
  have HS := Lib.hid (fun w' (hb : Below w.heap.size w w') => h.kept hb (Nat.le_refl _))
  have hsz := h.sz
  have HA := Lib.hid (show a = a from rfl)
  have HV := Lib.hid (fun w' (hb : Below w.heap.size w w') => (show Calls Tryz.prog 42 #[.agg #[v0, v1, v2, v3, v4], .agg #[.int .u8 0, .int .u64 0, .string ⟨#[]⟩, .slice none 0 0, .slice none 0 0]] w' fun e w'' => e = .returned (.bool (sameT a.v zT)) ∧ Below w'.heap.size w' w'' from qsame_main _ a.v zT [v0, v1, v2, v3, v4] [.int .u8 (0 : Nat), .int .u64 (0 : Nat), .string ⟨#[]⟩, .slice none 0 0, .slice none 0 0] w' rfl (h.kept hb (Nat.le_refl _)).v (shows_zT w')))
  have HWD := Lib.hid (fun w' => (show Calls Tryz.prog 44 #[.int .u8 (100 : Nat)] w' fun e w'' => e = .returned (.int .i64 4) ∧ w'' = w' from qwidth_any 100 (by omega) w'))
  have HNU := Lib.hid (fun w' => (show Calls Tryz.prog 43 #[.int .u64 a.n, .int .i64 4] w' fun e w'' => ∃ v, e = .returned v ∧ Own 5 w'' w'.heap.size v (be 4 a.n) ∧ Below w'.heap.size w' w'' from number_any 4 a.n w' (by omega) hsz.n))
  have HE : Hid (∀ w' : World, (Op.equalIn 10000 44 (.agg #[.int .u32 (a.f : Int), .string a.g, .string a.h]) (.agg #[.int .u32 0, .string ⟨#[]⟩, .string ⟨#[]⟩])).run Tryz.prog w' = .ok (decide (a.f = 0 ∧ a.g = ⟨#[]⟩ ∧ a.h = ⟨#[]⟩)) w') := Lib.hid fun w' => run_eq_xid a.f 0 a.g a.h ⟨#[]⟩ ⟨#[]⟩ w'
  have hG := xidGuard
  have HST : Hid (sameT a.v zT = true ↔ a.v = zT) := Lib.hid (sameT_iff _ _)
  unfold argV
  obtain ⟨⟨p0, p1, p2⟩, ⟨p3, p4, p5⟩, p6, p7, p8, p9, p10, p11⟩ := hX.cells
  obtain ⟨ai, an, az, af, ag, ah, aq, av⟩ := a
  simp only [] at *
  generalize hW : w.alloc (Obj.cells #[.bool ai, .int .u64 an, .string az, .int .u32 af, .string ag, .string ah, .slice A aq.length c, v0, v1, v2, v3, v4] 52) = W at *
  have HLT : Hid (w.heap.size < W.heap.size) := Lib.hid (by rw [← hW]; simp)
  have HWW := Lib.hid hW
  have HB := Lib.hid hb0
  generalize sameT av zT = S at *
  clear hX hb0 hW h hsz HS HA
  by_cases H1 : ai = true
  · skip
    rw [H1] at p0
    by_cases H3 : az = ⟨#[]⟩
    · skip
      have s3 : az.toList = [] := by rw [sb_toList, H3]; rfl
      have s3b : (az.toList == []) = true := by rw [s3]; rfl
      by_cases H4 : af = 0 ∧ ag = ⟨#[]⟩ ∧ ah = ⟨#[]⟩
      · skip
        have hE := fun w' => HE.out w'
        rw [decide_eq_true H4] at hE
        by_cases H5 : aq = []
        · skip
          have s5 : decide (0 < aq.length) = false := by rw [H5]; rfl
          by_cases H6 : S = true
          · skip
            obtain rfl : S = true := H6
            have HBR : Hid (bareA 100 ⟨ai, an, az, af, ag, ah, aq, av⟩) := Lib.hid ⟨fun x => absurd (show isNum 100 by decide) x, fun _ => H3, fun _ => H4, fun _ => H5, fun _ => HST.out.1 (by first | rfl | trivial)⟩
            have HIS : Hid (100 ≠ 98 → ai = true) := Lib.hid (fun _ => H1)
            clear H1 H3 H4 H5
            by_cases hf : an < 4294967296
            · skip
              have i1 : (an : Int) < 4294967296 := by omega
              have HF := Lib.hid hf
              clear hf
              go_enter Tryz.func24, Tryz.ntmps24
              go_upto_region 1 with fail
              rw [HWW.out]
              go_upto_region 5 with (go_at_call 42; refine (HV.out _ HB.out).mono ?_; rintro e w2 ⟨rfl, hb2⟩; have hB2 := HB.out.trans (hb2.mono HB.out.size); have HB2 := Lib.hid (And.intro hb2 hB2); have hXB := hb2.size; clear hb2 hB2)
              have hk2 : ∀ i, w2.cell? ⟨w.heap.size, i, none⟩ = W.cell? ⟨w.heap.size, i, none⟩ := fun i => World.cell?_of_block (HB2.out.1.block _ HLT.out)
              have q0 := (hk2 0).trans p0
              have q1 := (hk2 1).trans p1
              have q2 := (hk2 2).trans p2
              have q3 := (hk2 3).trans p3
              have q4 := (hk2 4).trans p4
              have q5 := (hk2 5).trans p5
              have q6 := (hk2 6).trans p6
              have q7 := (hk2 7).trans p7
              have q8 := (hk2 8).trans p8
              have q9 := (hk2 9).trans p9
              have q10 := (hk2 10).trans p10
              have q11 := (hk2 11).trans p11
              clear hk2
              have HL2 : Hid (w.heap.size < w2.heap.size) := Lib.hid (Nat.lt_of_lt_of_le HLT.out HB2.out.1.size)
              go_upto_region 9 with fail
              have HKEEP := Lib.hid (fun w' (hb : Below w2.heap.size w2 w') => (show w'.cell? ⟨w.heap.size, 1, none⟩ = some (.int .u64 an) from (World.cell?_of_block (hb.block _ HL2.out)).trans q1))
              have HNX := Lib.hid (fun w' w'' (hb' : Below w'.heap.size w' w'') (hb : Below w2.heap.size w2 w') => hb.trans (hb'.mono hb.size))
              have hbd : Below w2.heap.size w2 w2.drew := below_drew1 (Below.refl _ _)
              have HWB := Lib.hid (fun w' => (show Calls Tryz.prog 44 #[.int .u8 (100 : Nat)] w' fun e w'' => e = .returned (.int .i64 4) ∧ Below w'.heap.size w' w'' from (HWD.out w').mono fun e w'' ⟨h1, h2⟩ => ⟨h1, by rw [h2]; exact Below.refl _ _⟩))
              have HNV2 := Lib.hid (fun w' (hb : Below w2.heap.size w2 w') => (show Calls Tryz.prog 43 #[.int .u64 an, .int .i64 4] w' fun e w'' => ∃ v, e = .returned v ∧ Own 5 w'' w.heap.size v (be 4 an) ∧ Below w'.heap.size w' w'' from (HNU.out w').mono fun e w'' ⟨v, h1, h2, h3⟩ => ⟨v, h1, h2.mono (Nat.le_trans HB2.out.2.size hb.size), h3⟩))
              clear q0 q1 q2 q3 q4 q5 q6 q7 q8 q9 q10 q11 p0 p1 p2 p3 p4 p5 p6 p7 p8 p9 p10 p11
              go_region_held3 (fun w' => w'.cell? ⟨w.heap.size, 1, none⟩ = some (.int .u64 an)) (exact HKEEP.out _ (by assumption))
                (first
                  | (go_at_call 44
                     refine (HWB.out _).mono ?_
                     rintro e w5 ⟨rfl, hb5⟩
                     have hb5' := HNX.out _ _ hb5 (by assumption))
                  | (go_at_call 43
                     refine (HNV2.out _ (by assumption)).mono ?_
                     rintro e w6 ⟨v6, rfl, ho6, hb6⟩
                     have hb6' := HNX.out _ _ hb6 (by assumption)))
              all_goals
                go_wp2_with fail
                go_ret2
                rw [shl_4]
                rw [decide_eq_true i1]
                refine arg_yes v6 rfl ⟨HIS.out, (fit_num _ (by decide)).2 HF.out, HBR.out⟩ ?_ ?_
                · rw [show encA 100 ⟨ai, an, az, af, ag, ah, aq, av⟩ = be 4 an by unfold encA; rw [if_pos (by decide)]; rfl]
                  first | exact ho6 | exact own_below ho6 hb5
                · first | exact HB2.out.2.trans (hb5'.mono HB2.out.2.size) | exact HB2.out.2.trans (hb6'.mono HB2.out.2.size)
            · skip
              have i1 : ¬ (an : Int) < 4294967296 := by omega
              have HF := Lib.hid hf
              clear hf
              go_enter Tryz.func24, Tryz.ntmps24
              go_upto_region 1 with fail
              rw [HWW.out]
              go_upto_region 5 with (go_at_call 42; refine (HV.out _ HB.out).mono ?_; rintro e w2 ⟨rfl, hb2⟩; have hB2 := HB.out.trans (hb2.mono HB.out.size); have HB2 := Lib.hid (And.intro hb2 hB2); have hXB := hb2.size; clear hb2 hB2)
              have hk2 : ∀ i, w2.cell? ⟨w.heap.size, i, none⟩ = W.cell? ⟨w.heap.size, i, none⟩ := fun i => World.cell?_of_block (HB2.out.1.block _ HLT.out)
              have q0 := (hk2 0).trans p0
              have q1 := (hk2 1).trans p1
              have q2 := (hk2 2).trans p2
              have q3 := (hk2 3).trans p3
              have q4 := (hk2 4).trans p4
              have q5 := (hk2 5).trans p5
              have q6 := (hk2 6).trans p6
              have q7 := (hk2 7).trans p7
              have q8 := (hk2 8).trans p8
              have q9 := (hk2 9).trans p9
              have q10 := (hk2 10).trans p10
              have q11 := (hk2 11).trans p11
              clear hk2
              have HL2 : Hid (w.heap.size < w2.heap.size) := Lib.hid (Nat.lt_of_lt_of_le HLT.out HB2.out.1.size)
              go_upto_region 9 with fail
              have HKEEP := Lib.hid (fun w' (hb : Below w2.heap.size w2 w') => (show w'.cell? ⟨w.heap.size, 1, none⟩ = some (.int .u64 an) from (World.cell?_of_block (hb.block _ HL2.out)).trans q1))
              have HNX := Lib.hid (fun w' w'' (hb' : Below w'.heap.size w' w'') (hb : Below w2.heap.size w2 w') => hb.trans (hb'.mono hb.size))
              have hbd : Below w2.heap.size w2 w2.drew := below_drew1 (Below.refl _ _)
              have HWB := Lib.hid (fun w' => (show Calls Tryz.prog 44 #[.int .u8 (100 : Nat)] w' fun e w'' => e = .returned (.int .i64 4) ∧ Below w'.heap.size w' w'' from (HWD.out w').mono fun e w'' ⟨h1, h2⟩ => ⟨h1, by rw [h2]; exact Below.refl _ _⟩))
              have HNV2 := Lib.hid (fun w' (hb : Below w2.heap.size w2 w') => (show Calls Tryz.prog 43 #[.int .u64 an, .int .i64 4] w' fun e w'' => ∃ v, e = .returned v ∧ Own 5 w'' w.heap.size v (be 4 an) ∧ Below w'.heap.size w' w'' from (HNU.out w').mono fun e w'' ⟨v, h1, h2, h3⟩ => ⟨v, h1, h2.mono (Nat.le_trans HB2.out.2.size hb.size), h3⟩))
              clear q0 q1 q2 q3 q4 q5 q6 q7 q8 q9 q10 q11 p0 p1 p2 p3 p4 p5 p6 p7 p8 p9 p10 p11
              go_region_held3 (fun w' => w'.cell? ⟨w.heap.size, 1, none⟩ = some (.int .u64 an)) (exact HKEEP.out _ (by assumption))
                (first
                  | (go_at_call 44
                     refine (HWB.out _).mono ?_
                     rintro e w5 ⟨rfl, hb5⟩
                     have hb5' := HNX.out _ _ hb5 (by assumption))
                  | (go_at_call 43
                     refine (HNV2.out _ (by assumption)).mono ?_
                     rintro e w6 ⟨v6, rfl, ho6, hb6⟩
                     have hb6' := HNX.out _ _ hb6 (by assumption)))
              all_goals
                go_wp2_with fail
                go_ret2
                rw [shl_4]
                rw [decide_eq_false (show ¬ ((an : Int) < 4294967296) by omega)]
                refine arg_no v6 rfl (fun hv => HF.out ((fit_num _ (by decide)).1 hv.2.1)) ?_
                first | exact HB2.out.2.trans (hb5'.mono HB2.out.2.size) | exact HB2.out.2.trans (hb6'.mono HB2.out.2.size)
          · skip
            obtain rfl : S = false := by simpa using H6
            have HNV : Hid (¬ validA 100 ⟨ai, an, az, af, ag, ah, aq, av⟩) := Lib.hid (fun hv => (by have := HST.out.2 (hv.2.2.2.2.2.2 (by decide)); cases this))
            clear H1 H3 H4 H5
            go_enter Tryz.func24, Tryz.ntmps24
            go_upto_region 1 with fail
            rw [HWW.out]
            go_wp2_with fail
            refine (HV.out _ HB.out).mono ?_
            rintro e w2 ⟨rfl, hb2⟩
            have hB2 := HB.out.trans (hb2.mono HB.out.size)
            go_wp2_with fail
            go_ret2
            exact arg_no _ rfl HNV.out hB2
        · skip
          have s5 : decide (0 < aq.length) = true := by have := List.length_pos_iff.2 H5; simpa using this
          have HNV : Hid (¬ validA 100 ⟨ai, an, az, af, ag, ah, aq, av⟩) := Lib.hid (fun hv => H5 (hv.2.2.2.2.2.1 (by decide)))
          clear H1 H3 H4 H5
          go_enter Tryz.func24, Tryz.ntmps24
          go_upto_region 1 with fail
          rw [HWW.out]
          go_wp2_with fail
          go_ret2
          exact arg_no _ rfl HNV.out HB.out
      · skip
        have hE := fun w' => HE.out w'
        rw [decide_eq_false H4] at hE
        have HNV : Hid (¬ validA 100 ⟨ai, an, az, af, ag, ah, aq, av⟩) := Lib.hid (fun hv => H4 (hv.2.2.2.2.1 (by decide)))
        clear H1 H3 H4
        go_enter Tryz.func24, Tryz.ntmps24
        go_upto_region 1 with fail
        rw [HWW.out]
        go_wp2_with fail
        go_ret2
        exact arg_no _ rfl HNV.out HB.out
    · skip
      have s3 : ¬ az.toList = [] := by rw [sb_toList]; intro e; exact H3 (xsb_inj.1 e)
      have s3b : (az.toList == []) = false := by simpa using s3
      have HNV : Hid (¬ validA 100 ⟨ai, an, az, af, ag, ah, aq, av⟩) := Lib.hid (fun hv => H3 (hv.2.2.2.1 (by decide)))
      clear H1 H3
      go_enter Tryz.func24, Tryz.ntmps24
      go_upto_region 1 with fail
      rw [HWW.out]
      go_wp2_with fail
      go_ret2
      exact arg_no _ rfl HNV.out HB.out
  · skip
    rw [show ai = false by simpa using H1] at p0
    have HNV : Hid (¬ validA 100 ⟨ai, an, az, af, ag, ah, aq, av⟩) := Lib.hid (fun hv => H1 (hv.1 (by decide)))
    clear H1
    go_enter Tryz.func24, Tryz.ntmps24
    go_upto_region 1 with fail
    rw [HWW.out]
    go_wp2_with fail
    go_ret2
    exact arg_no _ rfl HNV.out HB.out

end Go.Proofs.YtpbdnfonflmncaaGreat
