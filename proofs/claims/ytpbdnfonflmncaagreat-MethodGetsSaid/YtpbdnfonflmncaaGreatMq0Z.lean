/-
  Texts, together: Mq0, Mq98, Mq110, Mq119, Mq100, Mq115, Mq116, Mq120, Mq114, Mq118, MqA.
  Conditions: none but sizes.
-/
import Derived.Test.YtpbdnfonflmncaaGreatMeEZ
import Derived.Test.YtpbdnfonflmncaaGreatV5AZ
import Derived.Test.YtpbdnfonflmncaaGreatOctBigZ
import Derived.Test.YtpbdnfonflmncaaGreatRef03AZ
import Derived.Test.YtpbdnfonflmncaaGreatRef04AZ
import Derived.Test.YtpbdnfonflmncaaGreatRqPZ
import Derived.Deep.RegionHeld3
set_option linter.unusedVariables false
set_option linter.unusedSimpArgs false
namespace Go.Proofs.YtpbdnfonflmncaaGreat
open Go.RowKit
def ArgSaid (k : Nat) (a : ArgP) (w : World) (e : Ending) (w' : World) : Prop :=
  ∃ (v : Value) (r : Bool), e = .returned (.tuple #[v, .bool r]) ∧ (r = true ↔ validA k a) ∧ (r = true → Own 5 w' w.heap.size v (encA k a)) ∧ Below w.heap.size w w'
theorem arg_no {k : Nat} {a : ArgP} {w w' : World} {e : Ending} (v : Value) (h1 : e = .returned (.tuple #[v, .bool false])) (h2 : ¬ validA k a) (h3 : Below w.heap.size w w') : ArgSaid k a w e w' :=
 ⟨v, false, h1, ⟨fun h => (by cases h), fun h => absurd h h2⟩, fun h => (by cases h), h3⟩
theorem arg_yes {k : Nat} {a : ArgP} {w w' : World} {e : Ending} (v : Value) (h1 : e = .returned (.tuple #[v, .bool true])) (h2 : validA k a) (h4 : Own 5 w' w.heap.size v (encA k a)) (h3 : Below w.heap.size w w') : ArgSaid k a w e w' :=
 ⟨v, true, h1, ⟨fun _ => h2, fun _ => rfl⟩, fun _ => h4, h3⟩
theorem own_below {e : TypeId} {w w' : World} {base : Nat} {v : Value} {l : List UInt8} (h : Own e w base v l) (hb : Below w.heap.size w w') : Own e w' base v l := h.keep fun g hg => hb.block g (h.block g hg).2
theorem shl_1 : IntKind.u64.wrap (2 ^ min (IntKind.u64.wrap (IntKind.i64.wrap 8)).toNat 64) = 256 := by decide
theorem shl_2 : IntKind.u64.wrap (2 ^ min (IntKind.u64.wrap (IntKind.i64.wrap 16)).toNat 64) = 65536 := by decide
theorem shl_4 : IntKind.u64.wrap (2 ^ min (IntKind.u64.wrap (IntKind.i64.wrap 32)).toNat 64) = 4294967296 := by decide
set_option maxRecDepth 100000 in
theorem qwidth_any (k : Nat) (hk : k = 110 ∨ k = 115 ∨ k = 119 ∨ k = 116 ∨ k = 100) (w : World) : Calls Tryz.prog 44 #[.int .u8 k] w fun e w' => e = .returned (.int .i64 (widD k)) ∧ w' = w := by
 rcases hk with rfl | rfl | rfl | rfl | rfl
 all_goals
  go_enter Tryz.func44, Tryz.ntmps44
  go_wp2_with fail
  go_ret
  exact ⟨rfl, rfl⟩
set_option maxRecDepth 100000 in
set_option maxHeartbeats 4000000 in
theorem qarg_98 (a : ArgP) (A : Option Addr) (c dq : Nat) (v0 v1 v2 v3 v4 : Value) (w : World) (h : ShowsA w a A c dq v0 v1 v2 v3 v4) (hql : a.q.length ≤ 1100) :
  Calls Tryz.prog 24 #[.int .u8 (98 : Nat), argV a (.slice A a.q.length c) v0 v1 v2 v3 v4] w (ArgSaid 98 a w) := by
 have hX := BoxG.new w a (.slice A a.q.length c) v0 v1 v2 v3 v4
 have hb0 : Below w.heap.size w (w.alloc (Obj.cells #[.bool a.is, .int .u64 a.n, .string a.s, .int .u32 a.f, .string a.g, .string a.h, .slice A a.q.length c, v0, v1, v2, v3, v4] 52)) := below_box w _
 have HS := Lib.hid (fun w' (hb : Below w.heap.size w w') => h.kept hb (Nat.le_refl _))
 have hsz := h.sz
 have HA := Lib.hid (show a = a from rfl)
 have HV := Lib.hid (fun w' (hb : Below w.heap.size w w') => (show Calls Tryz.prog 42 #[.agg #[v0, v1, v2, v3, v4], .agg #[.int .u8 0, .int .u64 0, .string ⟨#[]⟩, .slice none 0 0, .slice none 0 0]] w' fun e w'' => e = .returned (.bool (sameT a.v zT)) ∧ Below w'.heap.size w' w'' from qsame_main _ a.v zT [v0, v1, v2, v3, v4] [.int .u8 (0 : Nat), .int .u64 (0 : Nat), .string ⟨#[]⟩, .slice none 0 0, .slice none 0 0] w' rfl (h.kept hb (Nat.le_refl _)).v (shows_zT w')))
 have HE : Hid (∀ w' : World, (Op.equalIn 10000 44 (.agg #[.int .u32 (a.f : Int), .string a.g, .string a.h]) (.agg #[.int .u32 0, .string ⟨#[]⟩, .string ⟨#[]⟩])).run Tryz.prog w' = .ok (decide (a.f = 0 ∧ a.g = ⟨#[]⟩ ∧ a.h = ⟨#[]⟩)) w') := Lib.hid fun w' => run_eq_xid a.f 0 a.g a.h ⟨#[]⟩ ⟨#[]⟩ w'
 have hG := xidGuard
 have HST : Hid (sameT a.v zT = true ↔ a.v = zT) := Lib.hid (sameT_iff _ _)
 unfold argV
 obtain ⟨⟨p0, p1, p2⟩, ⟨p3, p4, p5⟩, p6, p7, p8, p9, p10, p11⟩ := hX.cells
 obtain ⟨ai, an, az, af, ag, ah, aq, av⟩ := a
 simp only [] at *
 generalize hW : w.alloc (Obj.cells #[.bool ai, .int .u64 an, .string az, .int .u32 af, .string ag, .string ah, .slice A aq.length c, v0, v1, v2, v3, v4] 52) = W at *
 have HLT : Hid (w.heap.size < W.heap.size) := Lib.hid (by rw [← hW]; simp)
 have HWW := Lib.hid hW
 have HB := Lib.hid hb0
 generalize sameT av zT = S at *
 clear hX hb0 hW h hsz HS HA
 by_cases H2 : an = 0
 ·skip
  have s2 : ((an : Int) != 0) = false := by rw [H2]; rfl
  by_cases H3 : az = ⟨#[]⟩
  ·skip
   have s3 : az.toList = [] := by rw [sb_toList, H3]; rfl
   have s3b : (az.toList == []) = true := by rw [s3]; rfl
   by_cases H4 : af = 0 ∧ ag = ⟨#[]⟩ ∧ ah = ⟨#[]⟩
   ·skip
    have hE := fun w' => HE.out w'
    rw [decide_eq_true H4] at hE
    by_cases H5 : aq = []
    ·skip
     have s5 : decide (0 < aq.length) = false := by rw [H5]; rfl
     by_cases H6 : S = true
     ·skip
      obtain rfl : S = true := H6
      have HBR : Hid (bareA 98 ⟨ai, an, az, af, ag, ah, aq, av⟩) := Lib.hid ⟨fun _ => H2, fun _ => H3, fun _ => H4, fun _ => H5, fun _ => HST.out.1 (by first | rfl | trivial)⟩
      have HIS : Hid (98 ≠ 98 → ai = true) := Lib.hid (fun x => absurd rfl x)
      clear H2 H3 H4 H5
      go_enter Tryz.func24, Tryz.ntmps24
      go_upto_region 1 with fail
      rw [HWW.out]
      go_upto_region 5 with (go_at_call 42; refine (HV.out _ HB.out).mono ?_; rintro e w2 ⟨rfl, hb2⟩; have hB2 := HB.out.trans (hb2.mono HB.out.size); have HB2 := Lib.hid (And.intro hb2 hB2); have hXB := hb2.size; clear hb2 hB2)
      go_wp2_with fail
      go_ret2
      exact arg_yes _ rfl ⟨HIS.out, fit_b _, HBR.out⟩ (Own.nil_ _ _ _) HB2.out.2
     ·skip
      obtain rfl : S = false := by simpa using H6
      have HNV : Hid (¬ validA 98 ⟨ai, an, az, af, ag, ah, aq, av⟩) := Lib.hid (fun hv => (by have := HST.out.2 (hv.2.2.2.2.2.2 (by decide)); cases this))
      clear H2 H3 H4 H5
      go_enter Tryz.func24, Tryz.ntmps24
      go_upto_region 1 with fail
      rw [HWW.out]
      go_wp2_with fail
      refine (HV.out _ HB.out).mono ?_
      rintro e w2 ⟨rfl, hb2⟩
      have hB2 := HB.out.trans (hb2.mono HB.out.size)
      go_wp2_with fail
      go_ret2
      exact arg_no _ rfl HNV.out hB2
    ·skip
     have s5 : decide (0 < aq.length) = true := by have := List.length_pos_iff.2 H5; simpa using this
     have HNV : Hid (¬ validA 98 ⟨ai, an, az, af, ag, ah, aq, av⟩) := Lib.hid (fun hv => H5 (hv.2.2.2.2.2.1 (by decide)))
     clear H2 H3 H4 H5
     go_enter Tryz.func24, Tryz.ntmps24
     go_upto_region 1 with fail
     rw [HWW.out]
     go_wp2_with fail
     go_ret2
     exact arg_no _ rfl HNV.out HB.out
   ·skip
    have hE := fun w' => HE.out w'
    rw [decide_eq_false H4] at hE
    have HNV : Hid (¬ validA 98 ⟨ai, an, az, af, ag, ah, aq, av⟩) := Lib.hid (fun hv => H4 (hv.2.2.2.2.1 (by decide)))
    clear H2 H3 H4
    go_enter Tryz.func24, Tryz.ntmps24
    go_upto_region 1 with fail
    rw [HWW.out]
    go_wp2_with fail
    go_ret2
    exact arg_no _ rfl HNV.out HB.out
  ·skip
   have s3 : ¬ az.toList = [] := by rw [sb_toList]; intro e; exact H3 (xsb_inj.1 e)
   have s3b : (az.toList == []) = false := by simpa using s3
   have HNV : Hid (¬ validA 98 ⟨ai, an, az, af, ag, ah, aq, av⟩) := Lib.hid (fun hv => H3 (hv.2.2.2.1 (by decide)))
   clear H2 H3
   go_enter Tryz.func24, Tryz.ntmps24
   go_upto_region 1 with fail
   rw [HWW.out]
   go_wp2_with fail
   go_ret2
   exact arg_no _ rfl HNV.out HB.out
 ·skip
  have s2 : ((an : Int) != 0) = true := by rw [bne_iff_ne]; omega
  have HNV : Hid (¬ validA 98 ⟨ai, an, az, af, ag, ah, aq, av⟩) := Lib.hid (fun hv => H2 (hv.2.2.1 (by decide)))
  clear H2
  go_enter Tryz.func24, Tryz.ntmps24
  go_upto_region 1 with fail
  rw [HWW.out]
  go_wp2_with fail
  go_ret2
  exact arg_no _ rfl HNV.out HB.out
set_option maxRecDepth 100000 in
set_option maxHeartbeats 4000000 in
theorem qarg_110 (a : ArgP) (A : Option Addr) (c dq : Nat) (v0 v1 v2 v3 v4 : Value) (w : World) (h : ShowsA w a A c dq v0 v1 v2 v3 v4) (hql : a.q.length ≤ 1100) :
    Calls Tryz.prog 24 #[.int .u8 (110 : Nat), argV a (.slice A a.q.length c) v0 v1 v2 v3 v4] w (ArgSaid 110 a w) := by
  have hX := BoxG.new w a (.slice A a.q.length c) v0 v1 v2 v3 v4
  have hb0 : Below w.heap.size w (w.alloc (Obj.cells #[.bool a.is, .int .u64 a.n, .string a.s, .int .u32 a.f, .string a.g, .string a.h, .slice A a.q.length c, v0, v1, v2, v3, v4] 52)) := below_box w _
  have HS := Lib.hid (fun w' (hb : Below w.heap.size w w') => h.kept hb (Nat.le_refl _))
  have hsz := h.sz
  have HA := Lib.hid (show a = a from rfl)
  have HV := Lib.hid (fun w' (hb : Below w.heap.size w w') => (show Calls Tryz.prog 42 #[.agg #[v0, v1, v2, v3, v4], .agg #[.int .u8 0, .int .u64 0, .string ⟨#[]⟩, .slice none 0 0, .slice none 0 0]] w' fun e w'' => e = .returned (.bool (sameT a.v zT)) ∧ Below w'.heap.size w' w'' from qsame_main _ a.v zT [v0, v1, v2, v3, v4] [.int .u8 (0 : Nat), .int .u64 (0 : Nat), .string ⟨#[]⟩, .slice none 0 0, .slice none 0 0] w' rfl (h.kept hb (Nat.le_refl _)).v (shows_zT w')))
  have HWD := Lib.hid (fun w' => (show Calls Tryz.prog 44 #[.int .u8 (110 : Nat)] w' fun e w'' => e = .returned (.int .i64 1) ∧ w'' = w' from qwidth_any 110 (by omega) w'))
  have HNU := Lib.hid (fun w' => (show Calls Tryz.prog 43 #[.int .u64 a.n, .int .i64 1] w' fun e w'' => ∃ v, e = .returned v ∧ Own 5 w'' w'.heap.size v (be 1 a.n) ∧ Below w'.heap.size w' w'' from number_any 1 a.n w' (by omega) hsz.n))
  have HE : Hid (∀ w' : World, (Op.equalIn 10000 44 (.agg #[.int .u32 (a.f : Int), .string a.g, .string a.h]) (.agg #[.int .u32 0, .string ⟨#[]⟩, .string ⟨#[]⟩])).run Tryz.prog w' = .ok (decide (a.f = 0 ∧ a.g = ⟨#[]⟩ ∧ a.h = ⟨#[]⟩)) w') := Lib.hid fun w' => run_eq_xid a.f 0 a.g a.h ⟨#[]⟩ ⟨#[]⟩ w'
  have hG := xidGuard
  have HST : Hid (sameT a.v zT = true ↔ a.v = zT) := Lib.hid (sameT_iff _ _)
  unfold argV
  obtain ⟨⟨p0, p1, p2⟩, ⟨p3, p4, p5⟩, p6, p7, p8, p9, p10, p11⟩ := hX.cells
  obtain ⟨ai, an, az, af, ag, ah, aq, av⟩ := a
  simp only [] at *
  generalize hW : w.alloc (Obj.cells #[.bool ai, .int .u64 an, .string az, .int .u32 af, .string ag, .string ah, .slice A aq.length c, v0, v1, v2, v3, v4] 52) = W at *
  have HLT : Hid (w.heap.size < W.heap.size) := Lib.hid (by rw [← hW]; simp)
  have HWW := Lib.hid hW
  have HB := Lib.hid hb0
  generalize sameT av zT = S at *
  clear hX hb0 hW h hsz HS HA
  by_cases H1 : ai = true
  · skip
    rw [H1] at p0
    by_cases H3 : az = ⟨#[]⟩
    · skip
      have s3 : az.toList = [] := by rw [sb_toList, H3]; rfl
      have s3b : (az.toList == []) = true := by rw [s3]; rfl
      by_cases H4 : af = 0 ∧ ag = ⟨#[]⟩ ∧ ah = ⟨#[]⟩
      · skip
        have hE := fun w' => HE.out w'
        rw [decide_eq_true H4] at hE
        by_cases H5 : aq = []
        · skip
          have s5 : decide (0 < aq.length) = false := by rw [H5]; rfl
          by_cases H6 : S = true
          · skip
            obtain rfl : S = true := H6
            have HBR : Hid (bareA 110 ⟨ai, an, az, af, ag, ah, aq, av⟩) := Lib.hid ⟨fun x => absurd (show isNum 110 by decide) x, fun _ => H3, fun _ => H4, fun _ => H5, fun _ => HST.out.1 (by first | rfl | trivial)⟩
            have HIS : Hid (110 ≠ 98 → ai = true) := Lib.hid (fun _ => H1)
            clear H1 H3 H4 H5
            by_cases hf : an < 256
            · skip
              have i1 : (an : Int) < 256 := by omega
              have HF := Lib.hid hf
              clear hf
              go_enter Tryz.func24, Tryz.ntmps24
              go_upto_region 1 with fail
              rw [HWW.out]
              go_upto_region 5 with (go_at_call 42; refine (HV.out _ HB.out).mono ?_; rintro e w2 ⟨rfl, hb2⟩; have hB2 := HB.out.trans (hb2.mono HB.out.size); have HB2 := Lib.hid (And.intro hb2 hB2); have hXB := hb2.size; clear hb2 hB2)
              have hk2 : ∀ i, w2.cell? ⟨w.heap.size, i, none⟩ = W.cell? ⟨w.heap.size, i, none⟩ := fun i => World.cell?_of_block (HB2.out.1.block _ HLT.out)
              have q0 := (hk2 0).trans p0
              have q1 := (hk2 1).trans p1
              have q2 := (hk2 2).trans p2
              have q3 := (hk2 3).trans p3
              have q4 := (hk2 4).trans p4
              have q5 := (hk2 5).trans p5
              have q6 := (hk2 6).trans p6
              have q7 := (hk2 7).trans p7
              have q8 := (hk2 8).trans p8
              have q9 := (hk2 9).trans p9
              have q10 := (hk2 10).trans p10
              have q11 := (hk2 11).trans p11
              clear hk2
              have HL2 : Hid (w.heap.size < w2.heap.size) := Lib.hid (Nat.lt_of_lt_of_le HLT.out HB2.out.1.size)
              go_upto_region 9 with fail
              have HKEEP := Lib.hid (fun w' (hb : Below w2.heap.size w2 w') => (show w'.cell? ⟨w.heap.size, 1, none⟩ = some (.int .u64 an) from (World.cell?_of_block (hb.block _ HL2.out)).trans q1))
              have HNX := Lib.hid (fun w' w'' (hb' : Below w'.heap.size w' w'') (hb : Below w2.heap.size w2 w') => hb.trans (hb'.mono hb.size))
              have hbd : Below w2.heap.size w2 w2.drew := below_drew1 (Below.refl _ _)
              have HWB := Lib.hid (fun w' => (show Calls Tryz.prog 44 #[.int .u8 (110 : Nat)] w' fun e w'' => e = .returned (.int .i64 1) ∧ Below w'.heap.size w' w'' from (HWD.out w').mono fun e w'' ⟨h1, h2⟩ => ⟨h1, by rw [h2]; exact Below.refl _ _⟩))
              have HNV2 := Lib.hid (fun w' (hb : Below w2.heap.size w2 w') => (show Calls Tryz.prog 43 #[.int .u64 an, .int .i64 1] w' fun e w'' => ∃ v, e = .returned v ∧ Own 5 w'' w.heap.size v (be 1 an) ∧ Below w'.heap.size w' w'' from (HNU.out w').mono fun e w'' ⟨v, h1, h2, h3⟩ => ⟨v, h1, h2.mono (Nat.le_trans HB2.out.2.size hb.size), h3⟩))
              clear q0 q1 q2 q3 q4 q5 q6 q7 q8 q9 q10 q11 p0 p1 p2 p3 p4 p5 p6 p7 p8 p9 p10 p11
              go_region_held3 (fun w' => w'.cell? ⟨w.heap.size, 1, none⟩ = some (.int .u64 an)) (exact HKEEP.out _ (by assumption))
                (first
                  | (go_at_call 44
                     refine (HWB.out _).mono ?_
                     rintro e w5 ⟨rfl, hb5⟩
                     have hb5' := HNX.out _ _ hb5 (by assumption))
                  | (go_at_call 43
                     refine (HNV2.out _ (by assumption)).mono ?_
                     rintro e w6 ⟨v6, rfl, ho6, hb6⟩
                     have hb6' := HNX.out _ _ hb6 (by assumption)))
              all_goals
                go_wp2_with fail
                go_ret2
                rw [shl_1]
                rw [decide_eq_true i1]
                refine arg_yes v6 rfl ⟨HIS.out, (fit_num _ (by decide)).2 HF.out, HBR.out⟩ ?_ ?_
                · rw [show encA 110 ⟨ai, an, az, af, ag, ah, aq, av⟩ = be 1 an by unfold encA; rw [if_pos (by decide)]; rfl]
                  first | exact ho6 | exact own_below ho6 hb5
                · first | exact HB2.out.2.trans (hb5'.mono HB2.out.2.size) | exact HB2.out.2.trans (hb6'.mono HB2.out.2.size)
            · skip
              have i1 : ¬ (an : Int) < 256 := by omega
              have HF := Lib.hid hf
              clear hf
              go_enter Tryz.func24, Tryz.ntmps24
              go_upto_region 1 with fail
              rw [HWW.out]
              go_upto_region 5 with (go_at_call 42; refine (HV.out _ HB.out).mono ?_; rintro e w2 ⟨rfl, hb2⟩; have hB2 := HB.out.trans (hb2.mono HB.out.size); have HB2 := Lib.hid (And.intro hb2 hB2); have hXB := hb2.size; clear hb2 hB2)
              have hk2 : ∀ i, w2.cell? ⟨w.heap.size, i, none⟩ = W.cell? ⟨w.heap.size, i, none⟩ := fun i => World.cell?_of_block (HB2.out.1.block _ HLT.out)
              have q0 := (hk2 0).trans p0
              have q1 := (hk2 1).trans p1
              have q2 := (hk2 2).trans p2
              have q3 := (hk2 3).trans p3
              have q4 := (hk2 4).trans p4
              have q5 := (hk2 5).trans p5
              have q6 := (hk2 6).trans p6
              have q7 := (hk2 7).trans p7
              have q8 := (hk2 8).trans p8
              have q9 := (hk2 9).trans p9
              have q10 := (hk2 10).trans p10
              have q11 := (hk2 11).trans p11
              clear hk2
              have HL2 : Hid (w.heap.size < w2.heap.size) := Lib.hid (Nat.lt_of_lt_of_le HLT.out HB2.out.1.size)
              go_upto_region 9 with fail
              have HKEEP := Lib.hid (fun w' (hb : Below w2.heap.size w2 w') => (show w'.cell? ⟨w.heap.size, 1, none⟩ = some (.int .u64 an) from (World.cell?_of_block (hb.block _ HL2.out)).trans q1))
              have HNX := Lib.hid (fun w' w'' (hb' : Below w'.heap.size w' w'') (hb : Below w2.heap.size w2 w') => hb.trans (hb'.mono hb.size))
              have hbd : Below w2.heap.size w2 w2.drew := below_drew1 (Below.refl _ _)
              have HWB := Lib.hid (fun w' => (show Calls Tryz.prog 44 #[.int .u8 (110 : Nat)] w' fun e w'' => e = .returned (.int .i64 1) ∧ Below w'.heap.size w' w'' from (HWD.out w').mono fun e w'' ⟨h1, h2⟩ => ⟨h1, by rw [h2]; exact Below.refl _ _⟩))
              have HNV2 := Lib.hid (fun w' (hb : Below w2.heap.size w2 w') => (show Calls Tryz.prog 43 #[.int .u64 an, .int .i64 1] w' fun e w'' => ∃ v, e = .returned v ∧ Own 5 w'' w.heap.size v (be 1 an) ∧ Below w'.heap.size w' w'' from (HNU.out w').mono fun e w'' ⟨v, h1, h2, h3⟩ => ⟨v, h1, h2.mono (Nat.le_trans HB2.out.2.size hb.size), h3⟩))
              clear q0 q1 q2 q3 q4 q5 q6 q7 q8 q9 q10 q11 p0 p1 p2 p3 p4 p5 p6 p7 p8 p9 p10 p11
              go_region_held3 (fun w' => w'.cell? ⟨w.heap.size, 1, none⟩ = some (.int .u64 an)) (exact HKEEP.out _ (by assumption))
                (first
                  | (go_at_call 44
                     refine (HWB.out _).mono ?_
                     rintro e w5 ⟨rfl, hb5⟩
                     have hb5' := HNX.out _ _ hb5 (by assumption))
                  | (go_at_call 43
                     refine (HNV2.out _ (by assumption)).mono ?_
                     rintro e w6 ⟨v6, rfl, ho6, hb6⟩
                     have hb6' := HNX.out _ _ hb6 (by assumption)))
              all_goals
                go_wp2_with fail
                go_ret2
                rw [shl_1]
                rw [decide_eq_false (show ¬ ((an : Int) < 256) by omega)]
                refine arg_no v6 rfl (fun hv => HF.out ((fit_num _ (by decide)).1 hv.2.1)) ?_
                first | exact HB2.out.2.trans (hb5'.mono HB2.out.2.size) | exact HB2.out.2.trans (hb6'.mono HB2.out.2.size)
          · skip
            obtain rfl : S = false := by simpa using H6
            have HNV : Hid (¬ validA 110 ⟨ai, an, az, af, ag, ah, aq, av⟩) := Lib.hid (fun hv => (by have := HST.out.2 (hv.2.2.2.2.2.2 (by decide)); cases this))
            clear H1 H3 H4 H5
            go_enter Tryz.func24, Tryz.ntmps24
            go_upto_region 1 with fail
            rw [HWW.out]
            go_wp2_with fail
            refine (HV.out _ HB.out).mono ?_
            rintro e w2 ⟨rfl, hb2⟩
            have hB2 := HB.out.trans (hb2.mono HB.out.size)
            go_wp2_with fail
            go_ret2
            exact arg_no _ rfl HNV.out hB2
        · skip
          have s5 : decide (0 < aq.length) = true := by have := List.length_pos_iff.2 H5; simpa using this
          have HNV : Hid (¬ validA 110 ⟨ai, an, az, af, ag, ah, aq, av⟩) := Lib.hid (fun hv => H5 (hv.2.2.2.2.2.1 (by decide)))
          clear H1 H3 H4 H5
          go_enter Tryz.func24, Tryz.ntmps24
          go_upto_region 1 with fail
          rw [HWW.out]
          go_wp2_with fail
          go_ret2
          exact arg_no _ rfl HNV.out HB.out
      · skip
        have hE := fun w' => HE.out w'
        rw [decide_eq_false H4] at hE
        have HNV : Hid (¬ validA 110 ⟨ai, an, az, af, ag, ah, aq, av⟩) := Lib.hid (fun hv => H4 (hv.2.2.2.2.1 (by decide)))
        clear H1 H3 H4
        go_enter Tryz.func24, Tryz.ntmps24
        go_upto_region 1 with fail
        rw [HWW.out]
        go_wp2_with fail
        go_ret2
        exact arg_no _ rfl HNV.out HB.out
    · skip
      have s3 : ¬ az.toList = [] := by rw [sb_toList]; intro e; exact H3 (xsb_inj.1 e)
      have s3b : (az.toList == []) = false := by simpa using s3
      have HNV : Hid (¬ validA 110 ⟨ai, an, az, af, ag, ah, aq, av⟩) := Lib.hid (fun hv => H3 (hv.2.2.2.1 (by decide)))
      clear H1 H3
      go_enter Tryz.func24, Tryz.ntmps24
      go_upto_region 1 with fail
      rw [HWW.out]
      go_wp2_with fail
      go_ret2
      exact arg_no _ rfl HNV.out HB.out
  · skip
    rw [show ai = false by simpa using H1] at p0
    have HNV : Hid (¬ validA 110 ⟨ai, an, az, af, ag, ah, aq, av⟩) := Lib.hid (fun hv => H1 (hv.1 (by decide)))
    clear H1
    go_enter Tryz.func24, Tryz.ntmps24
    go_upto_region 1 with fail
    rw [HWW.out]
    go_wp2_with fail
    go_ret2
    exact arg_no _ rfl HNV.out HB.out
set_option maxRecDepth 100000 in
set_option maxHeartbeats 4000000 in
theorem qarg_119 (a : ArgP) (A : Option Addr) (c dq : Nat) (v0 v1 v2 v3 v4 : Value) (w : World) (h : ShowsA w a A c dq v0 v1 v2 v3 v4) (hql : a.q.length ≤ 1100) :
    Calls Tryz.prog 24 #[.int .u8 (119 : Nat), argV a (.slice A a.q.length c) v0 v1 v2 v3 v4] w (ArgSaid 119 a w) := by
  have hX := BoxG.new w a (.slice A a.q.length c) v0 v1 v2 v3 v4
  have hb0 : Below w.heap.size w (w.alloc (Obj.cells #[.bool a.is, .int .u64 a.n, .string a.s, .int .u32 a.f, .string a.g, .string a.h, .slice A a.q.length c, v0, v1, v2, v3, v4] 52)) := below_box w _
  have HS := Lib.hid (fun w' (hb : Below w.heap.size w w') => h.kept hb (Nat.le_refl _))
  have hsz := h.sz
  have HA := Lib.hid (show a = a from rfl)
  have HV := Lib.hid (fun w' (hb : Below w.heap.size w w') => (show Calls Tryz.prog 42 #[.agg #[v0, v1, v2, v3, v4], .agg #[.int .u8 0, .int .u64 0, .string ⟨#[]⟩, .slice none 0 0, .slice none 0 0]] w' fun e w'' => e = .returned (.bool (sameT a.v zT)) ∧ Below w'.heap.size w' w'' from qsame_main _ a.v zT [v0, v1, v2, v3, v4] [.int .u8 (0 : Nat), .int .u64 (0 : Nat), .string ⟨#[]⟩, .slice none 0 0, .slice none 0 0] w' rfl (h.kept hb (Nat.le_refl _)).v (shows_zT w')))
  have HWD := Lib.hid (fun w' => (show Calls Tryz.prog 44 #[.int .u8 (119 : Nat)] w' fun e w'' => e = .returned (.int .i64 2) ∧ w'' = w' from qwidth_any 119 (by omega) w'))
  have HNU := Lib.hid (fun w' => (show Calls Tryz.prog 43 #[.int .u64 a.n, .int .i64 2] w' fun e w'' => ∃ v, e = .returned v ∧ Own 5 w'' w'.heap.size v (be 2 a.n) ∧ Below w'.heap.size w' w'' from number_any 2 a.n w' (by omega) hsz.n))
  have HE : Hid (∀ w' : World, (Op.equalIn 10000 44 (.agg #[.int .u32 (a.f : Int), .string a.g, .string a.h]) (.agg #[.int .u32 0, .string ⟨#[]⟩, .string ⟨#[]⟩])).run Tryz.prog w' = .ok (decide (a.f = 0 ∧ a.g = ⟨#[]⟩ ∧ a.h = ⟨#[]⟩)) w') := Lib.hid fun w' => run_eq_xid a.f 0 a.g a.h ⟨#[]⟩ ⟨#[]⟩ w'
  have hG := xidGuard
  have HST : Hid (sameT a.v zT = true ↔ a.v = zT) := Lib.hid (sameT_iff _ _)
  unfold argV
  obtain ⟨⟨p0, p1, p2⟩, ⟨p3, p4, p5⟩, p6, p7, p8, p9, p10, p11⟩ := hX.cells
  obtain ⟨ai, an, az, af, ag, ah, aq, av⟩ := a
  simp only [] at *
  generalize hW : w.alloc (Obj.cells #[.bool ai, .int .u64 an, .string az, .int .u32 af, .string ag, .string ah, .slice A aq.length c, v0, v1, v2, v3, v4] 52) = W at *
  have HLT : Hid (w.heap.size < W.heap.size) := Lib.hid (by rw [← hW]; simp)
  have HWW := Lib.hid hW
  have HB := Lib.hid hb0
  generalize sameT av zT = S at *
  clear hX hb0 hW h hsz HS HA
  by_cases H1 : ai = true
  · skip
    rw [H1] at p0
    by_cases H3 : az = ⟨#[]⟩
    · skip
      have s3 : az.toList = [] := by rw [sb_toList, H3]; rfl
      have s3b : (az.toList == []) = true := by rw [s3]; rfl
      by_cases H4 : af = 0 ∧ ag = ⟨#[]⟩ ∧ ah = ⟨#[]⟩
      · skip
        have hE := fun w' => HE.out w'
        rw [decide_eq_true H4] at hE
        by_cases H5 : aq = []
        · skip
          have s5 : decide (0 < aq.length) = false := by rw [H5]; rfl
          by_cases H6 : S = true
          · skip
            obtain rfl : S = true := H6
            have HBR : Hid (bareA 119 ⟨ai, an, az, af, ag, ah, aq, av⟩) := Lib.hid ⟨fun x => absurd (show isNum 119 by decide) x, fun _ => H3, fun _ => H4, fun _ => H5, fun _ => HST.out.1 (by first | rfl | trivial)⟩
            have HIS : Hid (119 ≠ 98 → ai = true) := Lib.hid (fun _ => H1)
            clear H1 H3 H4 H5
            by_cases hf : an < 65536
            · skip
              have i1 : (an : Int) < 65536 := by omega
              have HF := Lib.hid hf
              clear hf
              go_enter Tryz.func24, Tryz.ntmps24
              go_upto_region 1 with fail
              rw [HWW.out]
              go_upto_region 5 with (go_at_call 42; refine (HV.out _ HB.out).mono ?_; rintro e w2 ⟨rfl, hb2⟩; have hB2 := HB.out.trans (hb2.mono HB.out.size); have HB2 := Lib.hid (And.intro hb2 hB2); have hXB := hb2.size; clear hb2 hB2)
              have hk2 : ∀ i, w2.cell? ⟨w.heap.size, i, none⟩ = W.cell? ⟨w.heap.size, i, none⟩ := fun i => World.cell?_of_block (HB2.out.1.block _ HLT.out)
              have q0 := (hk2 0).trans p0
              have q1 := (hk2 1).trans p1
              have q2 := (hk2 2).trans p2
              have q3 := (hk2 3).trans p3
              have q4 := (hk2 4).trans p4
              have q5 := (hk2 5).trans p5
              have q6 := (hk2 6).trans p6
              have q7 := (hk2 7).trans p7
              have q8 := (hk2 8).trans p8
              have q9 := (hk2 9).trans p9
              have q10 := (hk2 10).trans p10
              have q11 := (hk2 11).trans p11
              clear hk2
              have HL2 : Hid (w.heap.size < w2.heap.size) := Lib.hid (Nat.lt_of_lt_of_le HLT.out HB2.out.1.size)
              go_upto_region 9 with fail
              have HKEEP := Lib.hid (fun w' (hb : Below w2.heap.size w2 w') => (show w'.cell? ⟨w.heap.size, 1, none⟩ = some (.int .u64 an) from (World.cell?_of_block (hb.block _ HL2.out)).trans q1))
              have HNX := Lib.hid (fun w' w'' (hb' : Below w'.heap.size w' w'') (hb : Below w2.heap.size w2 w') => hb.trans (hb'.mono hb.size))
              have hbd : Below w2.heap.size w2 w2.drew := below_drew1 (Below.refl _ _)
              have HWB := Lib.hid (fun w' => (show Calls Tryz.prog 44 #[.int .u8 (119 : Nat)] w' fun e w'' => e = .returned (.int .i64 2) ∧ Below w'.heap.size w' w'' from (HWD.out w').mono fun e w'' ⟨h1, h2⟩ => ⟨h1, by rw [h2]; exact Below.refl _ _⟩))
              have HNV2 := Lib.hid (fun w' (hb : Below w2.heap.size w2 w') => (show Calls Tryz.prog 43 #[.int .u64 an, .int .i64 2] w' fun e w'' => ∃ v, e = .returned v ∧ Own 5 w'' w.heap.size v (be 2 an) ∧ Below w'.heap.size w' w'' from (HNU.out w').mono fun e w'' ⟨v, h1, h2, h3⟩ => ⟨v, h1, h2.mono (Nat.le_trans HB2.out.2.size hb.size), h3⟩))
              clear q0 q1 q2 q3 q4 q5 q6 q7 q8 q9 q10 q11 p0 p1 p2 p3 p4 p5 p6 p7 p8 p9 p10 p11
              go_region_held3 (fun w' => w'.cell? ⟨w.heap.size, 1, none⟩ = some (.int .u64 an)) (exact HKEEP.out _ (by assumption))
                (first
                  | (go_at_call 44
                     refine (HWB.out _).mono ?_
                     rintro e w5 ⟨rfl, hb5⟩
                     have hb5' := HNX.out _ _ hb5 (by assumption))
                  | (go_at_call 43
                     refine (HNV2.out _ (by assumption)).mono ?_
                     rintro e w6 ⟨v6, rfl, ho6, hb6⟩
                     have hb6' := HNX.out _ _ hb6 (by assumption)))
              all_goals
                go_wp2_with fail
                go_ret2
                rw [shl_2]
                rw [decide_eq_true i1]
                refine arg_yes v6 rfl ⟨HIS.out, (fit_num _ (by decide)).2 HF.out, HBR.out⟩ ?_ ?_
                · rw [show encA 119 ⟨ai, an, az, af, ag, ah, aq, av⟩ = be 2 an by unfold encA; rw [if_pos (by decide)]; rfl]
                  first | exact ho6 | exact own_below ho6 hb5
                · first | exact HB2.out.2.trans (hb5'.mono HB2.out.2.size) | exact HB2.out.2.trans (hb6'.mono HB2.out.2.size)
            · skip
              have i1 : ¬ (an : Int) < 65536 := by omega
              have HF := Lib.hid hf
              clear hf
              go_enter Tryz.func24, Tryz.ntmps24
              go_upto_region 1 with fail
              rw [HWW.out]
              go_upto_region 5 with (go_at_call 42; refine (HV.out _ HB.out).mono ?_; rintro e w2 ⟨rfl, hb2⟩; have hB2 := HB.out.trans (hb2.mono HB.out.size); have HB2 := Lib.hid (And.intro hb2 hB2); have hXB := hb2.size; clear hb2 hB2)
              have hk2 : ∀ i, w2.cell? ⟨w.heap.size, i, none⟩ = W.cell? ⟨w.heap.size, i, none⟩ := fun i => World.cell?_of_block (HB2.out.1.block _ HLT.out)
              have q0 := (hk2 0).trans p0
              have q1 := (hk2 1).trans p1
              have q2 := (hk2 2).trans p2
              have q3 := (hk2 3).trans p3
              have q4 := (hk2 4).trans p4
              have q5 := (hk2 5).trans p5
              have q6 := (hk2 6).trans p6
              have q7 := (hk2 7).trans p7
              have q8 := (hk2 8).trans p8
              have q9 := (hk2 9).trans p9
              have q10 := (hk2 10).trans p10
              have q11 := (hk2 11).trans p11
              clear hk2
              have HL2 : Hid (w.heap.size < w2.heap.size) := Lib.hid (Nat.lt_of_lt_of_le HLT.out HB2.out.1.size)
              go_upto_region 9 with fail
              have HKEEP := Lib.hid (fun w' (hb : Below w2.heap.size w2 w') => (show w'.cell? ⟨w.heap.size, 1, none⟩ = some (.int .u64 an) from (World.cell?_of_block (hb.block _ HL2.out)).trans q1))
              have HNX := Lib.hid (fun w' w'' (hb' : Below w'.heap.size w' w'') (hb : Below w2.heap.size w2 w') => hb.trans (hb'.mono hb.size))
              have hbd : Below w2.heap.size w2 w2.drew := below_drew1 (Below.refl _ _)
              have HWB := Lib.hid (fun w' => (show Calls Tryz.prog 44 #[.int .u8 (119 : Nat)] w' fun e w'' => e = .returned (.int .i64 2) ∧ Below w'.heap.size w' w'' from (HWD.out w').mono fun e w'' ⟨h1, h2⟩ => ⟨h1, by rw [h2]; exact Below.refl _ _⟩))
              have HNV2 := Lib.hid (fun w' (hb : Below w2.heap.size w2 w') => (show Calls Tryz.prog 43 #[.int .u64 an, .int .i64 2] w' fun e w'' => ∃ v, e = .returned v ∧ Own 5 w'' w.heap.size v (be 2 an) ∧ Below w'.heap.size w' w'' from (HNU.out w').mono fun e w'' ⟨v, h1, h2, h3⟩ => ⟨v, h1, h2.mono (Nat.le_trans HB2.out.2.size hb.size), h3⟩))
              clear q0 q1 q2 q3 q4 q5 q6 q7 q8 q9 q10 q11 p0 p1 p2 p3 p4 p5 p6 p7 p8 p9 p10 p11
              go_region_held3 (fun w' => w'.cell? ⟨w.heap.size, 1, none⟩ = some (.int .u64 an)) (exact HKEEP.out _ (by assumption))
                (first
                  | (go_at_call 44
                     refine (HWB.out _).mono ?_
                     rintro e w5 ⟨rfl, hb5⟩
                     have hb5' := HNX.out _ _ hb5 (by assumption))
                  | (go_at_call 43
                     refine (HNV2.out _ (by assumption)).mono ?_
                     rintro e w6 ⟨v6, rfl, ho6, hb6⟩
                     have hb6' := HNX.out _ _ hb6 (by assumption)))
              all_goals
                go_wp2_with fail
                go_ret2
                rw [shl_2]
                rw [decide_eq_false (show ¬ ((an : Int) < 65536) by omega)]
                refine arg_no v6 rfl (fun hv => HF.out ((fit_num _ (by decide)).1 hv.2.1)) ?_
                first | exact HB2.out.2.trans (hb5'.mono HB2.out.2.size) | exact HB2.out.2.trans (hb6'.mono HB2.out.2.size)
          · skip
            obtain rfl : S = false := by simpa using H6
            have HNV : Hid (¬ validA 119 ⟨ai, an, az, af, ag, ah, aq, av⟩) := Lib.hid (fun hv => (by have := HST.out.2 (hv.2.2.2.2.2.2 (by decide)); cases this))
            clear H1 H3 H4 H5
            go_enter Tryz.func24, Tryz.ntmps24
            go_upto_region 1 with fail
            rw [HWW.out]
            go_wp2_with fail
            refine (HV.out _ HB.out).mono ?_
            rintro e w2 ⟨rfl, hb2⟩
            have hB2 := HB.out.trans (hb2.mono HB.out.size)
            go_wp2_with fail
            go_ret2
            exact arg_no _ rfl HNV.out hB2
        · skip
          have s5 : decide (0 < aq.length) = true := by have := List.length_pos_iff.2 H5; simpa using this
          have HNV : Hid (¬ validA 119 ⟨ai, an, az, af, ag, ah, aq, av⟩) := Lib.hid (fun hv => H5 (hv.2.2.2.2.2.1 (by decide)))
          clear H1 H3 H4 H5
          go_enter Tryz.func24, Tryz.ntmps24
          go_upto_region 1 with fail
          rw [HWW.out]
          go_wp2_with fail
          go_ret2
          exact arg_no _ rfl HNV.out HB.out
      · skip
        have hE := fun w' => HE.out w'
        rw [decide_eq_false H4] at hE
        have HNV : Hid (¬ validA 119 ⟨ai, an, az, af, ag, ah, aq, av⟩) := Lib.hid (fun hv => H4 (hv.2.2.2.2.1 (by decide)))
        clear H1 H3 H4
        go_enter Tryz.func24, Tryz.ntmps24
        go_upto_region 1 with fail
        rw [HWW.out]
        go_wp2_with fail
        go_ret2
        exact arg_no _ rfl HNV.out HB.out
    · skip
      have s3 : ¬ az.toList = [] := by rw [sb_toList]; intro e; exact H3 (xsb_inj.1 e)
      have s3b : (az.toList == []) = false := by simpa using s3
      have HNV : Hid (¬ validA 119 ⟨ai, an, az, af, ag, ah, aq, av⟩) := Lib.hid (fun hv => H3 (hv.2.2.2.1 (by decide)))
      clear H1 H3
      go_enter Tryz.func24, Tryz.ntmps24
      go_upto_region 1 with fail
      rw [HWW.out]
      go_wp2_with fail
      go_ret2
      exact arg_no _ rfl HNV.out HB.out
  · skip
    rw [show ai = false by simpa using H1] at p0
    have HNV : Hid (¬ validA 119 ⟨ai, an, az, af, ag, ah, aq, av⟩) := Lib.hid (fun hv => H1 (hv.1 (by decide)))
    clear H1
    go_enter Tryz.func24, Tryz.ntmps24
    go_upto_region 1 with fail
    rw [HWW.out]
    go_wp2_with fail
    go_ret2
    exact arg_no _ rfl HNV.out HB.out
set_option maxRecDepth 100000 in
set_option maxHeartbeats 4000000 in
theorem qarg_100 (a : ArgP) (A : Option Addr) (c dq : Nat) (v0 v1 v2 v3 v4 : Value) (w : World) (h : ShowsA w a A c dq v0 v1 v2 v3 v4) (hql : a.q.length ≤ 1100) :
    Calls Tryz.prog 24 #[.int .u8 (100 : Nat), argV a (.slice A a.q.length c) v0 v1 v2 v3 v4] w (ArgSaid 100 a w) := by
  have hX := BoxG.new w a (.slice A a.q.length c) v0 v1 v2 v3 v4
  have hb0 : Below w.heap.size w (w.alloc (Obj.cells #[.bool a.is, .int .u64 a.n, .string a.s, .int .u32 a.f, .string a.g, .string a.h, .slice A a.q.length c, v0, v1, v2, v3, v4] 52)) := below_box w _
  have HS := Lib.hid (fun w' (hb : Below w.heap.size w w') => h.kept hb (Nat.le_refl _))
  have hsz := h.sz
  have HA := Lib.hid (show a = a from rfl)
  have HV := Lib.hid (fun w' (hb : Below w.heap.size w w') => (show Calls Tryz.prog 42 #[.agg #[v0, v1, v2, v3, v4], .agg #[.int .u8 0, .int .u64 0, .string ⟨#[]⟩, .slice none 0 0, .slice none 0 0]] w' fun e w'' => e = .returned (.bool (sameT a.v zT)) ∧ Below w'.heap.size w' w'' from qsame_main _ a.v zT [v0, v1, v2, v3, v4] [.int .u8 (0 : Nat), .int .u64 (0 : Nat), .string ⟨#[]⟩, .slice none 0 0, .slice none 0 0] w' rfl (h.kept hb (Nat.le_refl _)).v (shows_zT w')))
  have HWD := Lib.hid (fun w' => (show Calls Tryz.prog 44 #[.int .u8 (100 : Nat)] w' fun e w'' => e = .returned (.int .i64 4) ∧ w'' = w' from qwidth_any 100 (by omega) w'))
  have HNU := Lib.hid (fun w' => (show Calls Tryz.prog 43 #[.int .u64 a.n, .int .i64 4] w' fun e w'' => ∃ v, e = .returned v ∧ Own 5 w'' w'.heap.size v (be 4 a.n) ∧ Below w'.heap.size w' w'' from number_any 4 a.n w' (by omega) hsz.n))
  have HE : Hid (∀ w' : World, (Op.equalIn 10000 44 (.agg #[.int .u32 (a.f : Int), .string a.g, .string a.h]) (.agg #[.int .u32 0, .string ⟨#[]⟩, .string ⟨#[]⟩])).run Tryz.prog w' = .ok (decide (a.f = 0 ∧ a.g = ⟨#[]⟩ ∧ a.h = ⟨#[]⟩)) w') := Lib.hid fun w' => run_eq_xid a.f 0 a.g a.h ⟨#[]⟩ ⟨#[]⟩ w'
  have hG := xidGuard
  have HST : Hid (sameT a.v zT = true ↔ a.v = zT) := Lib.hid (sameT_iff _ _)
  unfold argV
  obtain ⟨⟨p0, p1, p2⟩, ⟨p3, p4, p5⟩, p6, p7, p8, p9, p10, p11⟩ := hX.cells
  obtain ⟨ai, an, az, af, ag, ah, aq, av⟩ := a
  simp only [] at *
  generalize hW : w.alloc (Obj.cells #[.bool ai, .int .u64 an, .string az, .int .u32 af, .string ag, .string ah, .slice A aq.length c, v0, v1, v2, v3, v4] 52) = W at *
  have HLT : Hid (w.heap.size < W.heap.size) := Lib.hid (by rw [← hW]; simp)
  have HWW := Lib.hid hW
  have HB := Lib.hid hb0
  generalize sameT av zT = S at *
  clear hX hb0 hW h hsz HS HA
  by_cases H1 : ai = true
  · skip
    rw [H1] at p0
    by_cases H3 : az = ⟨#[]⟩
    · skip
      have s3 : az.toList = [] := by rw [sb_toList, H3]; rfl
      have s3b : (az.toList == []) = true := by rw [s3]; rfl
      by_cases H4 : af = 0 ∧ ag = ⟨#[]⟩ ∧ ah = ⟨#[]⟩
      · skip
        have hE := fun w' => HE.out w'
        rw [decide_eq_true H4] at hE
        by_cases H5 : aq = []
        · skip
          have s5 : decide (0 < aq.length) = false := by rw [H5]; rfl
          by_cases H6 : S = true
          · skip
            obtain rfl : S = true := H6
            have HBR : Hid (bareA 100 ⟨ai, an, az, af, ag, ah, aq, av⟩) := Lib.hid ⟨fun x => absurd (show isNum 100 by decide) x, fun _ => H3, fun _ => H4, fun _ => H5, fun _ => HST.out.1 (by first | rfl | trivial)⟩
            have HIS : Hid (100 ≠ 98 → ai = true) := Lib.hid (fun _ => H1)
            clear H1 H3 H4 H5
            by_cases hf : an < 4294967296
            · skip
              have i1 : (an : Int) < 4294967296 := by omega
              have HF := Lib.hid hf
              clear hf
              go_enter Tryz.func24, Tryz.ntmps24
              go_upto_region 1 with fail
              rw [HWW.out]
              go_upto_region 5 with (go_at_call 42; refine (HV.out _ HB.out).mono ?_; rintro e w2 ⟨rfl, hb2⟩; have hB2 := HB.out.trans (hb2.mono HB.out.size); have HB2 := Lib.hid (And.intro hb2 hB2); have hXB := hb2.size; clear hb2 hB2)
              have hk2 : ∀ i, w2.cell? ⟨w.heap.size, i, none⟩ = W.cell? ⟨w.heap.size, i, none⟩ := fun i => World.cell?_of_block (HB2.out.1.block _ HLT.out)
              have q0 := (hk2 0).trans p0
              have q1 := (hk2 1).trans p1
              have q2 := (hk2 2).trans p2
              have q3 := (hk2 3).trans p3
              have q4 := (hk2 4).trans p4
              have q5 := (hk2 5).trans p5
              have q6 := (hk2 6).trans p6
              have q7 := (hk2 7).trans p7
              have q8 := (hk2 8).trans p8
              have q9 := (hk2 9).trans p9
              have q10 := (hk2 10).trans p10
              have q11 := (hk2 11).trans p11
              clear hk2
              have HL2 : Hid (w.heap.size < w2.heap.size) := Lib.hid (Nat.lt_of_lt_of_le HLT.out HB2.out.1.size)
              go_upto_region 9 with fail
              have HKEEP := Lib.hid (fun w' (hb : Below w2.heap.size w2 w') => (show w'.cell? ⟨w.heap.size, 1, none⟩ = some (.int .u64 an) from (World.cell?_of_block (hb.block _ HL2.out)).trans q1))
              have HNX := Lib.hid (fun w' w'' (hb' : Below w'.heap.size w' w'') (hb : Below w2.heap.size w2 w') => hb.trans (hb'.mono hb.size))
              have hbd : Below w2.heap.size w2 w2.drew := below_drew1 (Below.refl _ _)
              have HWB := Lib.hid (fun w' => (show Calls Tryz.prog 44 #[.int .u8 (100 : Nat)] w' fun e w'' => e = .returned (.int .i64 4) ∧ Below w'.heap.size w' w'' from (HWD.out w').mono fun e w'' ⟨h1, h2⟩ => ⟨h1, by rw [h2]; exact Below.refl _ _⟩))
              have HNV2 := Lib.hid (fun w' (hb : Below w2.heap.size w2 w') => (show Calls Tryz.prog 43 #[.int .u64 an, .int .i64 4] w' fun e w'' => ∃ v, e = .returned v ∧ Own 5 w'' w.heap.size v (be 4 an) ∧ Below w'.heap.size w' w'' from (HNU.out w').mono fun e w'' ⟨v, h1, h2, h3⟩ => ⟨v, h1, h2.mono (Nat.le_trans HB2.out.2.size hb.size), h3⟩))
              clear q0 q1 q2 q3 q4 q5 q6 q7 q8 q9 q10 q11 p0 p1 p2 p3 p4 p5 p6 p7 p8 p9 p10 p11
              go_region_held3 (fun w' => w'.cell? ⟨w.heap.size, 1, none⟩ = some (.int .u64 an)) (exact HKEEP.out _ (by assumption))
                (first
                  | (go_at_call 44
                     refine (HWB.out _).mono ?_
                     rintro e w5 ⟨rfl, hb5⟩
                     have hb5' := HNX.out _ _ hb5 (by assumption))
                  | (go_at_call 43
                     refine (HNV2.out _ (by assumption)).mono ?_
                     rintro e w6 ⟨v6, rfl, ho6, hb6⟩
                     have hb6' := HNX.out _ _ hb6 (by assumption)))
              all_goals
                go_wp2_with fail
                go_ret2
                rw [shl_4]
                rw [decide_eq_true i1]
                refine arg_yes v6 rfl ⟨HIS.out, (fit_num _ (by decide)).2 HF.out, HBR.out⟩ ?_ ?_
                · rw [show encA 100 ⟨ai, an, az, af, ag, ah, aq, av⟩ = be 4 an by unfold encA; rw [if_pos (by decide)]; rfl]
                  first | exact ho6 | exact own_below ho6 hb5
                · first | exact HB2.out.2.trans (hb5'.mono HB2.out.2.size) | exact HB2.out.2.trans (hb6'.mono HB2.out.2.size)
            · skip
              have i1 : ¬ (an : Int) < 4294967296 := by omega
              have HF := Lib.hid hf
              clear hf
              go_enter Tryz.func24, Tryz.ntmps24
              go_upto_region 1 with fail
              rw [HWW.out]
              go_upto_region 5 with (go_at_call 42; refine (HV.out _ HB.out).mono ?_; rintro e w2 ⟨rfl, hb2⟩; have hB2 := HB.out.trans (hb2.mono HB.out.size); have HB2 := Lib.hid (And.intro hb2 hB2); have hXB := hb2.size; clear hb2 hB2)
              have hk2 : ∀ i, w2.cell? ⟨w.heap.size, i, none⟩ = W.cell? ⟨w.heap.size, i, none⟩ := fun i => World.cell?_of_block (HB2.out.1.block _ HLT.out)
              have q0 := (hk2 0).trans p0
              have q1 := (hk2 1).trans p1
              have q2 := (hk2 2).trans p2
              have q3 := (hk2 3).trans p3
              have q4 := (hk2 4).trans p4
              have q5 := (hk2 5).trans p5
              have q6 := (hk2 6).trans p6
              have q7 := (hk2 7).trans p7
              have q8 := (hk2 8).trans p8
              have q9 := (hk2 9).trans p9
              have q10 := (hk2 10).trans p10
              have q11 := (hk2 11).trans p11
              clear hk2
              have HL2 : Hid (w.heap.size < w2.heap.size) := Lib.hid (Nat.lt_of_lt_of_le HLT.out HB2.out.1.size)
              go_upto_region 9 with fail
              have HKEEP := Lib.hid (fun w' (hb : Below w2.heap.size w2 w') => (show w'.cell? ⟨w.heap.size, 1, none⟩ = some (.int .u64 an) from (World.cell?_of_block (hb.block _ HL2.out)).trans q1))
              have HNX := Lib.hid (fun w' w'' (hb' : Below w'.heap.size w' w'') (hb : Below w2.heap.size w2 w') => hb.trans (hb'.mono hb.size))
              have hbd : Below w2.heap.size w2 w2.drew := below_drew1 (Below.refl _ _)
              have HWB := Lib.hid (fun w' => (show Calls Tryz.prog 44 #[.int .u8 (100 : Nat)] w' fun e w'' => e = .returned (.int .i64 4) ∧ Below w'.heap.size w' w'' from (HWD.out w').mono fun e w'' ⟨h1, h2⟩ => ⟨h1, by rw [h2]; exact Below.refl _ _⟩))
              have HNV2 := Lib.hid (fun w' (hb : Below w2.heap.size w2 w') => (show Calls Tryz.prog 43 #[.int .u64 an, .int .i64 4] w' fun e w'' => ∃ v, e = .returned v ∧ Own 5 w'' w.heap.size v (be 4 an) ∧ Below w'.heap.size w' w'' from (HNU.out w').mono fun e w'' ⟨v, h1, h2, h3⟩ => ⟨v, h1, h2.mono (Nat.le_trans HB2.out.2.size hb.size), h3⟩))
              clear q0 q1 q2 q3 q4 q5 q6 q7 q8 q9 q10 q11 p0 p1 p2 p3 p4 p5 p6 p7 p8 p9 p10 p11
              go_region_held3 (fun w' => w'.cell? ⟨w.heap.size, 1, none⟩ = some (.int .u64 an)) (exact HKEEP.out _ (by assumption))
                (first
                  | (go_at_call 44
                     refine (HWB.out _).mono ?_
                     rintro e w5 ⟨rfl, hb5⟩
                     have hb5' := HNX.out _ _ hb5 (by assumption))
                  | (go_at_call 43
                     refine (HNV2.out _ (by assumption)).mono ?_
                     rintro e w6 ⟨v6, rfl, ho6, hb6⟩
                     have hb6' := HNX.out _ _ hb6 (by assumption)))
              all_goals
                go_wp2_with fail
                go_ret2
                rw [shl_4]
                rw [decide_eq_false (show ¬ ((an : Int) < 4294967296) by omega)]
                refine arg_no v6 rfl (fun hv => HF.out ((fit_num _ (by decide)).1 hv.2.1)) ?_
                first | exact HB2.out.2.trans (hb5'.mono HB2.out.2.size) | exact HB2.out.2.trans (hb6'.mono HB2.out.2.size)
          · skip
            obtain rfl : S = false := by simpa using H6
            have HNV : Hid (¬ validA 100 ⟨ai, an, az, af, ag, ah, aq, av⟩) := Lib.hid (fun hv => (by have := HST.out.2 (hv.2.2.2.2.2.2 (by decide)); cases this))
            clear H1 H3 H4 H5
            go_enter Tryz.func24, Tryz.ntmps24
            go_upto_region 1 with fail
            rw [HWW.out]
            go_wp2_with fail
            refine (HV.out _ HB.out).mono ?_
            rintro e w2 ⟨rfl, hb2⟩
            have hB2 := HB.out.trans (hb2.mono HB.out.size)
            go_wp2_with fail
            go_ret2
            exact arg_no _ rfl HNV.out hB2
        · skip
          have s5 : decide (0 < aq.length) = true := by have := List.length_pos_iff.2 H5; simpa using this
          have HNV : Hid (¬ validA 100 ⟨ai, an, az, af, ag, ah, aq, av⟩) := Lib.hid (fun hv => H5 (hv.2.2.2.2.2.1 (by decide)))
          clear H1 H3 H4 H5
          go_enter Tryz.func24, Tryz.ntmps24
          go_upto_region 1 with fail
          rw [HWW.out]
          go_wp2_with fail
          go_ret2
          exact arg_no _ rfl HNV.out HB.out
      · skip
        have hE := fun w' => HE.out w'
        rw [decide_eq_false H4] at hE
        have HNV : Hid (¬ validA 100 ⟨ai, an, az, af, ag, ah, aq, av⟩) := Lib.hid (fun hv => H4 (hv.2.2.2.2.1 (by decide)))
        clear H1 H3 H4
        go_enter Tryz.func24, Tryz.ntmps24
        go_upto_region 1 with fail
        rw [HWW.out]
        go_wp2_with fail
        go_ret2
        exact arg_no _ rfl HNV.out HB.out
    · skip
      have s3 : ¬ az.toList = [] := by rw [sb_toList]; intro e; exact H3 (xsb_inj.1 e)
      have s3b : (az.toList == []) = false := by simpa using s3
      have HNV : Hid (¬ validA 100 ⟨ai, an, az, af, ag, ah, aq, av⟩) := Lib.hid (fun hv => H3 (hv.2.2.2.1 (by decide)))
      clear H1 H3
      go_enter Tryz.func24, Tryz.ntmps24
      go_upto_region 1 with fail
      rw [HWW.out]
      go_wp2_with fail
      go_ret2
      exact arg_no _ rfl HNV.out HB.out
  · skip
    rw [show ai = false by simpa using H1] at p0
    have HNV : Hid (¬ validA 100 ⟨ai, an, az, af, ag, ah, aq, av⟩) := Lib.hid (fun hv => H1 (hv.1 (by decide)))
    clear H1
    go_enter Tryz.func24, Tryz.ntmps24
    go_upto_region 1 with fail
    rw [HWW.out]
    go_wp2_with fail
    go_ret2
    exact arg_no _ rfl HNV.out HB.out
set_option maxRecDepth 100000 in
set_option maxHeartbeats 4000000 in
theorem qarg_115 (a : ArgP) (A : Option Addr) (c dq : Nat) (v0 v1 v2 v3 v4 : Value) (w : World) (h : ShowsA w a A c dq v0 v1 v2 v3 v4) (hql : a.q.length ≤ 1100) :
    Calls Tryz.prog 24 #[.int .u8 (115 : Nat), argV a (.slice A a.q.length c) v0 v1 v2 v3 v4] w (ArgSaid 115 a w) := by
  have hX := BoxG.new w a (.slice A a.q.length c) v0 v1 v2 v3 v4
  have hb0 : Below w.heap.size w (w.alloc (Obj.cells #[.bool a.is, .int .u64 a.n, .string a.s, .int .u32 a.f, .string a.g, .string a.h, .slice A a.q.length c, v0, v1, v2, v3, v4] 52)) := below_box w _
  have HS := Lib.hid (fun w' (hb : Below w.heap.size w w') => h.kept hb (Nat.le_refl _))
  have hsz := h.sz
  have HA := Lib.hid (show a = a from rfl)
  have HV := Lib.hid (fun w' (hb : Below w.heap.size w w') => (show Calls Tryz.prog 42 #[.agg #[v0, v1, v2, v3, v4], .agg #[.int .u8 0, .int .u64 0, .string ⟨#[]⟩, .slice none 0 0, .slice none 0 0]] w' fun e w'' => e = .returned (.bool (sameT a.v zT)) ∧ Below w'.heap.size w' w'' from qsame_main _ a.v zT [v0, v1, v2, v3, v4] [.int .u8 (0 : Nat), .int .u64 (0 : Nat), .string ⟨#[]⟩, .slice none 0 0, .slice none 0 0] w' rfl (h.kept hb (Nat.le_refl _)).v (shows_zT w')))
  have HWD := Lib.hid (fun w' => (show Calls Tryz.prog 44 #[.int .u8 (115 : Nat)] w' fun e w'' => e = .returned (.int .i64 1) ∧ w'' = w' from qwidth_any 115 (by omega) w'))
  have HTL := Lib.hid (fun w' (hl : 256 ≤ a.s.size) => (show Calls Tryz.prog 45 #[.slice none 0 0, .string a.s, .int .i64 1] w' fun e w'' => e = .returned (.tuple #[.slice none 0 0, .int .i64 3]) ∧ w' = w'' from qputText_long1 _ a.s w' (by have := hsz.s; omega) hl))
  have HTK := Lib.hid (fun w' (hl : a.s.size < 256) => (show Calls Tryz.prog 45 #[.slice none 0 0, .string a.s, .int .i64 1] w' fun e w'' => ∃ v', e = .returned (.tuple #[v', .int .i64 0]) ∧ Own 5 w'' w'.heap.size v' ([] ++ (be 1 a.s.size ++ sb a.s)) ∧ Below w'.heap.size w' w'' from qputText_ok1 _ [] 0 a.s w' (Shows.nil_ w' 0) (by simp) hl))
  have HE : Hid (∀ w' : World, (Op.equalIn 10000 44 (.agg #[.int .u32 (a.f : Int), .string a.g, .string a.h]) (.agg #[.int .u32 0, .string ⟨#[]⟩, .string ⟨#[]⟩])).run Tryz.prog w' = .ok (decide (a.f = 0 ∧ a.g = ⟨#[]⟩ ∧ a.h = ⟨#[]⟩)) w') := Lib.hid fun w' => run_eq_xid a.f 0 a.g a.h ⟨#[]⟩ ⟨#[]⟩ w'
  have hG := xidGuard
  have HST : Hid (sameT a.v zT = true ↔ a.v = zT) := Lib.hid (sameT_iff _ _)
  unfold argV
  obtain ⟨⟨p0, p1, p2⟩, ⟨p3, p4, p5⟩, p6, p7, p8, p9, p10, p11⟩ := hX.cells
  obtain ⟨ai, an, az, af, ag, ah, aq, av⟩ := a
  simp only [] at *
  generalize hW : w.alloc (Obj.cells #[.bool ai, .int .u64 an, .string az, .int .u32 af, .string ag, .string ah, .slice A aq.length c, v0, v1, v2, v3, v4] 52) = W at *
  have HLT : Hid (w.heap.size < W.heap.size) := Lib.hid (by rw [← hW]; simp)
  have HWW := Lib.hid hW
  have HB := Lib.hid hb0
  generalize sameT av zT = S at *
  clear hX hb0 hW h hsz HS HA
  by_cases H1 : ai = true
  · skip
    rw [H1] at p0
    by_cases H2 : an = 0
    · skip
      have s2 : ((an : Int) != 0) = false := by rw [H2]; rfl
      by_cases H4 : af = 0 ∧ ag = ⟨#[]⟩ ∧ ah = ⟨#[]⟩
      · skip
        have hE := fun w' => HE.out w'
        rw [decide_eq_true H4] at hE
        by_cases H5 : aq = []
        · skip
          have s5 : decide (0 < aq.length) = false := by rw [H5]; rfl
          by_cases H6 : S = true
          · skip
            obtain rfl : S = true := H6
            have HBR : Hid (bareA 115 ⟨ai, an, az, af, ag, ah, aq, av⟩) := Lib.hid ⟨fun _ => H2, fun x => absurd (show isTxt 115 by decide) x, fun _ => H4, fun _ => H5, fun _ => HST.out.1 (by first | rfl | trivial)⟩
            have HIS : Hid (115 ≠ 98 → ai = true) := Lib.hid (fun _ => H1)
            clear H1 H2 H4 H5
            by_cases hf : az.size < 256
            · skip
              have HF := Lib.hid hf
              clear hf
              go_enter Tryz.func24, Tryz.ntmps24
              go_upto_region 1 with fail
              rw [HWW.out]
              go_upto_region 5 with (go_at_call 42; refine (HV.out _ HB.out).mono ?_; rintro e w2 ⟨rfl, hb2⟩; have hB2 := HB.out.trans (hb2.mono HB.out.size); have HB2 := Lib.hid (And.intro hb2 hB2); have hXB := hb2.size; clear hb2 hB2)
              have hk2 : ∀ i, w2.cell? ⟨w.heap.size, i, none⟩ = W.cell? ⟨w.heap.size, i, none⟩ := fun i => World.cell?_of_block (HB2.out.1.block _ HLT.out)
              have q0 := (hk2 0).trans p0
              have q1 := (hk2 1).trans p1
              have q2 := (hk2 2).trans p2
              have q3 := (hk2 3).trans p3
              have q4 := (hk2 4).trans p4
              have q5 := (hk2 5).trans p5
              have q6 := (hk2 6).trans p6
              have q7 := (hk2 7).trans p7
              have q8 := (hk2 8).trans p8
              have q9 := (hk2 9).trans p9
              have q10 := (hk2 10).trans p10
              have q11 := (hk2 11).trans p11
              clear hk2
              have HL2 : Hid (w.heap.size < w2.heap.size) := Lib.hid (Nat.lt_of_lt_of_le HLT.out HB2.out.1.size)
              go_upto_region 12 with fail
              clear q0 q1 q3 q4 q5 q6 q7 q8 q9 q10 q11 p0 p1 p2 p3 p4 p5 p6 p7 p8 p9 p10 p11
              have HKEEP := Lib.hid (fun w' (hb : Below w2.heap.size w2 w') => (show w'.cell? ⟨w.heap.size, 2, none⟩ = some (.string az) from (World.cell?_of_block (hb.block _ HL2.out)).trans q2))
              have HNX := Lib.hid (fun w' w'' (hb' : Below w'.heap.size w' w'') (hb : Below w2.heap.size w2 w') => hb.trans (hb'.mono hb.size))
              have hbd : Below w2.heap.size w2 w2.drew := below_drew1 (Below.refl _ _)
              have HWB := Lib.hid (fun w' => (show Calls Tryz.prog 44 #[.int .u8 (115 : Nat)] w' fun e w'' => e = .returned (.int .i64 1) ∧ Below w'.heap.size w' w'' from (HWD.out w').mono fun e w'' ⟨h1, h2⟩ => ⟨h1, by rw [h2]; exact Below.refl _ _⟩))
              have HTP := Lib.hid (fun w' (hb : Below w2.heap.size w2 w') => (show Calls Tryz.prog 45 #[.slice none 0 0, .string az, .int .i64 1] w' fun e w'' => ∃ v', e = .returned (.tuple #[v', .int .i64 0]) ∧ Own 5 w'' w.heap.size v' ([] ++ (be 1 az.size ++ sb az)) ∧ Below w'.heap.size w' w'' from (HTK.out w' HF.out).mono fun e w'' ⟨v, h1, h2, h3⟩ => ⟨v, h1, h2.mono (Nat.le_trans HB2.out.2.size hb.size), h3⟩))
              go_region_held3 (fun w' => w'.cell? ⟨w.heap.size, 2, none⟩ = some (.string az)) (exact HKEEP.out _ (by assumption))
                (first
                  | (go_at_call 44
                     refine (HWB.out _).mono ?_
                     rintro e w5 ⟨rfl, hb5⟩
                     have hb5' := HNX.out _ _ hb5 (by assumption))
                  | (go_at_call 45
                     refine (HTP.out _ (by assumption)).mono ?_
                     rintro e w6 ⟨v6, rfl, ho6, hb6⟩
                     have hb6' := HNX.out _ _ hb6 (by assumption)))
              all_goals
                simp only [Exit.inBlock, Exit.then, Exit.noGoto]
                go_wp2_with fail
                go_ret2
                refine arg_yes v6 rfl ⟨HIS.out, (fit_txt _ (by decide)).2 HF.out, HBR.out⟩ ?_ (HB2.out.2.trans (hb6'.mono HB2.out.2.size))
                rw [show encA 115 ⟨ai, an, az, af, ag, ah, aq, av⟩ = [] ++ (be 1 az.size ++ sb az) by unfold encA; rw [if_neg (by decide), if_pos (by decide)]; rfl]
                exact ho6
            · skip
              have HF := Lib.hid hf
              clear hf
              go_enter Tryz.func24, Tryz.ntmps24
              go_upto_region 1 with fail
              rw [HWW.out]
              go_upto_region 5 with (go_at_call 42; refine (HV.out _ HB.out).mono ?_; rintro e w2 ⟨rfl, hb2⟩; have hB2 := HB.out.trans (hb2.mono HB.out.size); have HB2 := Lib.hid (And.intro hb2 hB2); have hXB := hb2.size; clear hb2 hB2)
              have hk2 : ∀ i, w2.cell? ⟨w.heap.size, i, none⟩ = W.cell? ⟨w.heap.size, i, none⟩ := fun i => World.cell?_of_block (HB2.out.1.block _ HLT.out)
              have q0 := (hk2 0).trans p0
              have q1 := (hk2 1).trans p1
              have q2 := (hk2 2).trans p2
              have q3 := (hk2 3).trans p3
              have q4 := (hk2 4).trans p4
              have q5 := (hk2 5).trans p5
              have q6 := (hk2 6).trans p6
              have q7 := (hk2 7).trans p7
              have q8 := (hk2 8).trans p8
              have q9 := (hk2 9).trans p9
              have q10 := (hk2 10).trans p10
              have q11 := (hk2 11).trans p11
              clear hk2
              have HL2 : Hid (w.heap.size < w2.heap.size) := Lib.hid (Nat.lt_of_lt_of_le HLT.out HB2.out.1.size)
              go_upto_region 12 with fail
              clear q0 q1 q3 q4 q5 q6 q7 q8 q9 q10 q11 p0 p1 p2 p3 p4 p5 p6 p7 p8 p9 p10 p11
              have HKEEP := Lib.hid (fun w' (hb : Below w2.heap.size w2 w') => (show w'.cell? ⟨w.heap.size, 2, none⟩ = some (.string az) from (World.cell?_of_block (hb.block _ HL2.out)).trans q2))
              have HNX := Lib.hid (fun w' w'' (hb' : Below w'.heap.size w' w'') (hb : Below w2.heap.size w2 w') => hb.trans (hb'.mono hb.size))
              have hbd : Below w2.heap.size w2 w2.drew := below_drew1 (Below.refl _ _)
              have HWB := Lib.hid (fun w' => (show Calls Tryz.prog 44 #[.int .u8 (115 : Nat)] w' fun e w'' => e = .returned (.int .i64 1) ∧ Below w'.heap.size w' w'' from (HWD.out w').mono fun e w'' ⟨h1, h2⟩ => ⟨h1, by rw [h2]; exact Below.refl _ _⟩))
              have HTP := Lib.hid (fun w' (hb : Below w2.heap.size w2 w') => (show Calls Tryz.prog 45 #[.slice none 0 0, .string az, .int .i64 1] w' fun e w'' => e = .returned (.tuple #[.slice none 0 0, .int .i64 3]) ∧ Below w'.heap.size w' w'' from (HTL.out w' (by have := HF.out; omega)).mono fun e w'' ⟨h1, h2⟩ => ⟨h1, by rw [h2]; exact Below.refl _ _⟩))
              go_region_held3 (fun w' => w'.cell? ⟨w.heap.size, 2, none⟩ = some (.string az)) (exact HKEEP.out _ (by assumption))
                (first
                  | (go_at_call 44
                     refine (HWB.out _).mono ?_
                     rintro e w5 ⟨rfl, hb5⟩
                     have hb5' := HNX.out _ _ hb5 (by assumption))
                  | (go_at_call 45
                     refine (HTP.out _ (by assumption)).mono ?_
                     rintro e w6 ⟨rfl, hb6⟩
                     have hb6' := HNX.out _ _ hb6 (by assumption)))
              all_goals
                simp only [Exit.inBlock, Exit.then, Exit.noGoto]
                go_wp2_with fail
                go_ret2
                exact arg_no _ rfl (fun hv => HF.out ((fit_txt _ (by decide)).1 hv.2.1)) (HB2.out.2.trans (hb6'.mono HB2.out.2.size))
          · skip
            obtain rfl : S = false := by simpa using H6
            have HNV : Hid (¬ validA 115 ⟨ai, an, az, af, ag, ah, aq, av⟩) := Lib.hid (fun hv => (by have := HST.out.2 (hv.2.2.2.2.2.2 (by decide)); cases this))
            clear H1 H2 H4 H5
            go_enter Tryz.func24, Tryz.ntmps24
            go_upto_region 1 with fail
            rw [HWW.out]
            go_wp2_with fail
            refine (HV.out _ HB.out).mono ?_
            rintro e w2 ⟨rfl, hb2⟩
            have hB2 := HB.out.trans (hb2.mono HB.out.size)
            go_wp2_with fail
            go_ret2
            exact arg_no _ rfl HNV.out hB2
        · skip
          have s5 : decide (0 < aq.length) = true := by have := List.length_pos_iff.2 H5; simpa using this
          have HNV : Hid (¬ validA 115 ⟨ai, an, az, af, ag, ah, aq, av⟩) := Lib.hid (fun hv => H5 (hv.2.2.2.2.2.1 (by decide)))
          clear H1 H2 H4 H5
          go_enter Tryz.func24, Tryz.ntmps24
          go_upto_region 1 with fail
          rw [HWW.out]
          go_wp2_with fail
          go_ret2
          exact arg_no _ rfl HNV.out HB.out
      · skip
        have hE := fun w' => HE.out w'
        rw [decide_eq_false H4] at hE
        have HNV : Hid (¬ validA 115 ⟨ai, an, az, af, ag, ah, aq, av⟩) := Lib.hid (fun hv => H4 (hv.2.2.2.2.1 (by decide)))
        clear H1 H2 H4
        go_enter Tryz.func24, Tryz.ntmps24
        go_upto_region 1 with fail
        rw [HWW.out]
        go_wp2_with fail
        go_ret2
        exact arg_no _ rfl HNV.out HB.out
    · skip
      have s2 : ((an : Int) != 0) = true := by rw [bne_iff_ne]; omega
      have HNV : Hid (¬ validA 115 ⟨ai, an, az, af, ag, ah, aq, av⟩) := Lib.hid (fun hv => H2 (hv.2.2.1 (by decide)))
      clear H1 H2
      go_enter Tryz.func24, Tryz.ntmps24
      go_upto_region 1 with fail
      rw [HWW.out]
      go_wp2_with fail
      go_ret2
      exact arg_no _ rfl HNV.out HB.out
  · skip
    rw [show ai = false by simpa using H1] at p0
    have HNV : Hid (¬ validA 115 ⟨ai, an, az, af, ag, ah, aq, av⟩) := Lib.hid (fun hv => H1 (hv.1 (by decide)))
    clear H1
    go_enter Tryz.func24, Tryz.ntmps24
    go_upto_region 1 with fail
    rw [HWW.out]
    go_wp2_with fail
    go_ret2
    exact arg_no _ rfl HNV.out HB.out
set_option maxRecDepth 100000 in
set_option maxHeartbeats 4000000 in
theorem qarg_116 (a : ArgP) (A : Option Addr) (c dq : Nat) (v0 v1 v2 v3 v4 : Value) (w : World) (h : ShowsA w a A c dq v0 v1 v2 v3 v4) (hql : a.q.length ≤ 1100) :
    Calls Tryz.prog 24 #[.int .u8 (116 : Nat), argV a (.slice A a.q.length c) v0 v1 v2 v3 v4] w (ArgSaid 116 a w) := by
  have hX := BoxG.new w a (.slice A a.q.length c) v0 v1 v2 v3 v4
  have hb0 : Below w.heap.size w (w.alloc (Obj.cells #[.bool a.is, .int .u64 a.n, .string a.s, .int .u32 a.f, .string a.g, .string a.h, .slice A a.q.length c, v0, v1, v2, v3, v4] 52)) := below_box w _
  have HS := Lib.hid (fun w' (hb : Below w.heap.size w w') => h.kept hb (Nat.le_refl _))
  have hsz := h.sz
  have HA := Lib.hid (show a = a from rfl)
  have HV := Lib.hid (fun w' (hb : Below w.heap.size w w') => (show Calls Tryz.prog 42 #[.agg #[v0, v1, v2, v3, v4], .agg #[.int .u8 0, .int .u64 0, .string ⟨#[]⟩, .slice none 0 0, .slice none 0 0]] w' fun e w'' => e = .returned (.bool (sameT a.v zT)) ∧ Below w'.heap.size w' w'' from qsame_main _ a.v zT [v0, v1, v2, v3, v4] [.int .u8 (0 : Nat), .int .u64 (0 : Nat), .string ⟨#[]⟩, .slice none 0 0, .slice none 0 0] w' rfl (h.kept hb (Nat.le_refl _)).v (shows_zT w')))
  have HWD := Lib.hid (fun w' => (show Calls Tryz.prog 44 #[.int .u8 (116 : Nat)] w' fun e w'' => e = .returned (.int .i64 2) ∧ w'' = w' from qwidth_any 116 (by omega) w'))
  have HTL := Lib.hid (fun w' (hl : 65536 ≤ a.s.size) => (show Calls Tryz.prog 45 #[.slice none 0 0, .string a.s, .int .i64 2] w' fun e w'' => e = .returned (.tuple #[.slice none 0 0, .int .i64 3]) ∧ w' = w'' from qputText_long2 _ a.s w' (by have := hsz.s; omega) hl))
  have HTK := Lib.hid (fun w' (hl : a.s.size < 65536) => (show Calls Tryz.prog 45 #[.slice none 0 0, .string a.s, .int .i64 2] w' fun e w'' => ∃ v', e = .returned (.tuple #[v', .int .i64 0]) ∧ Own 5 w'' w'.heap.size v' ([] ++ (be 2 a.s.size ++ sb a.s)) ∧ Below w'.heap.size w' w'' from qputText_ok2 _ [] 0 a.s w' (Shows.nil_ w' 0) (by simp) hl))
  have HE : Hid (∀ w' : World, (Op.equalIn 10000 44 (.agg #[.int .u32 (a.f : Int), .string a.g, .string a.h]) (.agg #[.int .u32 0, .string ⟨#[]⟩, .string ⟨#[]⟩])).run Tryz.prog w' = .ok (decide (a.f = 0 ∧ a.g = ⟨#[]⟩ ∧ a.h = ⟨#[]⟩)) w') := Lib.hid fun w' => run_eq_xid a.f 0 a.g a.h ⟨#[]⟩ ⟨#[]⟩ w'
  have hG := xidGuard
  have HST : Hid (sameT a.v zT = true ↔ a.v = zT) := Lib.hid (sameT_iff _ _)
  unfold argV
  obtain ⟨⟨p0, p1, p2⟩, ⟨p3, p4, p5⟩, p6, p7, p8, p9, p10, p11⟩ := hX.cells
  obtain ⟨ai, an, az, af, ag, ah, aq, av⟩ := a
  simp only [] at *
  generalize hW : w.alloc (Obj.cells #[.bool ai, .int .u64 an, .string az, .int .u32 af, .string ag, .string ah, .slice A aq.length c, v0, v1, v2, v3, v4] 52) = W at *
  have HLT : Hid (w.heap.size < W.heap.size) := Lib.hid (by rw [← hW]; simp)
  have HWW := Lib.hid hW
  have HB := Lib.hid hb0
  generalize sameT av zT = S at *
  clear hX hb0 hW h hsz HS HA
  by_cases H1 : ai = true
  · skip
    rw [H1] at p0
    by_cases H2 : an = 0
    · skip
      have s2 : ((an : Int) != 0) = false := by rw [H2]; rfl
      by_cases H4 : af = 0 ∧ ag = ⟨#[]⟩ ∧ ah = ⟨#[]⟩
      · skip
        have hE := fun w' => HE.out w'
        rw [decide_eq_true H4] at hE
        by_cases H5 : aq = []
        · skip
          have s5 : decide (0 < aq.length) = false := by rw [H5]; rfl
          by_cases H6 : S = true
          · skip
            obtain rfl : S = true := H6
            have HBR : Hid (bareA 116 ⟨ai, an, az, af, ag, ah, aq, av⟩) := Lib.hid ⟨fun _ => H2, fun x => absurd (show isTxt 116 by decide) x, fun _ => H4, fun _ => H5, fun _ => HST.out.1 (by first | rfl | trivial)⟩
            have HIS : Hid (116 ≠ 98 → ai = true) := Lib.hid (fun _ => H1)
            clear H1 H2 H4 H5
            by_cases hf : az.size < 65536
            · skip
              have HF := Lib.hid hf
              clear hf
              go_enter Tryz.func24, Tryz.ntmps24
              go_upto_region 1 with fail
              rw [HWW.out]
              go_upto_region 5 with (go_at_call 42; refine (HV.out _ HB.out).mono ?_; rintro e w2 ⟨rfl, hb2⟩; have hB2 := HB.out.trans (hb2.mono HB.out.size); have HB2 := Lib.hid (And.intro hb2 hB2); have hXB := hb2.size; clear hb2 hB2)
              have hk2 : ∀ i, w2.cell? ⟨w.heap.size, i, none⟩ = W.cell? ⟨w.heap.size, i, none⟩ := fun i => World.cell?_of_block (HB2.out.1.block _ HLT.out)
              have q0 := (hk2 0).trans p0
              have q1 := (hk2 1).trans p1
              have q2 := (hk2 2).trans p2
              have q3 := (hk2 3).trans p3
              have q4 := (hk2 4).trans p4
              have q5 := (hk2 5).trans p5
              have q6 := (hk2 6).trans p6
              have q7 := (hk2 7).trans p7
              have q8 := (hk2 8).trans p8
              have q9 := (hk2 9).trans p9
              have q10 := (hk2 10).trans p10
              have q11 := (hk2 11).trans p11
              clear hk2
              have HL2 : Hid (w.heap.size < w2.heap.size) := Lib.hid (Nat.lt_of_lt_of_le HLT.out HB2.out.1.size)
              go_upto_region 12 with fail
              clear q0 q1 q3 q4 q5 q6 q7 q8 q9 q10 q11 p0 p1 p2 p3 p4 p5 p6 p7 p8 p9 p10 p11
              have HKEEP := Lib.hid (fun w' (hb : Below w2.heap.size w2 w') => (show w'.cell? ⟨w.heap.size, 2, none⟩ = some (.string az) from (World.cell?_of_block (hb.block _ HL2.out)).trans q2))
              have HNX := Lib.hid (fun w' w'' (hb' : Below w'.heap.size w' w'') (hb : Below w2.heap.size w2 w') => hb.trans (hb'.mono hb.size))
              have hbd : Below w2.heap.size w2 w2.drew := below_drew1 (Below.refl _ _)
              have HWB := Lib.hid (fun w' => (show Calls Tryz.prog 44 #[.int .u8 (116 : Nat)] w' fun e w'' => e = .returned (.int .i64 2) ∧ Below w'.heap.size w' w'' from (HWD.out w').mono fun e w'' ⟨h1, h2⟩ => ⟨h1, by rw [h2]; exact Below.refl _ _⟩))
              have HTP := Lib.hid (fun w' (hb : Below w2.heap.size w2 w') => (show Calls Tryz.prog 45 #[.slice none 0 0, .string az, .int .i64 2] w' fun e w'' => ∃ v', e = .returned (.tuple #[v', .int .i64 0]) ∧ Own 5 w'' w.heap.size v' ([] ++ (be 2 az.size ++ sb az)) ∧ Below w'.heap.size w' w'' from (HTK.out w' HF.out).mono fun e w'' ⟨v, h1, h2, h3⟩ => ⟨v, h1, h2.mono (Nat.le_trans HB2.out.2.size hb.size), h3⟩))
              go_region_held3 (fun w' => w'.cell? ⟨w.heap.size, 2, none⟩ = some (.string az)) (exact HKEEP.out _ (by assumption))
                (first
                  | (go_at_call 44
                     refine (HWB.out _).mono ?_
                     rintro e w5 ⟨rfl, hb5⟩
                     have hb5' := HNX.out _ _ hb5 (by assumption))
                  | (go_at_call 45
                     refine (HTP.out _ (by assumption)).mono ?_
                     rintro e w6 ⟨v6, rfl, ho6, hb6⟩
                     have hb6' := HNX.out _ _ hb6 (by assumption)))
              all_goals
                simp only [Exit.inBlock, Exit.then, Exit.noGoto]
                go_wp2_with fail
                go_ret2
                refine arg_yes v6 rfl ⟨HIS.out, (fit_txt _ (by decide)).2 HF.out, HBR.out⟩ ?_ (HB2.out.2.trans (hb6'.mono HB2.out.2.size))
                rw [show encA 116 ⟨ai, an, az, af, ag, ah, aq, av⟩ = [] ++ (be 2 az.size ++ sb az) by unfold encA; rw [if_neg (by decide), if_pos (by decide)]; rfl]
                exact ho6
            · skip
              have HF := Lib.hid hf
              clear hf
              go_enter Tryz.func24, Tryz.ntmps24
              go_upto_region 1 with fail
              rw [HWW.out]
              go_upto_region 5 with (go_at_call 42; refine (HV.out _ HB.out).mono ?_; rintro e w2 ⟨rfl, hb2⟩; have hB2 := HB.out.trans (hb2.mono HB.out.size); have HB2 := Lib.hid (And.intro hb2 hB2); have hXB := hb2.size; clear hb2 hB2)
              have hk2 : ∀ i, w2.cell? ⟨w.heap.size, i, none⟩ = W.cell? ⟨w.heap.size, i, none⟩ := fun i => World.cell?_of_block (HB2.out.1.block _ HLT.out)
              have q0 := (hk2 0).trans p0
              have q1 := (hk2 1).trans p1
              have q2 := (hk2 2).trans p2
              have q3 := (hk2 3).trans p3
              have q4 := (hk2 4).trans p4
              have q5 := (hk2 5).trans p5
              have q6 := (hk2 6).trans p6
              have q7 := (hk2 7).trans p7
              have q8 := (hk2 8).trans p8
              have q9 := (hk2 9).trans p9
              have q10 := (hk2 10).trans p10
              have q11 := (hk2 11).trans p11
              clear hk2
              have HL2 : Hid (w.heap.size < w2.heap.size) := Lib.hid (Nat.lt_of_lt_of_le HLT.out HB2.out.1.size)
              go_upto_region 12 with fail
              clear q0 q1 q3 q4 q5 q6 q7 q8 q9 q10 q11 p0 p1 p2 p3 p4 p5 p6 p7 p8 p9 p10 p11
              have HKEEP := Lib.hid (fun w' (hb : Below w2.heap.size w2 w') => (show w'.cell? ⟨w.heap.size, 2, none⟩ = some (.string az) from (World.cell?_of_block (hb.block _ HL2.out)).trans q2))
              have HNX := Lib.hid (fun w' w'' (hb' : Below w'.heap.size w' w'') (hb : Below w2.heap.size w2 w') => hb.trans (hb'.mono hb.size))
              have hbd : Below w2.heap.size w2 w2.drew := below_drew1 (Below.refl _ _)
              have HWB := Lib.hid (fun w' => (show Calls Tryz.prog 44 #[.int .u8 (116 : Nat)] w' fun e w'' => e = .returned (.int .i64 2) ∧ Below w'.heap.size w' w'' from (HWD.out w').mono fun e w'' ⟨h1, h2⟩ => ⟨h1, by rw [h2]; exact Below.refl _ _⟩))
              have HTP := Lib.hid (fun w' (hb : Below w2.heap.size w2 w') => (show Calls Tryz.prog 45 #[.slice none 0 0, .string az, .int .i64 2] w' fun e w'' => e = .returned (.tuple #[.slice none 0 0, .int .i64 3]) ∧ Below w'.heap.size w' w'' from (HTL.out w' (by have := HF.out; omega)).mono fun e w'' ⟨h1, h2⟩ => ⟨h1, by rw [h2]; exact Below.refl _ _⟩))
              go_region_held3 (fun w' => w'.cell? ⟨w.heap.size, 2, none⟩ = some (.string az)) (exact HKEEP.out _ (by assumption))
                (first
                  | (go_at_call 44
                     refine (HWB.out _).mono ?_
                     rintro e w5 ⟨rfl, hb5⟩
                     have hb5' := HNX.out _ _ hb5 (by assumption))
                  | (go_at_call 45
                     refine (HTP.out _ (by assumption)).mono ?_
                     rintro e w6 ⟨rfl, hb6⟩
                     have hb6' := HNX.out _ _ hb6 (by assumption)))
              all_goals
                simp only [Exit.inBlock, Exit.then, Exit.noGoto]
                go_wp2_with fail
                go_ret2
                exact arg_no _ rfl (fun hv => HF.out ((fit_txt _ (by decide)).1 hv.2.1)) (HB2.out.2.trans (hb6'.mono HB2.out.2.size))
          · skip
            obtain rfl : S = false := by simpa using H6
            have HNV : Hid (¬ validA 116 ⟨ai, an, az, af, ag, ah, aq, av⟩) := Lib.hid (fun hv => (by have := HST.out.2 (hv.2.2.2.2.2.2 (by decide)); cases this))
            clear H1 H2 H4 H5
            go_enter Tryz.func24, Tryz.ntmps24
            go_upto_region 1 with fail
            rw [HWW.out]
            go_wp2_with fail
            refine (HV.out _ HB.out).mono ?_
            rintro e w2 ⟨rfl, hb2⟩
            have hB2 := HB.out.trans (hb2.mono HB.out.size)
            go_wp2_with fail
            go_ret2
            exact arg_no _ rfl HNV.out hB2
        · skip
          have s5 : decide (0 < aq.length) = true := by have := List.length_pos_iff.2 H5; simpa using this
          have HNV : Hid (¬ validA 116 ⟨ai, an, az, af, ag, ah, aq, av⟩) := Lib.hid (fun hv => H5 (hv.2.2.2.2.2.1 (by decide)))
          clear H1 H2 H4 H5
          go_enter Tryz.func24, Tryz.ntmps24
          go_upto_region 1 with fail
          rw [HWW.out]
          go_wp2_with fail
          go_ret2
          exact arg_no _ rfl HNV.out HB.out
      · skip
        have hE := fun w' => HE.out w'
        rw [decide_eq_false H4] at hE
        have HNV : Hid (¬ validA 116 ⟨ai, an, az, af, ag, ah, aq, av⟩) := Lib.hid (fun hv => H4 (hv.2.2.2.2.1 (by decide)))
        clear H1 H2 H4
        go_enter Tryz.func24, Tryz.ntmps24
        go_upto_region 1 with fail
        rw [HWW.out]
        go_wp2_with fail
        go_ret2
        exact arg_no _ rfl HNV.out HB.out
    · skip
      have s2 : ((an : Int) != 0) = true := by rw [bne_iff_ne]; omega
      have HNV : Hid (¬ validA 116 ⟨ai, an, az, af, ag, ah, aq, av⟩) := Lib.hid (fun hv => H2 (hv.2.2.1 (by decide)))
      clear H1 H2
      go_enter Tryz.func24, Tryz.ntmps24
      go_upto_region 1 with fail
      rw [HWW.out]
      go_wp2_with fail
      go_ret2
      exact arg_no _ rfl HNV.out HB.out
  · skip
    rw [show ai = false by simpa using H1] at p0
    have HNV : Hid (¬ validA 116 ⟨ai, an, az, af, ag, ah, aq, av⟩) := Lib.hid (fun hv => H1 (hv.1 (by decide)))
    clear H1
    go_enter Tryz.func24, Tryz.ntmps24
    go_upto_region 1 with fail
    rw [HWW.out]
    go_wp2_with fail
    go_ret2
    exact arg_no _ rfl HNV.out HB.out
set_option maxRecDepth 100000 in
set_option maxHeartbeats 4000000 in
theorem qarg_120 (a : ArgP) (A : Option Addr) (c dq : Nat) (v0 v1 v2 v3 v4 : Value) (w : World) (h : ShowsA w a A c dq v0 v1 v2 v3 v4) (hql : a.q.length ≤ 1100) :
  Calls Tryz.prog 24 #[.int .u8 (120 : Nat), argV a (.slice A a.q.length c) v0 v1 v2 v3 v4] w (ArgSaid 120 a w) := by
 have hX := BoxG.new w a (.slice A a.q.length c) v0 v1 v2 v3 v4
 have hb0 : Below w.heap.size w (w.alloc (Obj.cells #[.bool a.is, .int .u64 a.n, .string a.s, .int .u32 a.f, .string a.g, .string a.h, .slice A a.q.length c, v0, v1, v2, v3, v4] 52)) := below_box w _
 have HS := Lib.hid (fun w' (hb : Below w.heap.size w w') => h.kept hb (Nat.le_refl _))
 have hsz := h.sz
 have HA := Lib.hid (show a = a from rfl)
 have HV := Lib.hid (fun w' (hb : Below w.heap.size w w') => (show Calls Tryz.prog 42 #[.agg #[v0, v1, v2, v3, v4], .agg #[.int .u8 0, .int .u64 0, .string ⟨#[]⟩, .slice none 0 0, .slice none 0 0]] w' fun e w'' => e = .returned (.bool (sameT a.v zT)) ∧ Below w'.heap.size w' w'' from qsame_main _ a.v zT [v0, v1, v2, v3, v4] [.int .u8 (0 : Nat), .int .u64 (0 : Nat), .string ⟨#[]⟩, .slice none 0 0, .slice none 0 0] w' rfl (h.kept hb (Nat.le_refl _)).v (shows_zT w')))
 have HXN := Lib.hid (fun w' (hm : ¬ mayX a.g a.h) => (show Calls Tryz.prog 46 #[.agg #[.int .u32 a.f, .string a.g, .string a.h]] w' fun e w'' => e = .returned (.tuple #[.slice none 0 0, .int .i64 40]) ∧ Below w'.heap.size w' w'' from qputX_no a.f a.g a.h w' hm (by have := hsz.g; omega) (by have := hsz.h; omega)))
 have HXK := Lib.hid (fun w' (hm : mayX a.g a.h) => (show Calls Tryz.prog 46 #[.agg #[.int .u32 a.f, .string a.g, .string a.h]] w' fun e w'' => ∃ v, e = .returned (.tuple #[v, .int .i64 0]) ∧ Own 5 w'' w'.heap.size v (encX a.f a.g a.h) ∧ Below w'.heap.size w' w'' from qputX_ok a.f a.g a.h w' hm hsz.f))
 have HE : Hid (∀ w' : World, (Op.equalIn 10000 44 (.agg #[.int .u32 (a.f : Int), .string a.g, .string a.h]) (.agg #[.int .u32 0, .string ⟨#[]⟩, .string ⟨#[]⟩])).run Tryz.prog w' = .ok (decide (a.f = 0 ∧ a.g = ⟨#[]⟩ ∧ a.h = ⟨#[]⟩)) w') := Lib.hid fun w' => run_eq_xid a.f 0 a.g a.h ⟨#[]⟩ ⟨#[]⟩ w'
 have hG := xidGuard
 have HST : Hid (sameT a.v zT = true ↔ a.v = zT) := Lib.hid (sameT_iff _ _)
 unfold argV
 obtain ⟨⟨p0, p1, p2⟩, ⟨p3, p4, p5⟩, p6, p7, p8, p9, p10, p11⟩ := hX.cells
 obtain ⟨ai, an, az, af, ag, ah, aq, av⟩ := a
 simp only [] at *
 generalize hW : w.alloc (Obj.cells #[.bool ai, .int .u64 an, .string az, .int .u32 af, .string ag, .string ah, .slice A aq.length c, v0, v1, v2, v3, v4] 52) = W at *
 have HLT : Hid (w.heap.size < W.heap.size) := Lib.hid (by rw [← hW]; simp)
 have HWW := Lib.hid hW
 have HB := Lib.hid hb0
 generalize sameT av zT = S at *
 clear hX hb0 hW h hsz HS HA
 by_cases H1 : ai = true
 ·skip
  rw [H1] at p0
  by_cases H2 : an = 0
  ·skip
   have s2 : ((an : Int) != 0) = false := by rw [H2]; rfl
   by_cases H3 : az = ⟨#[]⟩
   ·skip
    have s3 : az.toList = [] := by rw [sb_toList, H3]; rfl
    have s3b : (az.toList == []) = true := by rw [s3]; rfl
    by_cases H5 : aq = []
    ·skip
     have s5 : decide (0 < aq.length) = false := by rw [H5]; rfl
     by_cases H6 : S = true
     ·skip
      obtain rfl : S = true := H6
      have HBR : Hid (bareA 120 ⟨ai, an, az, af, ag, ah, aq, av⟩) := Lib.hid ⟨fun _ => H2, fun _ => H3, fun x => absurd rfl x, fun _ => H5, fun _ => HST.out.1 (by first | rfl | trivial)⟩
      have HIS : Hid (120 ≠ 98 → ai = true) := Lib.hid (fun _ => H1)
      clear H1 H2 H3 H5
      by_cases hf : mayX ag ah
      ·skip
       have HF := Lib.hid hf
       clear hf
       go_enter Tryz.func24, Tryz.ntmps24
       go_upto_region 1 with fail
       rw [HWW.out]
       go_upto_region 5 with (go_at_call 42; refine (HV.out _ HB.out).mono ?_; rintro e w2 ⟨rfl, hb2⟩; have hB2 := HB.out.trans (hb2.mono HB.out.size); have HB2 := Lib.hid (And.intro hb2 hB2); have hXB := hb2.size; clear hb2 hB2)
       have hk2 : ∀ i, w2.cell? ⟨w.heap.size, i, none⟩ = W.cell? ⟨w.heap.size, i, none⟩ := fun i => World.cell?_of_block (HB2.out.1.block _ HLT.out)
       have q0 := (hk2 0).trans p0
       have q1 := (hk2 1).trans p1
       have q2 := (hk2 2).trans p2
       have q3 := (hk2 3).trans p3
       have q4 := (hk2 4).trans p4
       have q5 := (hk2 5).trans p5
       have q6 := (hk2 6).trans p6
       have q7 := (hk2 7).trans p7
       have q8 := (hk2 8).trans p8
       have q9 := (hk2 9).trans p9
       have q10 := (hk2 10).trans p10
       have q11 := (hk2 11).trans p11
       clear hk2
       clear p0 p1 p2 p3 p4 p5 p6 p7 p8 p9 p10 p11
       go_wp2_with fail
       refine (HXK.out _ HF.out).mono ?_
       rintro e w6 ⟨v6, rfl, ho6, hb6⟩
       go_wp2_with fail
       go_ret2
       refine arg_yes v6 rfl ⟨HIS.out, (fit_x _).2 HF.out, HBR.out⟩ ?_ (HB2.out.2.trans (hb6.mono HB2.out.2.size))
       rw [show encA 120 ⟨ai, an, az, af, ag, ah, aq, av⟩ = encX af ag ah by unfold encA; rw [if_neg (by decide), if_neg (by decide), if_pos rfl]]
       exact ho6.mono HB2.out.2.size
      ·skip
       have HF := Lib.hid hf
       clear hf
       go_enter Tryz.func24, Tryz.ntmps24
       go_upto_region 1 with fail
       rw [HWW.out]
       go_upto_region 5 with (go_at_call 42; refine (HV.out _ HB.out).mono ?_; rintro e w2 ⟨rfl, hb2⟩; have hB2 := HB.out.trans (hb2.mono HB.out.size); have HB2 := Lib.hid (And.intro hb2 hB2); have hXB := hb2.size; clear hb2 hB2)
       have hk2 : ∀ i, w2.cell? ⟨w.heap.size, i, none⟩ = W.cell? ⟨w.heap.size, i, none⟩ := fun i => World.cell?_of_block (HB2.out.1.block _ HLT.out)
       have q0 := (hk2 0).trans p0
       have q1 := (hk2 1).trans p1
       have q2 := (hk2 2).trans p2
       have q3 := (hk2 3).trans p3
       have q4 := (hk2 4).trans p4
       have q5 := (hk2 5).trans p5
       have q6 := (hk2 6).trans p6
       have q7 := (hk2 7).trans p7
       have q8 := (hk2 8).trans p8
       have q9 := (hk2 9).trans p9
       have q10 := (hk2 10).trans p10
       have q11 := (hk2 11).trans p11
       clear hk2
       clear p0 p1 p2 p3 p4 p5 p6 p7 p8 p9 p10 p11
       go_wp2_with fail
       refine (HXN.out _ HF.out).mono ?_
       rintro e w6 ⟨rfl, hb6⟩
       go_wp2_with fail
       go_ret2
       exact arg_no _ rfl (fun hv => HF.out ((fit_x _).1 hv.2.1)) (HB2.out.2.trans (hb6.mono HB2.out.2.size))
     ·skip
      obtain rfl : S = false := by simpa using H6
      have HNV : Hid (¬ validA 120 ⟨ai, an, az, af, ag, ah, aq, av⟩) := Lib.hid (fun hv => (by have := HST.out.2 (hv.2.2.2.2.2.2 (by decide)); cases this))
      clear H1 H2 H3 H5
      go_enter Tryz.func24, Tryz.ntmps24
      go_upto_region 1 with fail
      rw [HWW.out]
      go_wp2_with fail
      refine (HV.out _ HB.out).mono ?_
      rintro e w2 ⟨rfl, hb2⟩
      have hB2 := HB.out.trans (hb2.mono HB.out.size)
      go_wp2_with fail
      go_ret2
      exact arg_no _ rfl HNV.out hB2
    ·skip
     have s5 : decide (0 < aq.length) = true := by have := List.length_pos_iff.2 H5; simpa using this
     have HNV : Hid (¬ validA 120 ⟨ai, an, az, af, ag, ah, aq, av⟩) := Lib.hid (fun hv => H5 (hv.2.2.2.2.2.1 (by decide)))
     clear H1 H2 H3 H5
     go_enter Tryz.func24, Tryz.ntmps24
     go_upto_region 1 with fail
     rw [HWW.out]
     go_wp2_with fail
     go_ret2
     exact arg_no _ rfl HNV.out HB.out
   ·skip
    have s3 : ¬ az.toList = [] := by rw [sb_toList]; intro e; exact H3 (xsb_inj.1 e)
    have s3b : (az.toList == []) = false := by simpa using s3
    have HNV : Hid (¬ validA 120 ⟨ai, an, az, af, ag, ah, aq, av⟩) := Lib.hid (fun hv => H3 (hv.2.2.2.1 (by decide)))
    clear H1 H2 H3
    go_enter Tryz.func24, Tryz.ntmps24
    go_upto_region 1 with fail
    rw [HWW.out]
    go_wp2_with fail
    go_ret2
    exact arg_no _ rfl HNV.out HB.out
  ·skip
   have s2 : ((an : Int) != 0) = true := by rw [bne_iff_ne]; omega
   have HNV : Hid (¬ validA 120 ⟨ai, an, az, af, ag, ah, aq, av⟩) := Lib.hid (fun hv => H2 (hv.2.2.1 (by decide)))
   clear H1 H2
   go_enter Tryz.func24, Tryz.ntmps24
   go_upto_region 1 with fail
   rw [HWW.out]
   go_wp2_with fail
   go_ret2
   exact arg_no _ rfl HNV.out HB.out
 ·skip
  rw [show ai = false by simpa using H1] at p0
  have HNV : Hid (¬ validA 120 ⟨ai, an, az, af, ag, ah, aq, av⟩) := Lib.hid (fun hv => H1 (hv.1 (by decide)))
  clear H1
  go_enter Tryz.func24, Tryz.ntmps24
  go_upto_region 1 with fail
  rw [HWW.out]
  go_wp2_with fail
  go_ret2
  exact arg_no _ rfl HNV.out HB.out
set_option maxRecDepth 100000 in
set_option maxHeartbeats 4000000 in
theorem qarg_114 (a : ArgP) (A : Option Addr) (c dq : Nat) (v0 v1 v2 v3 v4 : Value) (w : World) (h : ShowsA w a A c dq v0 v1 v2 v3 v4) (hql : a.q.length ≤ 1100) :
  Calls Tryz.prog 24 #[.int .u8 (114 : Nat), argV a (.slice A a.q.length c) v0 v1 v2 v3 v4] w (ArgSaid 114 a w) := by
 have hX := BoxG.new w a (.slice A a.q.length c) v0 v1 v2 v3 v4
 have hb0 : Below w.heap.size w (w.alloc (Obj.cells #[.bool a.is, .int .u64 a.n, .string a.s, .int .u32 a.f, .string a.g, .string a.h, .slice A a.q.length c, v0, v1, v2, v3, v4] 52)) := below_box w _
 have HS := Lib.hid (fun w' (hb : Below w.heap.size w w') => h.kept hb (Nat.le_refl _))
 have hsz := h.sz
 have HA := Lib.hid (show a = a from rfl)
 have HV := Lib.hid (fun w' (hb : Below w.heap.size w w') => (show Calls Tryz.prog 42 #[.agg #[v0, v1, v2, v3, v4], .agg #[.int .u8 0, .int .u64 0, .string ⟨#[]⟩, .slice none 0 0, .slice none 0 0]] w' fun e w'' => e = .returned (.bool (sameT a.v zT)) ∧ Below w'.heap.size w' w'' from qsame_main _ a.v zT [v0, v1, v2, v3, v4] [.int .u8 (0 : Nat), .int .u64 (0 : Nat), .string ⟨#[]⟩, .slice none 0 0, .slice none 0 0] w' rfl (h.kept hb (Nat.le_refl _)).v (shows_zT w')))
 have HQP := Lib.hid (fun w' (hb : Below w.heap.size w w') => qputS_any A c a.q.length dq a.q w' rfl (h.kept hb (Nat.le_refl _)).q hsz.u (by omega))
 have HE : Hid (∀ w' : World, (Op.equalIn 10000 44 (.agg #[.int .u32 (a.f : Int), .string a.g, .string a.h]) (.agg #[.int .u32 0, .string ⟨#[]⟩, .string ⟨#[]⟩])).run Tryz.prog w' = .ok (decide (a.f = 0 ∧ a.g = ⟨#[]⟩ ∧ a.h = ⟨#[]⟩)) w') := Lib.hid fun w' => run_eq_xid a.f 0 a.g a.h ⟨#[]⟩ ⟨#[]⟩ w'
 have hG := xidGuard
 have HST : Hid (sameT a.v zT = true ↔ a.v = zT) := Lib.hid (sameT_iff _ _)
 unfold argV
 obtain ⟨⟨p0, p1, p2⟩, ⟨p3, p4, p5⟩, p6, p7, p8, p9, p10, p11⟩ := hX.cells
 obtain ⟨ai, an, az, af, ag, ah, aq, av⟩ := a
 simp only [] at *
 generalize hW : w.alloc (Obj.cells #[.bool ai, .int .u64 an, .string az, .int .u32 af, .string ag, .string ah, .slice A aq.length c, v0, v1, v2, v3, v4] 52) = W at *
 have HLT : Hid (w.heap.size < W.heap.size) := Lib.hid (by rw [← hW]; simp)
 have HWW := Lib.hid hW
 have HB := Lib.hid hb0
 generalize sameT av zT = S at *
 clear hX hb0 hW h hsz HS HA
 by_cases H1 : ai = true
 ·skip
  rw [H1] at p0
  by_cases H2 : an = 0
  ·skip
   have s2 : ((an : Int) != 0) = false := by rw [H2]; rfl
   by_cases H3 : az = ⟨#[]⟩
   ·skip
    have s3 : az.toList = [] := by rw [sb_toList, H3]; rfl
    have s3b : (az.toList == []) = true := by rw [s3]; rfl
    by_cases H4 : af = 0 ∧ ag = ⟨#[]⟩ ∧ ah = ⟨#[]⟩
    ·skip
     have hE := fun w' => HE.out w'
     rw [decide_eq_true H4] at hE
     by_cases H6 : S = true
     ·skip
      obtain rfl : S = true := H6
      have HBR : Hid (bareA 114 ⟨ai, an, az, af, ag, ah, aq, av⟩) := Lib.hid ⟨fun _ => H2, fun _ => H3, fun _ => H4, fun x => absurd rfl x, fun _ => HST.out.1 (by first | rfl | trivial)⟩
      have HIS : Hid (114 ≠ 98 → ai = true) := Lib.hid (fun _ => H1)
      clear H1 H2 H3 H4
      go_enter Tryz.func24, Tryz.ntmps24
      go_upto_region 1 with fail
      rw [HWW.out]
      go_upto_region 5 with (go_at_call 42; refine (HV.out _ HB.out).mono ?_; rintro e w2 ⟨rfl, hb2⟩; have hB2 := HB.out.trans (hb2.mono HB.out.size); have HB2 := Lib.hid (And.intro hb2 hB2); have hXB := hb2.size; clear hb2 hB2)
      have hk2 : ∀ i, w2.cell? ⟨w.heap.size, i, none⟩ = W.cell? ⟨w.heap.size, i, none⟩ := fun i => World.cell?_of_block (HB2.out.1.block _ HLT.out)
      have q0 := (hk2 0).trans p0
      have q1 := (hk2 1).trans p1
      have q2 := (hk2 2).trans p2
      have q3 := (hk2 3).trans p3
      have q4 := (hk2 4).trans p4
      have q5 := (hk2 5).trans p5
      have q6 := (hk2 6).trans p6
      have q7 := (hk2 7).trans p7
      have q8 := (hk2 8).trans p8
      have q9 := (hk2 9).trans p9
      have q10 := (hk2 10).trans p10
      have q11 := (hk2 11).trans p11
      clear hk2
      clear p0 p1 p2 p3 p4 p5 p6 p7 p8 p9 p10 p11
      go_wp2_with fail
      refine (HQP.out _ HB2.out.2).mono ?_
      rintro e w6 ⟨v6, code, r6, rfl, ho6, hb6, hp6⟩
      rcases hp6 with ⟨g1, g2, rfl, rfl⟩ | ⟨g1, rfl, rfl⟩ | ⟨g1, g2, rfl, rfl⟩
      ·skip
       go_wp2_with fail
       go_ret2
       refine arg_yes v6 rfl ⟨HIS.out, (fit_q _).2 ⟨g1, g2⟩, HBR.out⟩ ?_ (HB2.out.2.trans (hb6.mono HB2.out.2.size))
       rw [show encA 114 ⟨ai, an, az, af, ag, ah, aq, av⟩ = encS aq by unfold encA; rw [if_neg (by decide), if_neg (by decide), if_neg (by decide), if_pos rfl]]
       exact ho6.mono HB2.out.2.size
      ·skip
       go_wp2_with fail
       go_ret2
       exact arg_no _ rfl (fun hv => g1 ((fit_q _).1 hv.2.1).1) (HB2.out.2.trans (hb6.mono HB2.out.2.size))
      ·skip
       go_wp2_with fail
       go_ret2
       exact arg_no _ rfl (fun hv => g2 ((fit_q _).1 hv.2.1).2) (HB2.out.2.trans (hb6.mono HB2.out.2.size))
     ·skip
      obtain rfl : S = false := by simpa using H6
      have HNV : Hid (¬ validA 114 ⟨ai, an, az, af, ag, ah, aq, av⟩) := Lib.hid (fun hv => (by have := HST.out.2 (hv.2.2.2.2.2.2 (by decide)); cases this))
      clear H1 H2 H3 H4
      go_enter Tryz.func24, Tryz.ntmps24
      go_upto_region 1 with fail
      rw [HWW.out]
      go_wp2_with fail
      refine (HV.out _ HB.out).mono ?_
      rintro e w2 ⟨rfl, hb2⟩
      have hB2 := HB.out.trans (hb2.mono HB.out.size)
      go_wp2_with fail
      go_ret2
      exact arg_no _ rfl HNV.out hB2
    ·skip
     have hE := fun w' => HE.out w'
     rw [decide_eq_false H4] at hE
     have HNV : Hid (¬ validA 114 ⟨ai, an, az, af, ag, ah, aq, av⟩) := Lib.hid (fun hv => H4 (hv.2.2.2.2.1 (by decide)))
     clear H1 H2 H3 H4
     go_enter Tryz.func24, Tryz.ntmps24
     go_upto_region 1 with fail
     rw [HWW.out]
     go_wp2_with fail
     go_ret2
     exact arg_no _ rfl HNV.out HB.out
   ·skip
    have s3 : ¬ az.toList = [] := by rw [sb_toList]; intro e; exact H3 (xsb_inj.1 e)
    have s3b : (az.toList == []) = false := by simpa using s3
    have HNV : Hid (¬ validA 114 ⟨ai, an, az, af, ag, ah, aq, av⟩) := Lib.hid (fun hv => H3 (hv.2.2.2.1 (by decide)))
    clear H1 H2 H3
    go_enter Tryz.func24, Tryz.ntmps24
    go_upto_region 1 with fail
    rw [HWW.out]
    go_wp2_with fail
    go_ret2
    exact arg_no _ rfl HNV.out HB.out
  ·skip
   have s2 : ((an : Int) != 0) = true := by rw [bne_iff_ne]; omega
   have HNV : Hid (¬ validA 114 ⟨ai, an, az, af, ag, ah, aq, av⟩) := Lib.hid (fun hv => H2 (hv.2.2.1 (by decide)))
   clear H1 H2
   go_enter Tryz.func24, Tryz.ntmps24
   go_upto_region 1 with fail
   rw [HWW.out]
   go_wp2_with fail
   go_ret2
   exact arg_no _ rfl HNV.out HB.out
 ·skip
  rw [show ai = false by simpa using H1] at p0
  have HNV : Hid (¬ validA 114 ⟨ai, an, az, af, ag, ah, aq, av⟩) := Lib.hid (fun hv => H1 (hv.1 (by decide)))
  clear H1
  go_enter Tryz.func24, Tryz.ntmps24
  go_upto_region 1 with fail
  rw [HWW.out]
  go_wp2_with fail
  go_ret2
  exact arg_no _ rfl HNV.out HB.out
set_option maxRecDepth 100000 in
set_option maxHeartbeats 4000000 in
theorem qarg_118 (a : ArgP) (A : Option Addr) (c dq : Nat) (v0 v1 v2 v3 v4 : Value) (w : World) (h : ShowsA w a A c dq v0 v1 v2 v3 v4) (hql : a.q.length ≤ 1100) :
  Calls Tryz.prog 24 #[.int .u8 (118 : Nat), argV a (.slice A a.q.length c) v0 v1 v2 v3 v4] w (ArgSaid 118 a w) := by
 have hX := BoxG.new w a (.slice A a.q.length c) v0 v1 v2 v3 v4
 have hb0 : Below w.heap.size w (w.alloc (Obj.cells #[.bool a.is, .int .u64 a.n, .string a.s, .int .u32 a.f, .string a.g, .string a.h, .slice A a.q.length c, v0, v1, v2, v3, v4] 52)) := below_box w _
 have HS := Lib.hid (fun w' (hb : Below w.heap.size w w') => h.kept hb (Nat.le_refl _))
 have hsz := h.sz
 have HA := Lib.hid (show a = a from rfl)
 have HV := Lib.hid (fun w' (hb : Below w.heap.size w w') => (show Calls Tryz.prog 42 #[.agg #[v0, v1, v2, v3, v4], .agg #[.int .u8 0, .int .u64 0, .string ⟨#[]⟩, .slice none 0 0, .slice none 0 0]] w' fun e w'' => e = .returned (.bool (sameT a.v zT)) ∧ Below w'.heap.size w' w'' from qsame_main _ a.v zT [v0, v1, v2, v3, v4] [.int .u8 (0 : Nat), .int .u64 (0 : Nat), .string ⟨#[]⟩, .slice none 0 0, .slice none 0 0] w' rfl (h.kept hb (Nat.le_refl _)).v (shows_zT w')))
 have HVN := Lib.hid (fun w' (hb : Below w.heap.size w w') (hm : checkT a.v ≠ 0) => (show Calls Tryz.prog 48 #[.agg #[v0, v1, v2, v3, v4]] w' fun e w'' => e = .returned (.tuple #[.slice none 0 0, .int .i64 (checkT a.v)]) ∧ Below w'.heap.size w' w'' from v_qput_no a.v [v0, v1, v2, v3, v4] w' (h.kept hb (Nat.le_refl _)).v hm))
 have HVK := Lib.hid (fun w' (hb : Below w.heap.size w w') (hm : checkT a.v = 0) => (show Calls Tryz.prog 48 #[.agg #[v0, v1, v2, v3, v4]] w' fun e w'' => ∃ v, e = .returned (.tuple #[v, .int .i64 0]) ∧ Own 5 w'' w'.heap.size v (bytesT a.v) ∧ Below w'.heap.size w' w'' from qput_ok a.v [v0, v1, v2, v3, v4] w' (h.kept hb (Nat.le_refl _)).v hm))
 have HE : Hid (∀ w' : World, (Op.equalIn 10000 44 (.agg #[.int .u32 (a.f : Int), .string a.g, .string a.h]) (.agg #[.int .u32 0, .string ⟨#[]⟩, .string ⟨#[]⟩])).run Tryz.prog w' = .ok (decide (a.f = 0 ∧ a.g = ⟨#[]⟩ ∧ a.h = ⟨#[]⟩)) w') := Lib.hid fun w' => run_eq_xid a.f 0 a.g a.h ⟨#[]⟩ ⟨#[]⟩ w'
 have hG := xidGuard
 have HST : Hid (sameT a.v zT = true ↔ a.v = zT) := Lib.hid (sameT_iff _ _)
 unfold argV
 obtain ⟨⟨p0, p1, p2⟩, ⟨p3, p4, p5⟩, p6, p7, p8, p9, p10, p11⟩ := hX.cells
 obtain ⟨ai, an, az, af, ag, ah, aq, av⟩ := a
 simp only [] at *
 generalize hW : w.alloc (Obj.cells #[.bool ai, .int .u64 an, .string az, .int .u32 af, .string ag, .string ah, .slice A aq.length c, v0, v1, v2, v3, v4] 52) = W at *
 have HLT : Hid (w.heap.size < W.heap.size) := Lib.hid (by rw [← hW]; simp)
 have HWW := Lib.hid hW
 have HB := Lib.hid hb0
 generalize sameT av zT = S at *
 clear hX hb0 hW h hsz HS HA
 by_cases H1 : ai = true
 ·skip
  rw [H1] at p0
  by_cases H2 : an = 0
  ·skip
   have s2 : ((an : Int) != 0) = false := by rw [H2]; rfl
   by_cases H3 : az = ⟨#[]⟩
   ·skip
    have s3 : az.toList = [] := by rw [sb_toList, H3]; rfl
    have s3b : (az.toList == []) = true := by rw [s3]; rfl
    by_cases H4 : af = 0 ∧ ag = ⟨#[]⟩ ∧ ah = ⟨#[]⟩
    ·skip
     have hE := fun w' => HE.out w'
     rw [decide_eq_true H4] at hE
     by_cases H5 : aq = []
     ·skip
      have s5 : decide (0 < aq.length) = false := by rw [H5]; rfl
      have HBR : Hid (bareA 118 ⟨ai, an, az, af, ag, ah, aq, av⟩) := Lib.hid ⟨fun _ => H2, fun _ => H3, fun _ => H4, fun _ => H5, fun x => absurd rfl x⟩
      have HIS : Hid (118 ≠ 98 → ai = true) := Lib.hid (fun _ => H1)
      clear H1 H2 H3 H4 H5
      by_cases hf : checkT av = 0
      ·skip
       have HF := Lib.hid hf
       clear hf
       go_enter Tryz.func24, Tryz.ntmps24
       go_upto_region 1 with fail
       rw [HWW.out]
       go_upto_region 5 with fail
       go_wp2_with fail
       refine (HVK.out _ HB.out HF.out).mono ?_
       rintro e w6 ⟨v6, rfl, ho6, hb6⟩
       go_wp2_with fail
       go_ret2
       refine arg_yes v6 rfl ⟨HIS.out, (fit_v _).2 HF.out, HBR.out⟩ ?_ (HB.out.trans (hb6.mono HB.out.size))
       rw [show encA 118 ⟨ai, an, az, af, ag, ah, aq, av⟩ = bytesT av by unfold encA; rw [if_neg (by decide), if_neg (by decide), if_neg (by decide), if_neg (by decide), if_pos rfl]]
       exact ho6.mono HB.out.size
      ·skip
       have HF := Lib.hid hf
       have s9 : ((checkT av : Int) == 0) = false := by rw [beq_eq_false_iff_ne]; omega
       clear hf
       go_enter Tryz.func24, Tryz.ntmps24
       go_upto_region 1 with fail
       rw [HWW.out]
       go_upto_region 5 with fail
       go_wp2_with fail
       refine (HVN.out _ HB.out HF.out).mono ?_
       rintro e w6 ⟨rfl, hb6⟩
       go_wp2_with fail
       go_ret2
       exact arg_no _ rfl (fun hv => HF.out ((fit_v _).1 hv.2.1)) (HB.out.trans (hb6.mono HB.out.size))
     ·skip
      have s5 : decide (0 < aq.length) = true := by have := List.length_pos_iff.2 H5; simpa using this
      have HNV : Hid (¬ validA 118 ⟨ai, an, az, af, ag, ah, aq, av⟩) := Lib.hid (fun hv => H5 (hv.2.2.2.2.2.1 (by decide)))
      clear H1 H2 H3 H4 H5
      go_enter Tryz.func24, Tryz.ntmps24
      go_upto_region 1 with fail
      rw [HWW.out]
      go_wp2_with fail
      go_ret2
      exact arg_no _ rfl HNV.out HB.out
    ·skip
     have hE := fun w' => HE.out w'
     rw [decide_eq_false H4] at hE
     have HNV : Hid (¬ validA 118 ⟨ai, an, az, af, ag, ah, aq, av⟩) := Lib.hid (fun hv => H4 (hv.2.2.2.2.1 (by decide)))
     clear H1 H2 H3 H4
     go_enter Tryz.func24, Tryz.ntmps24
     go_upto_region 1 with fail
     rw [HWW.out]
     go_wp2_with fail
     go_ret2
     exact arg_no _ rfl HNV.out HB.out
   ·skip
    have s3 : ¬ az.toList = [] := by rw [sb_toList]; intro e; exact H3 (xsb_inj.1 e)
    have s3b : (az.toList == []) = false := by simpa using s3
    have HNV : Hid (¬ validA 118 ⟨ai, an, az, af, ag, ah, aq, av⟩) := Lib.hid (fun hv => H3 (hv.2.2.2.1 (by decide)))
    clear H1 H2 H3
    go_enter Tryz.func24, Tryz.ntmps24
    go_upto_region 1 with fail
    rw [HWW.out]
    go_wp2_with fail
    go_ret2
    exact arg_no _ rfl HNV.out HB.out
  ·skip
   have s2 : ((an : Int) != 0) = true := by rw [bne_iff_ne]; omega
   have HNV : Hid (¬ validA 118 ⟨ai, an, az, af, ag, ah, aq, av⟩) := Lib.hid (fun hv => H2 (hv.2.2.1 (by decide)))
   clear H1 H2
   go_enter Tryz.func24, Tryz.ntmps24
   go_upto_region 1 with fail
   rw [HWW.out]
   go_wp2_with fail
   go_ret2
   exact arg_no _ rfl HNV.out HB.out
 ·skip
  rw [show ai = false by simpa using H1] at p0
  have HNV : Hid (¬ validA 118 ⟨ai, an, az, af, ag, ah, aq, av⟩) := Lib.hid (fun hv => H1 (hv.1 (by decide)))
  clear H1
  go_enter Tryz.func24, Tryz.ntmps24
  go_upto_region 1 with fail
  rw [HWW.out]
  go_wp2_with fail
  go_ret2
  exact arg_no _ rfl HNV.out HB.out
theorem qarg_any (k : Nat) (hk : lett k) (a : ArgP) (A : Option Addr) (c dq : Nat) (v0 v1 v2 v3 v4 : Value) (w : World) (h : ShowsA w a A c dq v0 v1 v2 v3 v4) (hql : a.q.length ≤ 1100) :
  Calls Tryz.prog 24 #[.int .u8 k, argV a (.slice A a.q.length c) v0 v1 v2 v3 v4] w (ArgSaid k a w) := by
 rcases hk with rfl | (rfl | rfl | rfl) | (rfl | rfl) | rfl | rfl | rfl
 ·exact qarg_98 a A c dq v0 v1 v2 v3 v4 w h hql
 ·exact qarg_110 a A c dq v0 v1 v2 v3 v4 w h hql
 ·exact qarg_119 a A c dq v0 v1 v2 v3 v4 w h hql
 ·exact qarg_100 a A c dq v0 v1 v2 v3 v4 w h hql
 ·exact qarg_115 a A c dq v0 v1 v2 v3 v4 w h hql
 ·exact qarg_116 a A c dq v0 v1 v2 v3 v4 w h hql
 ·exact qarg_120 a A c dq v0 v1 v2 v3 v4 w h hql
 ·exact qarg_114 a A c dq v0 v1 v2 v3 v4 w h hql
 ·exact qarg_118 a A c dq v0 v1 v2 v3 v4 w h hql
end Go.Proofs.YtpbdnfonflmncaaGreat
