/-
  For every row of frames (the first 60 of at most 5000 bytes): what Feed tells may be, and the frames that Cut makes of it are gathered to it again.
  Conditions: sizes.
-/
import Derived.Test.YtdjdhnopieeibaaGaV
import Derived.Test.YtdjdhnopieeibaaGaT
import Derived.Test.YtdjdhnopieeibaaFrO
import Derived.WalkMore
namespace Go.Proofs.Ytdjdhnopieeibaa
open Go.ChangeShapes Go.WideShapes Go.ChangeAt Go.RowKit
open Go.ChangeMaps (open_string shut_string)
set_option linter.unusedVariables false
set_option linter.unusedSimpArgs false

set_option maxRecDepth 100000 in
set_option maxHeartbeats 8000000 in
theorem gmay_walk (A : Option Addr) (c d : Nat) (l : List Fr) (w : World) (h : ShowsG frC w d (.slice A l.length c) l) (hll : l.length ≤ 5864062014636) (hok : ∀ f ∈ l, f.ok) :
    Calls Try.prog 8 #[.slice A l.length c] w fun e w' => e = .returned (.bool true) ∧ Below w.heap.size w w' := by
  have HNEW := Lib.hid (fun w' => new_any w')
  have HH := Lib.hid ghead_any
  have HOP := Lib.hid (fun (w' : World) (B gb : Nat) (F : Nat → Prop) (h : GW w' B gb none F) => (show Calls Try.prog 29 #[.pointer (some ⟨gb, 0, none⟩)] w' fun e w'' => e = .returned (.int .i64 0) ∧ w'' = w' from gopen_any w' B gb none F h))
  have HS := Lib.hid (fun w' (hb : Below w.heap.size w w') => h.below' hb (Nat.le_refl _))
  have HOK := Lib.hid hok
  clear h hok
  go_enter Try.func8, Try.ntmps8
  go_upto_region 1 with fail
  go_wp2_with fail
  refine (HNEW.out _).mono ?_
  rintro e w1 ⟨gb, F1, rfl, hg1, hb1⟩
  have HG1 := Lib.hid (And.intro hg1 hb1)
  have hw1 := hb1.size
  clear hg1 hb1
  go_wp2_with fail
  go_loopw [4, 5] (fun v i wr => ∃ (j x : Nat), j ≤ l.length ∧ x ≤ 5000 ∧ v = .int .i64 x ∧ i = .int .i64 j ∧ Hid (Below w.heap.size w wr ∧ ∃ o F, GW wr w.heap.size gb o F ∧ InvO o)) (fun _ i _ => l.length - (intOf i).toNat)
  case atStart => exact ⟨0, 5000, Nat.zero_le _, Nat.le_refl _, rfl, rfl, Lib.hid ⟨by simpa using HG1.out.2, _, _, by simpa using HG1.out.1, invO_nil⟩⟩
  case round =>
    obtain ⟨j, x, hj, hx, rfl, rfl, HR⟩ := hrel
    rename World => W
    have hWs := HR.out.1.size
    by_cases hlt : j < l.length
    · have hjl : (j : Int) < (l.length : Int) := by omega
      by_cases h60 : j < 60
      · have hj6 : (j : Int) < 60 := by omega
        obtain ⟨oa, rfl, hd, hcl⟩ := (HS.out _ HR.out.1).at_ (by omega)
        obtain ⟨x0, x1, x2, x3, x4, x5, x6, x7⟩ := fr_cell hcl hlt
        have hokj := HOK.out _ (List.getElem_mem hlt)
        clear hcl
        generalize l[j] = f at *
        by_cases hlong : x < f.p.size
        · have i1 : (x : Int) < (f.p.size : Int) := by omega
          go_wp2_with (go_at_call 20; refine (HH.out _).mono ?_; rintro e w4 ⟨rfl, hb4⟩)
          go_ret
          exact ⟨rfl, HR.out.1.trans (hb4.mono HR.out.1.size)⟩
        · have i1 : ¬ (x : Int) < (f.p.size : Int) := by omega
          obtain ⟨y, hy⟩ : ∃ y, y = x - f.p.size := ⟨_, rfl⟩
          have e1 : (x : Int) - (f.p.size : Int) = (y : Int) := by omega
          have E1 := Lib.hid (show wrap64 ((x : Int) - (f.p.size : Int)) = (y : Int) ∧ IntKind.i64.wrap ((x : Int) - (f.p.size : Int)) = (y : Int) by rw [e1]; exact ⟨w64_id _ (by omega) (by omega), i64_id _ (by omega) (by omega)⟩)
          have hy5 : y ≤ 5000 := by omega
          obtain ⟨hR, o, F, hG, hI⟩ := HR.out
          have HF := Lib.hid (feed_any f W w.heap.size gb o F hokj hWs hG)
          obtain ⟨hi1, hi2, hi3⟩ := feedO_inv hI f
          have hft := hG.foot
          generalize feedO o f = RR at *
          obtain ⟨⟨rc, rk, rl, ris, re⟩, ro⟩ := RR
          obtain ⟨fa, fb, fc, fd, ft, fk, fch, fp⟩ := f
          simp only [] at *
          have HF : Hid (Calls Try.prog 26 #[.pointer (some ⟨gb, 0, none⟩), .agg #[.bool fa, .bool fb, .bool fc, .bool fd, .int .u8 ft, .int .u8 fk, .int .u16 fch, .string fp]] W fun e w'' => ∃ v F', e = .returned (.tuple #[.agg #[.int .u16 rc, .int .u8 rk, v], .bool ris, .int .i64 re]) ∧ OwnG sgC 54 w'' W.heap.size v rl ∧ GW w'' w.heap.size gb ro F' ∧ (∀ k, F' k → F k ∨ W.heap.size ≤ k) ∧ Moved F W w'') := Lib.hid HF.out
          have HI1 := Lib.hid hi1
          have HI2 := Lib.hid hi2
          have HI3 := Lib.hid hi3
          have HFT := Lib.hid hft
          have HRB := Lib.hid hR
          have HOKJ := Lib.hid hokj
          clear hi1 hi2 hi3 hft hR hG hI hy e1 hokj
          have z1 := E1.out.1
          have z2 := E1.out.2
          go_upto_region 9 with fail
          go_wp2_with fail
          refine HF.out.mono ?_
          rintro e w2 ⟨v2, F2, rfl, ho2, hg2, hF2, hm2⟩
          have hw2 := hm2.size
          have HFT2 := Lib.hid (show ∀ k, F2 k → w.heap.size ≤ k ∧ k < w2.heap.size from hg2.foot)
          have hB2 : Below w.heap.size w w2 := hm2.below HRB.out (fun k hk => (HFT.out k hk).1) hWs
          have hbx := below_box w2 (Obj.cells #[.int .u16 rc, .int .u8 rk, v2] 52)
          have hG3 : GW (w2.alloc (Obj.cells #[.int .u16 rc, .int .u8 rk, v2] 52)) w.heap.size gb ro F2 := hg2.keep fun k hk => hbx.block k (HFT2.out k hk).2
          have hX3 : BoxA (w2.alloc (Obj.cells #[.int .u16 rc, .int .u8 rk, v2] 52)) w2.heap.size rc rk v2 := BoxA.new w2 rc rk v2
          have hO3 : OwnG sgC 54 (w2.alloc (Obj.cells #[.int .u16 rc, .int .u8 rk, v2] 52)) W.heap.size v2 rl := ho2.below hbx (Nat.le_refl _)
          have hB3 : Below w.heap.size w (w2.alloc (Obj.cells #[.int .u16 rc, .int .u8 rk, v2] 52)) := hB2.trans (hbx.mono hB2.size)
          obtain ⟨A2, c2, rfl, _, _⟩ := ho2.form
          have HA := Lib.hid (And.intro hG3 (And.intro hX3 (And.intro hO3 hB3)))
          have HWW := Lib.hid (show w.heap.size ≤ W.heap.size ∧ W.heap.size ≤ w2.heap.size from ⟨hWs, hw2⟩)
          have a2 := hX3.c2
          clear hG3 hX3 hO3 hB3 hbx hB2 ho2 hg2 hF2 hm2 x0 x1 x2 x3 x4 x5 x6 x7 HF hw2 z1 z2 E1 HRB HFT HR
          cases ris with
          | false =>
            obtain ⟨rfl, hdead⟩ := HI2.out rfl
            have HIN := Lib.hid HI1.out
            by_cases he : re = 0
            · subst he
              clear HI2 HI3 hdead
              go_wp2_with fail
              go_roundw
              case rel => exact ⟨j + 1, y, by omega, hy5, by go_num, by go_num, Lib.hid ⟨by simpa using HA.out.2.2.2, _, _, by simpa using HA.out.1, HI1.out⟩⟩
              case measure => simp [intOf]; omega
            · have he2 : ((re : Int) != 0) = true := by simpa using he
              obtain rfl := hdead he
              clear HI2 HI3 hdead
              go_wp2_with (go_at_call 29; refine (HOP.out _ w.heap.size gb F2 (by simpa using HA.out.1)).mono ?_; rintro e w6 ⟨rfl, rfl⟩)
              go_roundw
              case rel => exact ⟨j + 1, y, by omega, hy5, by go_num, by go_num, Lib.hid ⟨by simpa using HA.out.2.2.2, _, _, by simpa using HA.out.1, HI1.out⟩⟩
              case measure => simp [intOf]; omega
          | true =>
            obtain ⟨rfl, rfl, rfl, hck⟩ := HI3.out rfl
            have HIN := Lib.hid HI1.out
            obtain ⟨hl3, hzs⟩ := segs_ok hck
            have hokf := frames_ok (n := 100) (by omega) (by omega) HOKJ.out.2.2.1 hck
            have hrun := run_cut (n := 100) (by omega) (by omega) rc hck
            have hcut : cutD 100 rk rc rl = (framesD 100 rk rc true rl, 0) := by
              unfold cutD
              rw [if_neg (by omega), if_neg (by rw [hck]; omega)]
              rfl
            generalize hFR : framesD 100 rk rc true rl = FR at *
            have hfne := run_ne hrun
            have hfl : 0 < FR.length := List.length_pos_iff.2 hfne
            have HRUN := Lib.hid hrun
            have HOKF := Lib.hid hokf
            clear hFR hrun hokf hfne HI1 HI2 HI3 HOKJ
            have hX3 := HA.out.2.1
            have hO3 := HA.out.2.2.1
            have hlt3 := hX3.lt
            obtain ⟨d2, hd2, hs2⟩ := hO3.shows
            have HCK : Hid (∀ (w' : World), Below (w2.alloc (Obj.cells #[.int .u16 rc, .int .u8 rk, .slice A2 rl.length c2] 52)).heap.size (w2.alloc (Obj.cells #[.int .u16 rc, .int .u8 rk, .slice A2 rl.length c2] 52)) w' →
                Calls Try.prog 23 #[.agg #[.int .u16 rc, .int .u8 rk, .slice A2 rl.length c2]] w' fun e w'' => e = .returned (.int .i64 0) ∧ Below w'.heap.size w' w'') := Lib.hid fun w' hb => by
              have := gcheck_any rc rk A2 c2 d2 rl w' (hs2.below' hb (Nat.le_refl _)) (by omega) (fun s hs => by have := hzs s hs; omega)
              rw [hck] at this
              exact this
            have HCUT : Hid (∀ (w' : World), Below (w2.alloc (Obj.cells #[.int .u16 rc, .int .u8 rk, .slice A2 rl.length c2] 52)).heap.size (w2.alloc (Obj.cells #[.int .u16 rc, .int .u8 rk, .slice A2 rl.length c2] 52)) w' →
                Calls Try.prog 21 #[.agg #[.int .u16 rc, .int .u8 rk, .slice A2 rl.length c2], .int .i64 100] w' fun e w'' => ∃ v, e = .returned (.tuple #[v, .int .i64 0]) ∧ OwnG frC 40 w'' w'.heap.size v FR ∧ Below w'.heap.size w' w'') := Lib.hid fun w' hb => by
              have := gcut_any rc rk 100 A2 c2 d2 rl w' (hs2.below' hb (Nat.le_refl _)) (by omega) (fun s hs => by have := hzs s hs; omega)
              rw [hcut] at this
              exact this
            have HSAME : Hid (∀ (w' : World) (A7 : Option Addr) (c7 d7 : Nat), Below (w2.alloc (Obj.cells #[.int .u16 rc, .int .u8 rk, .slice A2 rl.length c2] 52)).heap.size (w2.alloc (Obj.cells #[.int .u16 rc, .int .u8 rk, .slice A2 rl.length c2] 52)) w' → ShowsG sgC w' d7 (.slice A7 rl.length c7) rl →
                Calls Try.prog 28 #[.agg #[.int .u16 rc, .int .u8 rk, .slice A2 rl.length c2], .agg #[.int .u16 rc, .int .u8 rk, .slice A7 rl.length c7]] w' fun e w'' => e = .returned (.bool true) ∧ Below w'.heap.size w' w'') := Lib.hid fun w' A7 c7 d7 hb h7 => by
              have := asame_any rc rk rc rk A2 A7 c2 c7 d2 d7 rl rl w' (hs2.below' hb (Nat.le_refl _)) h7 (by omega) (by omega)
              rw [show decide (rc = rc ∧ rk = rk ∧ rl = rl) = true by simp] at this
              exact this
            have HKX := Lib.hid (fun w' (hb : Below (w2.alloc (Obj.cells #[.int .u16 rc, .int .u8 rk, .slice A2 rl.length c2] 52)).heap.size (w2.alloc (Obj.cells #[.int .u16 rc, .int .u8 rk, .slice A2 rl.length c2] 52)) w') => hX3.kept hb (Nat.le_refl _))
            have HKG := Lib.hid (fun w' (hb : Below (w2.alloc (Obj.cells #[.int .u16 rc, .int .u8 rk, .slice A2 rl.length c2] 52)).heap.size (w2.alloc (Obj.cells #[.int .u16 rc, .int .u8 rk, .slice A2 rl.length c2] 52)) w') =>
              (show Below w.heap.size w w' ∧ GW w' w.heap.size gb ro F2 from ⟨HA.out.2.2.2.trans (hb.mono HA.out.2.2.2.size), HA.out.1.keep fun k hk => hb.block k (HA.out.1.foot k hk).2⟩))
            have a0 := hX3.c0
            have a1 := hX3.c1
            clear hX3 hO3 hd2 hs2 hck hcut hzs HA
            go_upto_region 13 with fail
            generalize w2.alloc (Obj.cells #[.int .u16 rc, .int .u8 rk, .slice A2 rl.length c2] 52) = W3 at *
            generalize w2.heap.size = xb at *
            go_wp2_with (first
              | (go_at_call 23
                 go_loud (
                 refine (HCK.out _ (by first | exact Below.refl _ _ | exact below_drewN (Below.refl _ _) _ | exact below_drew1 (Below.refl _ _))).mono ?_
                 rintro e w4 ⟨rfl, hb4⟩
                 have hB4 : Below W3.heap.size W3 w4 := by first | exact hb4 | exact (below_drew1 (Below.refl _ _)).trans (hb4.mono (Nat.le_refl _)) | exact (below_drewN (Below.refl _ _) _).trans (hb4.mono (Nat.le_refl _))
                 have HX4 := Lib.hid hB4
                 have hs4 := hB4.size
                 have hx4 := HKX.out w4 hB4
                 have b0 := hx4.c0
                 have b1 := hx4.c1
                 have b2 := hx4.c2
                 clear hb4 hB4 hx4))
              | (go_at_call 21
                 refine (HCUT.out _ (by first | exact HX4.out | exact below_drewN HX4.out _ | exact below_drew1 HX4.out)).mono ?_
                 rintro e w5 ⟨v5, rfl, ho5, hb5⟩
                 have hB5 : Below W3.heap.size W3 w5 := by first | exact HX4.out.trans (hb5.mono HX4.out.size) | exact (below_drew1 HX4.out).trans (hb5.mono HX4.out.size) | exact (below_drewN HX4.out _).trans (hb5.mono HX4.out.size)
                 have HX5 := Lib.hid hB5
                 have hs5 := hB5.size
                 obtain ⟨A5, c5, rfl, hc5, hm5⟩ := ho5.form
                 have hFb : FR.length ≤ 9223372036854775807 := by unfold maxLen at hm5; omega
                 obtain ⟨d5, _, hS5⟩ := ho5.shows
                 have HS5 := Lib.hid hS5
                 clear hb5 hB5 ho5 hS5)
              | (go_at_call 25
                 refine (HNEW.out _).mono ?_
                 rintro e w6 ⟨hb, F6, rfl, hg6, hb6⟩
                 have HX6 := Lib.hid (And.intro hg6 hb6)
                 have hs6 := hb6.size
                 clear hg6 hb6))
            go_loopw [12] (fun i wr => ∃ (q : Nat), q ≤ FR.length ∧ i = .int .i64 q ∧ Hid (Below w5.heap.size w5 wr ∧ ∃ o F, GW wr w5.heap.size hb (some (oneM (rc, rk) o)) F ∧ (q < FR.length → runAll o (FR.drop q) rl))) (fun i _ => FR.length - (intOf i).toNat)
            case atStart => exact ⟨0, Nat.zero_le _, rfl, Lib.hid ⟨by simpa using HX6.out.2, none, _, by simpa [oneM] using HX6.out.1, fun _ => by simpa using HRUN.out⟩⟩
            case round =>
              obtain ⟨q, hq, rfl, HQ⟩ := hrel
              rename World => V
              by_cases hql : q < FR.length
              · have hqi : (q : Int) < (FR.length : Int) := by omega
                obtain ⟨hbV, oq, Fq, hGq, hrq⟩ := HQ.out
                have hrq := hrq hql
                rw [List.drop_eq_getElem_cons hql] at hrq
                obtain ⟨o5, rfl, hd5, hcl⟩ := (HS5.out.below' hbV (Nat.le_refl _)).at_ (by omega)
                obtain ⟨x0, x1, x2, x3, x4, x5, x6, x7⟩ := fr_cell hcl hql
                obtain ⟨hokq, hkq, hcq⟩ := HOKF.out _ (List.getElem_mem hql)
                obtain ⟨hlast, hmore⟩ := run_feed hcq hkq hrq
                have HF := feed_any FR[q] V w5.heap.size hb (some (oneM (rc, rk) oq)) Fq hokq hbV.size hGq
                have hftq := hGq.foot
                obtain ⟨n1, hn1⟩ : ∃ n1, n1 = FR.length - 1 := ⟨_, rfl⟩
                have e3 : (FR.length : Int) - 1 = (n1 : Int) := by omega
                have E3 := Lib.hid (show wrap64 ((FR.length : Int) - 1) = (n1 : Int) ∧ IntKind.i64.wrap ((FR.length : Int) - 1) = (n1 : Int) by rw [e3]; exact ⟨w64_id _ (by omega) (by omega), i64_id _ (by omega) (by omega)⟩)
                have HDL := Lib.hid (show FR.drop (q + 1) = [] ↔ q + 1 = FR.length by rw [List.drop_eq_nil_iff]; omega)
                clear hcl hrq hGq HQ hokq hkq hcq
                generalize FR[q] = f at *
                obtain ⟨ga, gb', gc, gd, gt, gk, gch, gp⟩ := f
                simp only [Fr.vs] at *
                have HBV := Lib.hid hbV
                have HFTQ := Lib.hid hftq
                have hVs := hbV.size
                clear hbV hftq
                have HREL := Lib.hid (fun w' (hb : Below w5.heap.size w5 w') => (show Below W3.heap.size W3 w' from HX5.out.trans (hb.mono HX5.out.size)))
                have HTR := Lib.hid (fun w' w'' (hb : Below w5.heap.size w5 w') (hb' : Below w'.heap.size w' w'') => (show Below w5.heap.size w5 w'' from hb.trans (hb'.mono hb.size)))
                by_cases hqn : q + 1 = FR.length
                · have hF2 := hlast (HDL.out.2 hqn)
                  rw [show feedO (some (oneM (rc, rk) oq)) ⟨ga, gb', gc, gd, gt, gk, gch, gp⟩ = feedM (oneM (rc, rk) oq) ⟨ga, gb', gc, gd, gt, gk, gch, gp⟩ from rfl, hF2] at HF
                  have HF : Hid (Calls Try.prog 26 #[.pointer (some ⟨hb, 0, none⟩), .agg #[.bool ga, .bool gb', .bool gc, .bool gd, .int .u8 gt, .int .u8 gk, .int .u16 gch, .string gp]] V fun e w'' => ∃ v F', e = .returned (.tuple #[.agg #[.int .u16 rc, .int .u8 rk, v], .bool true, .int .i64 0]) ∧ OwnG sgC 54 w'' V.heap.size v rl ∧ GW w'' w5.heap.size hb (some []) F' ∧ (∀ k, F' k → Fq k ∨ V.heap.size ≤ k) ∧ Moved Fq V w'') := Lib.hid HF
                  have eq1 : ((q : Int) == (n1 : Int)) = true := by simp; omega
                  clear hF2 hlast hmore e3
                  have z1 := E3.out.1
                  have z2 := E3.out.2
                  go_upto_region 20 with fail
                  go_wp2_with fail
                  refine HF.out.mono ?_
                  rintro e w7 ⟨v7, F7, rfl, ho7, hg7, hF7, hm7⟩
                  have hb7 : Below w5.heap.size w5 w7 := hm7.below HBV.out (fun k hk => (HFTQ.out k hk).1) hVs
                  have hbx := below_box w7 (Obj.cells #[.int .u16 rc, .int .u8 rk, v7] 52)
                  obtain ⟨A7, c7, rfl, _, _⟩ := ho7.form
                  have hX7 := BoxA.new w7 rc rk (.slice A7 rl.length c7)
                  obtain ⟨d7, _, hs7⟩ := (ho7.below hbx (Nat.le_refl _)).shows
                  have hb8 := HTR.out _ _ hb7 hbx
                  have HG8 := Lib.hid (show GW (w7.alloc (Obj.cells #[.int .u16 rc, .int .u8 rk, .slice A7 rl.length c7] 52)) w5.heap.size hb (some []) F7 ∧ ∀ k, F7 k → k < w7.heap.size from ⟨hg7.keep fun k hk => hbx.block k (hg7.foot k hk).2, fun k hk => (hg7.foot k hk).2⟩)
                  have HB8 := Lib.hid hb8
                  have HS8 := Lib.hid hs7
                  have hx8 := HKX.out _ (HREL.out _ hb8)
                  have y0 := hX7.c0
                  have y1 := hX7.c1
                  have y2 := hX7.c2
                  have b0 := hx8.c0
                  have b1 := hx8.c1
                  have b2 := hx8.c2
                  clear hX7 hx8 hs7 hb8 hb7 hbx ho7 hg7 hF7 hm7 x0 x1 x2 x3 x4 x5 x6 x7 HF
                  go_upto_region 21 with fail
                  generalize w7.alloc (Obj.cells #[.int .u16 rc, .int .u8 rk, .slice A7 rl.length c7] 52) = W7 at *
                  go_wp2_with (go_at_call 28
                               refine (HSAME.out _ A7 c7 d7 (by first | exact HREL.out _ HB8.out | exact below_drew1 (HREL.out _ HB8.out) | exact below_drewN (HREL.out _ HB8.out) _) (by first | exact HS8.out | exact HS8.out.drew | exact HS8.out.drewN _)).mono ?_
                               rintro e w8 ⟨rfl, hb8⟩)
                  go_roundw
                  case rel =>
                    refine ⟨FR.length, Nat.le_refl _, by congr 1; omega, Lib.hid ⟨HTR.out _ _ HB8.out hb8, none, F7, ?_, fun h => absurd h (Nat.lt_irrefl _)⟩⟩
                    exact HG8.out.1.keep fun k hk => hb8.block k (HG8.out.1.foot k hk).2
                  case measure => simp [intOf]; omega
                · obtain ⟨pq, hF2, hrn⟩ := hmore (fun h => hqn (HDL.out.1 h))
                  rw [show feedO (some (oneM (rc, rk) oq)) ⟨ga, gb', gc, gd, gt, gk, gch, gp⟩ = feedM (oneM (rc, rk) oq) ⟨ga, gb', gc, gd, gt, gk, gch, gp⟩ from rfl, hF2] at HF
                  have HF : Hid (Calls Try.prog 26 #[.pointer (some ⟨hb, 0, none⟩), .agg #[.bool ga, .bool gb', .bool gc, .bool gd, .int .u8 gt, .int .u8 gk, .int .u16 gch, .string gp]] V fun e w'' => ∃ v F', e = .returned (.tuple #[.agg #[.int .u16 0, .int .u8 0, v], .bool false, .int .i64 0]) ∧ OwnG sgC 54 w'' V.heap.size v [] ∧ GW w'' w5.heap.size hb (some (oneM (rc, rk) (some pq))) F' ∧ (∀ k, F' k → Fq k ∨ V.heap.size ≤ k) ∧ Moved Fq V w'') := Lib.hid HF
                  have eq1 : ((q : Int) == (n1 : Int)) = false := by simp; omega
                  have HRN := Lib.hid hrn
                  clear hF2 hlast hmore e3 hrn
                  have z1 := E3.out.1
                  have z2 := E3.out.2
                  go_upto_region 20 with fail
                  go_wp2_with fail
                  refine HF.out.mono ?_
                  rintro e w7 ⟨v7, F7, rfl, ho7, hg7, hF7, hm7⟩
                  obtain ⟨A7, c7, hv7, _, _⟩ := ho7.form
                  obtain rfl : v7 = .slice A7 0 c7 := hv7
                  have hb7 : Below w5.heap.size w5 w7 := hm7.below HBV.out (fun k hk => (HFTQ.out k hk).1) hVs
                  have hbx := below_box w7 (Obj.cells #[.int .u16 0, .int .u8 0, .slice A7 0 c7] 52)
                  have hb8 := HTR.out _ _ hb7 hbx
                  have HG8 := Lib.hid (show GW (w7.alloc (Obj.cells #[.int .u16 0, .int .u8 0, .slice A7 0 c7] 52)) w5.heap.size hb (some (oneM (rc, rk) (some pq))) F7 from hg7.keep fun k hk => hbx.block k (hg7.foot k hk).2)
                  have HB8 := Lib.hid hb8
                  clear hb8 hb7 hbx ho7 hg7 hF7 hm7 x0 x1 x2 x3 x4 x5 x6 x7 HF
                  go_upto_region 21 with fail
                  generalize w7.alloc (Obj.cells #[.int .u16 0, .int .u8 0, .slice A7 0 c7] 52) = W7 at *
                  go_wp2_with fail
                  go_roundw
                  case rel =>
                    refine ⟨q + 1, by omega, by go_num, Lib.hid ⟨by simpa using HB8.out, some pq, F7, by simpa using HG8.out, fun _ => HRN.out⟩⟩
                  case measure => simp [intOf]; omega
              · have hqi : ¬ (q : Int) < (FR.length : Int) := by omega
                have hne : ((FR.length : Int) == 0) = false := by rw [beq_eq_false_iff_ne]; omega
                have HKV := Lib.hid (HKG.out _ (HX5.out.trans (HQ.out.1.mono HX5.out.size)))
                go_wp2_with fail
                go_roundw
                case rel => exact ⟨j + 1, y, by omega, hy5, by go_num, by go_num, Lib.hid ⟨by simpa using HKV.out.1, _, _, by simpa using HKV.out.2, HIN.out⟩⟩
                case measure => simp [intOf]; omega
      · have hj6 : ¬ (j : Int) < 60 := by omega
        go_wp2_with (go_at_call 20; refine (HH.out _).mono ?_; rintro e w4 ⟨rfl, hb4⟩)
        go_ret
        exact ⟨rfl, HR.out.1.trans (hb4.mono HR.out.1.size)⟩
    · have hjl : ¬ (j : Int) < (l.length : Int) := by omega
      go_wp2_with (go_at_call 20; refine (HH.out _).mono ?_; rintro e w4 ⟨rfl, hb4⟩)
      go_ret
      exact ⟨rfl, HR.out.1.trans (hb4.mono HR.out.1.size)⟩

set_option maxRecDepth 100000 in
set_option maxHeartbeats 1000000 in
theorem gmay_walk_lifted (os : Os) (started : os.Started) (H : Type) (enc : TypeId × Value → H) :
    ReturnsInHanded {} Try.checked os 8 .any (Rows.gatherMaySpec.pre6 enc Try.prog Try.f8 Rows.gatherMayRow.domain false) (Rows.gatherMaySpec.post enc Try.prog Try.f8 false true false false) := by
  refine returnsInHanded_of_change_sized (C := Try.checked) own started (by kernel_rfl) Try.func8
    (ChangeSpec.witness6 (enc := enc) (C := Try.checked) false ⟨#[], #[.slice none 0 0], []⟩ 8 (by kernel_rfl) (by kernel_rfl) (by kernel_rfl) (by kernel_rfl)) ?_
  intro W base args ds gs before hval0 hW hcnd hsz0 _
  have hval : ∀ (j : Nat) t v, Try.f8.params[j]? = some t → args[j]? = some v → Value.okWide Try.prog W .any base t v := hval0
  have hsz : (DataW.weightsEach Try.prog (Try.f8.params.toList ++ Rows.gatherMaySpec.plain.varTypes Try.prog) (ds ++ gs)).all (· ≤ reachBytes) = true := hsz0
  have hW' := hW
  obtain ⟨p, q, hA0, hV, rfl, hfz, hnd⟩ := hW
  have hA : DataW.TrodAll enc Try.prog W 0 (fun _ => true) true Try.f8.params.toList args.toList ds p := hA0
  rw [Try.params8] at hA hval hsz
  obtain ⟨v0, vs0, d0, ds0, p0, q0, hargs, rfl, rfl, h0, r0⟩ := trodAll_cons hA
  obtain ⟨rfl, rfl, rfl⟩ := trodAll_nil r0
  obtain rfl : args = #[v0] := by cases args; simp_all
  obtain ⟨rfl, rfl⟩ := trodVars_none hV
  have k0 := h0
  have lt0 : ∀ x ∈ p0, x.block < W.heap.size := by obtain ⟨m, hm⟩ := k0; exact DataW.trod_lt m _ _ _ hm
  obtain ⟨A0, c0, b0, L0, rfl, sh0, l0, ok0⟩ := open_frames (hval 0 37 v0 rfl rfl) h0 hsz 0 rfl rfl
  clear hA0 hval0
  refine (gmay_walk A0 c0 b0 L0 W sh0 l0 ok0).mono fun e W' ⟨he, bel⟩ => ?_
  subst he
  exact ⟨_, rfl, _, _, _, [], _, [], hW', trodAll_mk1 (shut_bool Try.underlying4 _), (trodAll_cons_mk (Below.trod laidOut (by kernel_rfl) (of_decide_eq_true (by kernel_rfl)) k0 bel lt0) trodAll_mk0), rfl, bel.frame _, fun h => by cases h⟩

theorem gatherMay_holds : Rows.GatherMaySaid :=
  OpenClaim.holds_of_wide 8 Try.f8 rfl rfl rfl rfl rfl rfl rfl ⟨rfl, rfl, rfl, rfl, rfl⟩ rfl rfl rfl rfl rfl (by kernel_rfl) Try.func8 (by kernel_rfl)
    (of_decide_eq_true (by kernel_rfl)) (by unfold Func.isWrapper; first | (rw [if_pos (by decide +kernel)]; kernel_rfl) | (rw [if_neg (by decide +kernel)]; exact ⟨rfl, rfl⟩))
    (fun os started H enc _ => gmay_walk_lifted os started H enc)
#print axioms gatherMay_holds
end Go.Proofs.Ytdjdhnopieeibaa
