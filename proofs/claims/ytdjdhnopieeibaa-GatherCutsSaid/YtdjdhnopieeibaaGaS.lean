/-
  The contract of the document's own Cut for assemblies.
  Conditions: none but sizes.
-/
import Derived.Test.YtdjdhnopieeibaaGaQ
import Derived.Deep.RegionLaw
import Derived.Deep.RegionHeld3
namespace Go.Proofs.Ytdjdhnopieeibaa
open Go.RowKit
set_option linter.unusedVariables false
set_option linter.unusedSimpArgs false

/-- The pieces of a payload from a place on, as frames. -/
theorem pieceF_at {n : Nat} (hn : 1 ≤ n) (a b : Bool) (t k ch : Nat) (c : Bool) (l : List UInt8) (i : Nat) (hi : i < l.length ∨ i = 0) :
    pieceF a b t k ch c (cutP n (l.drop i)) = ⟨a, b, c, decide (l.length ≤ i + n), t, k, ch, str8 ((l.take (min (i + n) l.length)).drop i)⟩ :: (if i + n < l.length then pieceF a b t k ch false (cutP n (l.drop (i + n))) else []) := by
  by_cases h : i + n < l.length
  · rw [if_pos h, pieceF_more hn (by rw [List.length_drop]; omega), List.drop_drop]
    have e1 : decide (l.length ≤ i + n) = false := by simp; omega
    have e2 : min (i + n) l.length = i + n := by omega
    rw [e1, e2, List.take_drop]
  · rw [if_neg h, pieceF_end (by rw [List.length_drop]; omega)]
    have e1 : decide (l.length ≤ i + n) = true := by simp; omega
    have e2 : min (i + n) l.length = l.length := by omega
    rw [e1, e2, List.take_length]

theorem sb_part (s : ByteArray) (i j : Nat) : sb (s.extract i j) = ((sb s).take j).drop i := by
  simp [sb, ByteArray.data_extract, List.drop_take]

set_option maxRecDepth 100000 in
set_option maxHeartbeats 8000000 in
theorem qgcut_any (ch k : Nat) (most : Int) (A : Option Addr) (c d : Nat) (l : List Sg) (w : World) (h : ShowsG sgC w d (.slice A l.length c) l) (hl : l.length ≤ 17592186044416) (hz : ∀ s ∈ l, s.p.size ≤ 140737488351232) :
    Calls Try.prog 22 #[asV ch k (.slice A l.length c), .int .i64 most] w (CutSaid (cutD most k ch l) w) := by
  have hX := BoxA.new w ch k (.slice A l.length c)
  have hb0 := below_box w (Obj.cells #[.int .u16 ch, .int .u8 k, .slice A l.length c] 52)
  have HC := Lib.hid (fun w' (hb : Below w.heap.size w w') => qgcheck_any ch k A c d l w' (h.below' hb (Nat.le_refl _)) hl hz)
  have HS := Lib.hid (fun w' (hb : Below w.heap.size w w') => h.below' hb (Nat.le_refl _))
  obtain ⟨R, hR⟩ : ∃ R, R = cutD most k ch l := ⟨_, rfl⟩
  rw [← hR]
  unfold cutD at hR
  unfold CutSaid
  unfold asV at *
  have HX := Lib.hid (And.intro hX hb0)
  clear h hX hb0
  by_cases h1 : most < 1
  · rw [if_pos (.inl h1)] at hR
    subst hR
    clear HC
    go_enter Try.func22, Try.ntmps22
    go_wp2_with fail
    go_ret2
    exact ⟨_, rfl, OwnG.nil_ _ _ _ _, HX.out.2⟩
  · by_cases h2 : 4084 < most
    · rw [if_pos (.inr h2)] at hR
      subst hR
      clear HC
      go_enter Try.func22, Try.ntmps22
      go_wp2_with fail
      go_ret2
      exact ⟨_, rfl, OwnG.nil_ _ _ _ _, HX.out.2⟩
    · rw [if_neg (by omega)] at hR
      by_cases hc : checkA k l = 0
      · rw [if_neg (by omega)] at hR
        rw [hc] at HC
        obtain ⟨ht, hs⟩ := checkA_zero hc
        have hl3 := types_three ht
        obtain ⟨n, hn⟩ : ∃ n : Nat, most = n := ⟨most.toNat, by omega⟩
        subst hn
        simp only [Int.toNat_natCast] at hR
        obtain ⟨ALL, hALL⟩ : ∃ ALL, ALL = framesD n k ch true l := ⟨_, rfl⟩
        rw [← hALL] at hR
        subst hR
        have hn1 : 1 ≤ n := by omega
        have hn2 : n ≤ 4084 := by omega
        have hAL : ALL.length ≤ 20000 := by have := framesD_len hn1 k ch l true; rw [← hALL] at this; omega
        have HAT := Lib.hid (framesD_at n k ch l)
        have HZ := Lib.hid (fun (j : Nat) (hj : j < l.length) => show l[j].p.size ≤ 16384 by
          have := sumS_take l j hj
          have := sumS_le l (j + 1)
          omega)
        have HALL := Lib.hid hALL
        clear hc ht hs hALL hz h1 h2 hl
        go_enter Try.func22, Try.ntmps22
        go_wp2_with (go_at_call 24
                     refine (HC.out _ HX.out.2).mono ?_
                     rintro e w1 ⟨rfl, hb1⟩
                     have hX1 := HX.out.1.kept hb1 (Nat.le_refl _)
                     have hb01 := HX.out.2.trans (hb1.mono HX.out.2.size)
                     have hlt1 := hX1.lt)
        have HX1 := Lib.hid (And.intro hX1 hb01)
        clear hX1 hb01 hb1
        go_loopw [6, 7] (fun v i wr => ∃ (j : Nat) (L : List Fr), j ≤ l.length ∧ i = .int .i64 j ∧ OwnG frC 40 wr (w.heap.size + 1) v L ∧ L ++ framesD n k ch (j == 0) (l.drop j) = ALL ∧ Hid (Below (w.heap.size + 1) w1 wr)) (fun _ i _ => l.length - (intOf i).toNat)
        case atStart => exact ⟨0, [], Nat.zero_le _, rfl, OwnG.nil_ _ _ _ _, by rw [HALL.out]; simp, Lib.hid (Below.refl _ _)⟩
        case round =>
          obtain ⟨j, L, hj, rfl, hO, hAll, HB⟩ := hrel
          rename World => wj
          obtain ⟨A5, c5, hv5, _, _⟩ := hO.form
          subst hv5
          have hXj : BoxA wj w.heap.size ch k (.slice A l.length c) := (HB.out.block _ (by omega)).trans HX1.out.1
          have x2 := hXj.c2
          by_cases hlt : j < l.length
          · have hjl : (j : Int) < (l.length : Int) := by omega
            have hbw := HX1.out.2.trans (HB.out.mono (by omega))
            obtain ⟨o, rfl, hd, hcl⟩ := (HS.out wj hbw).at_ (by omega)
            obtain ⟨y0, y1⟩ := sg_cell hcl hlt
            have hp := HZ.out j hlt
            have hat := HAT.out j hlt
            rw [hat] at hAll
            obtain ⟨fa, hfa⟩ : ∃ fa, fa = (j == 0) := ⟨_, rfl⟩
            obtain ⟨fb, hfb⟩ : ∃ fb, fb = (j + 1 == l.length) := ⟨_, rfl⟩
            have E1 := Lib.hid (show ((j : Int) == 0) = fa ∧ ((j : Int) == (l.length : Int) - 1) = fb ∧ wrap64 ((l.length : Int) - 1) = (l.length : Int) - 1 ∧ IntKind.i64.wrap ((l.length : Int) - 1) = (l.length : Int) - 1 by
              refine ⟨by rw [hfa, Bool.eq_iff_iff]; simp, by rw [hfb, Bool.eq_iff_iff]; simp; omega, w64_id _ (by omega) (by omega), i64_id _ (by omega) (by omega)⟩)
            rw [← hfa, ← hfb] at hAll
            have HT := Lib.hid (fun w' (hb : Below (w.heap.size + 1) w1 w') => show BoxA w' w.heap.size ch k (.slice (some ⟨d, o, none⟩) l.length c) ∧ w'.cell? ⟨d, o + j * 2, none⟩ = some (.int .u8 (l[j].t : Nat)) by
              refine ⟨(hb.block _ (by omega)).trans HX1.out.1, ?_⟩
              obtain ⟨o', e', _, hcl'⟩ := (HS.out w' (HX1.out.2.trans (hb.mono (by omega)))).at_ (by omega)
              cases e'
              exact (sg_cell hcl' hlt).1)
            clear hat hcl hfa hfb hXj y0
            generalize hre : framesD n k ch (j + 1 == 0) (l.drop (j + 1)) = REST at *
            have HRE := Lib.hid hre
            clear hre
            generalize l[j].t = t at *
            generalize l[j].p = S at *
            go_wp2_with fail
            clear y1 x2
            go_loopw [6, 9] (fun v i wr => ∃ (fr : Nat) (L' : List Fr), i = .int .i64 fr ∧ OwnG frC 40 wr (w.heap.size + 1) v L' ∧ fr ≤ 20480 ∧ Hid (L' ++ ((if fr < S.size ∨ fr = 0 then pieceF fa fb t k ch (fr == 0) (cutP n ((sb S).drop fr)) else []) ++ REST) = ALL) ∧ Hid (Below (w.heap.size + 1) w1 wr)) (fun _ i _ => 20480 + 4084 - (intOf i).toNat)
            case atStart => exact ⟨0, L, rfl, hO, by omega, Lib.hid (by rw [if_pos (.inr rfl)]; exact hAll), HB⟩
            case round =>
              obtain ⟨fr, L', rfl, hO', hfr, HAl, HB'⟩ := hrel
              rename World => wi
              obtain ⟨A7, c7, hv7, _, _⟩ := hO'.form
              subst hv7
              by_cases hgo : fr < S.size ∨ fr = 0
              · by_cases h00 : fr = 0
                · have g1 : ((fr : Int) == 0) = true := by rw [beq_iff_eq]; omega
                  have hal := HAl.out
                  rw [if_pos hgo, pieceF_at hn1 fa fb t k ch (fr == 0) (sb S) fr (by rw [sb_length]; exact hgo)] at hal
                  obtain ⟨v, hv⟩ : ∃ v, v = fr + n := ⟨_, rfl⟩
                  obtain ⟨tq, hto⟩ : ∃ tq, tq = min v S.size := ⟨_, rfl⟩
                  obtain ⟨fe, hfe⟩ : ∃ fe, fe = decide ((sb S).length ≤ fr + n) := ⟨_, rfl⟩
                  have h0 : (fr == 0) = true := by simpa using h00
                  have hS : str8 (((sb S).take (min (fr + n) (sb S).length)).drop fr) = S.extract fr tq := by
                    rw [sb_length, hto, hv, ← sb_part, str8_sb]
                  rw [h0, hS, ← hfe, sb_length, ← hv] at hal
                  have hL20 : L'.length ≤ 20000 := by
                    have := congrArg List.length hal
                    simp only [List.length_append, List.length_cons] at this
                    omega
                  have HNX := Lib.hid (show L' ++ [⟨fa, fb, true, fe, t, k, ch, S.extract fr tq⟩] ++ ((if v < S.size ∨ v = 0 then pieceF fa fb t k ch (v == 0) (cutP n ((sb S).drop v)) else []) ++ REST) = ALL by
                    have hv0 : (v == 0) = false := by rw [beq_eq_false_iff_ne]; omega
                    rw [hv0]
                    have e : (if v < S.size ∨ v = 0 then pieceF fa fb t k ch false (cutP n ((sb S).drop v)) else []) = (if v < S.size then pieceF fa fb t k ch false (cutP n ((sb S).drop v)) else []) := by
                      by_cases hh : v < S.size
                      · rw [if_pos (.inl hh), if_pos hh]
                      · rw [if_neg (by omega), if_neg hh]
                    rw [e]
                    simpa using hal)
                  have WV := Lib.hid (show wrap64 ((fr : Int) + (n : Int)) = (v : Int) ∧ IntKind.i64.wrap ((fr : Int) + (n : Int)) = (v : Int) by
                    rw [show (fr : Int) + (n : Int) = (v : Int) by omega]
                    exact ⟨w64_id _ (by omega) (by omega), i64_id _ (by omega) (by omega)⟩)
                  have hmin : min (v : Int) (S.size : Int) = (tq : Int) := by rw [hto]; omega
                  have HMIN := Lib.hid hmin
                  have HFE := Lib.hid (show ((tq : Int) == (S.size : Int)) = fe by
                    rw [hfe, sb_length, Bool.eq_iff_iff]
                    simp
                    omega)
                  have HV := Lib.hid (And.intro hv (show v ≤ 20480 ∨ True by exact .inr trivial))
                  have t1 : (fr : Int) ≤ (tq : Int) := by omega
                  have t2 : (tq : Int) ≤ (S.size : Int) := by omega
                  have t3 : fr ≤ tq := by omega
                  have t4 : tq ≤ S.size := by omega
                  have hfrS : fr ≤ S.size := by omega
                  clear hal h0 hS hv hto hfe hmin hgo h00
                  obtain ⟨w11, w12⟩ := WV.out
                  go_upto_region 13 with fail
                  go_cut [10] from 44 to 49 (fun z wx => z = .int .i64 tq ∧ wx = wi)
                  case first =>
                    go_wp2_with fail
                    all_goals
                      go_meet
                      exact ⟨by rw [HMIN.out], rfl⟩
                  case rest =>
                    obtain ⟨rfl, hww⟩ := hcut
                    rw [hww]
                    clear hww
                    go_upto_region 14 with fail
                    obtain ⟨e1, e2, e3, e4⟩ := E1.out
                    have e5 := HFE.out
                    have HKEEP := Lib.hid (fun w' (hb : Below (w.heap.size + 1) w1 w') => show (w'.cell? ⟨w.heap.size, 0, none⟩ = some (.int .u16 ch) ∧ w'.cell? ⟨w.heap.size, 1, none⟩ = some (.int .u8 k) ∧ w'.cell? ⟨w.heap.size, 2, none⟩ = some (.slice (some ⟨d, o, none⟩) l.length c) ∧ w'.cell? ⟨d, o + j * 2, none⟩ = some (.int .u8 t)) by
                      obtain ⟨hX5, z0⟩ := HT.out w' hb
                      exact ⟨hX5.c0, hX5.c1, hX5.c2, z0⟩)
                    have hsz := HB'.out.size
                    have hbd := below_drew1 HB'.out
                    have hbA := (HB'.out.alloc (by omega) (Obj.cells #[.bool fa, .bool fb, .bool true, .bool fe, .int .u8 t, .int .u8 k, .int .u16 ch, .string (S.extract fr tq)] 40)).drew
                    have hbA2 := hbd.alloc (show w.heap.size + 1 ≤ wi.heap.size by omega) (Obj.cells #[.bool fa, .bool fb, .bool true, .bool fe, .int .u8 t, .int .u8 k, .int .u16 ch, .string (S.extract fr tq)] 40)
                    have hOd := (hO'.alloc_ (Obj.cells #[.bool fa, .bool fb, .bool true, .bool fe, .int .u8 t, .int .u8 k, .int .u16 ch, .string (S.extract fr tq)] 40))
                    have HOA : OwnG frC 40 (wi.alloc (Obj.cells #[.bool fa, .bool fb, .bool true, .bool fe, .int .u8 t, .int .u8 k, .int .u16 ch, .string (S.extract fr tq)] 40)).drew (w.heap.size + 1) (.slice A7 L'.length c7) L' := hOd.keep fun _ _ => rfl
                    clear hOd
                    go_region_held3 (fun w' => (w'.cell? ⟨w.heap.size, 0, none⟩ = some (.int .u16 ch) ∧ w'.cell? ⟨w.heap.size, 1, none⟩ = some (.int .u8 k) ∧ w'.cell? ⟨w.heap.size, 2, none⟩ = some (.slice (some ⟨d, o, none⟩) l.length c) ∧ w'.cell? ⟨d, o + j * 2, none⟩ = some (.int .u8 t))) (first | exact HKEEP.out _ hbd | exact HKEEP.out _ hbA | exact HKEEP.out _ hbA2 | exact HKEEP.out _ HB9.out)
                      ((refine step_appendG frC _ (by rfl) (.tmp 50) (.tmp 80) 37 (by rfl) (w.heap.size + 1) 40 (.agg #[.bool false, .bool false, .bool false, .bool false, .int .u8 0, .int .u8 0, .int .u16 0, .string ⟨#[]⟩]) 24 Try.underlying37 infoFr rfl (.slice A7 L'.length c7) L' (by rfl) HOA wi.heap.size (.slice (some ⟨wi.heap.size, 0, none⟩) 1 1) [⟨fa, fb, true, fe, t, k, ch, S.extract fr tq⟩] (by rfl) (ShowsG.lit (C := frC) [⟨fa, fb, true, fe, t, k, ch, S.extract fr tq⟩] (by simp [Code.all, frC, Fr.vs]) (by simp [maxLen])) (by simp; omega) (by simp; omega) (by simp; omega) ?_
                        intro v9 w9 ho9 hg9
                        have HB9 := Lib.hid (hbA.grown hg9 (by simp; omega) (fun q hq => (hO'.block q hq).1))))
                    all_goals
                      have hv1 := HV.out.1
                      have hv2 : v ≤ 20480 := by omega
                      have HVF := Lib.hid hv1
                      clear hv1 hbd hbA hbA2 HOA e1 e2 e3 e4 e5 w11 w12
                      go_wp2_with fail
                      go_roundw
                      case rel => exact ⟨v, L' ++ [⟨fa, fb, true, fe, t, k, ch, S.extract fr tq⟩], by first | rfl | (rw [show (fr : Int) + (n : Int) = (v : Int) by have := HVF.out; omega]), ho9, hv2, HNX, HB9⟩
                      case measure =>
                        have hv1 := HVF.out
                        simp [intOf]
                        omega
                · have g1 : ((fr : Int) == 0) = false := by rw [beq_eq_false_iff_ne]; omega
                  have g2 : (fr : Int) < (S.size : Int) := by omega
                  have hal := HAl.out
                  rw [if_pos hgo, pieceF_at hn1 fa fb t k ch (fr == 0) (sb S) fr (by rw [sb_length]; exact hgo)] at hal
                  obtain ⟨v, hv⟩ : ∃ v, v = fr + n := ⟨_, rfl⟩
                  obtain ⟨tq, hto⟩ : ∃ tq, tq = min v S.size := ⟨_, rfl⟩
                  obtain ⟨fe, hfe⟩ : ∃ fe, fe = decide ((sb S).length ≤ fr + n) := ⟨_, rfl⟩
                  have h0 : (fr == 0) = false := by rw [beq_eq_false_iff_ne]; omega
                  have hS : str8 (((sb S).take (min (fr + n) (sb S).length)).drop fr) = S.extract fr tq := by
                    rw [sb_length, hto, hv, ← sb_part, str8_sb]
                  rw [h0, hS, ← hfe, sb_length, ← hv] at hal
                  have hL20 : L'.length ≤ 20000 := by
                    have := congrArg List.length hal
                    simp only [List.length_append, List.length_cons] at this
                    omega
                  have HNX := Lib.hid (show L' ++ [⟨fa, fb, false, fe, t, k, ch, S.extract fr tq⟩] ++ ((if v < S.size ∨ v = 0 then pieceF fa fb t k ch (v == 0) (cutP n ((sb S).drop v)) else []) ++ REST) = ALL by
                    have hv0 : (v == 0) = false := by rw [beq_eq_false_iff_ne]; omega
                    rw [hv0]
                    have e : (if v < S.size ∨ v = 0 then pieceF fa fb t k ch false (cutP n ((sb S).drop v)) else []) = (if v < S.size then pieceF fa fb t k ch false (cutP n ((sb S).drop v)) else []) := by
                      by_cases hh : v < S.size
                      · rw [if_pos (.inl hh), if_pos hh]
                      · rw [if_neg (by omega), if_neg hh]
                    rw [e]
                    simpa using hal)
                  have WV := Lib.hid (show wrap64 ((fr : Int) + (n : Int)) = (v : Int) ∧ IntKind.i64.wrap ((fr : Int) + (n : Int)) = (v : Int) by
                    rw [show (fr : Int) + (n : Int) = (v : Int) by omega]
                    exact ⟨w64_id _ (by omega) (by omega), i64_id _ (by omega) (by omega)⟩)
                  have hmin : min (v : Int) (S.size : Int) = (tq : Int) := by rw [hto]; omega
                  have HMIN := Lib.hid hmin
                  have HFE := Lib.hid (show ((tq : Int) == (S.size : Int)) = fe by
                    rw [hfe, sb_length, Bool.eq_iff_iff]
                    simp
                    omega)
                  have HV := Lib.hid (And.intro hv (show v ≤ 20480 ∨ True by exact .inr trivial))
                  have t1 : (fr : Int) ≤ (tq : Int) := by omega
                  have t2 : (tq : Int) ≤ (S.size : Int) := by omega
                  have t3 : fr ≤ tq := by omega
                  have t4 : tq ≤ S.size := by omega
                  have hfrS : fr ≤ S.size := by omega
                  clear hal h0 hS hv hto hfe hmin hgo h00
                  obtain ⟨w11, w12⟩ := WV.out
                  go_upto_region 13 with fail
                  go_cut [10] from 44 to 49 (fun z wx => z = .int .i64 tq ∧ wx = wi)
                  case first =>
                    go_wp2_with fail
                    all_goals
                      go_meet
                      exact ⟨by rw [HMIN.out], rfl⟩
                  case rest =>
                    obtain ⟨rfl, hww⟩ := hcut
                    rw [hww]
                    clear hww
                    go_upto_region 14 with fail
                    obtain ⟨e1, e2, e3, e4⟩ := E1.out
                    have e5 := HFE.out
                    have HKEEP := Lib.hid (fun w' (hb : Below (w.heap.size + 1) w1 w') => show (w'.cell? ⟨w.heap.size, 0, none⟩ = some (.int .u16 ch) ∧ w'.cell? ⟨w.heap.size, 1, none⟩ = some (.int .u8 k) ∧ w'.cell? ⟨w.heap.size, 2, none⟩ = some (.slice (some ⟨d, o, none⟩) l.length c) ∧ w'.cell? ⟨d, o + j * 2, none⟩ = some (.int .u8 t)) by
                      obtain ⟨hX5, z0⟩ := HT.out w' hb
                      exact ⟨hX5.c0, hX5.c1, hX5.c2, z0⟩)
                    have hsz := HB'.out.size
                    have hbd := below_drew1 HB'.out
                    have hbA := (HB'.out.alloc (by omega) (Obj.cells #[.bool fa, .bool fb, .bool false, .bool fe, .int .u8 t, .int .u8 k, .int .u16 ch, .string (S.extract fr tq)] 40)).drew
                    have hbA2 := hbd.alloc (show w.heap.size + 1 ≤ wi.heap.size by omega) (Obj.cells #[.bool fa, .bool fb, .bool false, .bool fe, .int .u8 t, .int .u8 k, .int .u16 ch, .string (S.extract fr tq)] 40)
                    have hOd := (hO'.alloc_ (Obj.cells #[.bool fa, .bool fb, .bool false, .bool fe, .int .u8 t, .int .u8 k, .int .u16 ch, .string (S.extract fr tq)] 40))
                    have HOA : OwnG frC 40 (wi.alloc (Obj.cells #[.bool fa, .bool fb, .bool false, .bool fe, .int .u8 t, .int .u8 k, .int .u16 ch, .string (S.extract fr tq)] 40)).drew (w.heap.size + 1) (.slice A7 L'.length c7) L' := hOd.keep fun _ _ => rfl
                    clear hOd
                    go_region_held3 (fun w' => (w'.cell? ⟨w.heap.size, 0, none⟩ = some (.int .u16 ch) ∧ w'.cell? ⟨w.heap.size, 1, none⟩ = some (.int .u8 k) ∧ w'.cell? ⟨w.heap.size, 2, none⟩ = some (.slice (some ⟨d, o, none⟩) l.length c) ∧ w'.cell? ⟨d, o + j * 2, none⟩ = some (.int .u8 t))) (first | exact HKEEP.out _ hbd | exact HKEEP.out _ hbA | exact HKEEP.out _ hbA2 | exact HKEEP.out _ HB9.out)
                      ((refine step_appendG frC _ (by rfl) (.tmp 50) (.tmp 80) 37 (by rfl) (w.heap.size + 1) 40 (.agg #[.bool false, .bool false, .bool false, .bool false, .int .u8 0, .int .u8 0, .int .u16 0, .string ⟨#[]⟩]) 24 Try.underlying37 infoFr rfl (.slice A7 L'.length c7) L' (by rfl) HOA wi.heap.size (.slice (some ⟨wi.heap.size, 0, none⟩) 1 1) [⟨fa, fb, false, fe, t, k, ch, S.extract fr tq⟩] (by rfl) (ShowsG.lit (C := frC) [⟨fa, fb, false, fe, t, k, ch, S.extract fr tq⟩] (by simp [Code.all, frC, Fr.vs]) (by simp [maxLen])) (by simp; omega) (by simp; omega) (by simp; omega) ?_
                        intro v9 w9 ho9 hg9
                        have HB9 := Lib.hid (hbA.grown hg9 (by simp; omega) (fun q hq => (hO'.block q hq).1))))
                    all_goals
                      have hv1 := HV.out.1
                      have hv2 : v ≤ 20480 := by omega
                      have HVF := Lib.hid hv1
                      clear hv1 hbd hbA hbA2 HOA e1 e2 e3 e4 e5 w11 w12
                      go_wp2_with fail
                      go_roundw
                      case rel => exact ⟨v, L' ++ [⟨fa, fb, false, fe, t, k, ch, S.extract fr tq⟩], by first | rfl | (rw [show (fr : Int) + (n : Int) = (v : Int) by have := HVF.out; omega]), ho9, hv2, HNX, HB9⟩
                      case measure =>
                        have hv1 := HVF.out
                        simp [intOf]
                        omega
              · have hfin := HAl.out
                rw [if_neg hgo, List.nil_append] at hfin
                have g1 : ((fr : Int) == 0) = false := by rw [beq_eq_false_iff_ne]; omega
                have g2 : ¬ (fr : Int) < (S.size : Int) := by omega
                have HFIN := Lib.hid hfin
                clear hfin hgo
                go_wp2_with fail
                go_roundw
                case rel => exact ⟨j + 1, L', by omega, by go_num, hO', by rw [HRE.out]; exact HFIN.out, HB'⟩
                case measure => simp [intOf] <;> omega
          · have hjl : ¬ (j : Int) < (l.length : Int) := by omega
            have hfin : L = ALL := by
              rw [List.drop_of_length_le (by omega)] at hAll
              simpa [framesD] using hAll
            subst hfin
            go_wp2_with fail
            go_ret2
            exact ⟨_, rfl, hO.mono (by omega), HX1.out.2.trans (HB.out.mono (by omega))⟩
      · rw [if_pos hc] at hR
        subst hR
        rw [checkA_no hc] at HC
        clear hc
        go_enter Try.func22, Try.ntmps22
        go_wp2_with (go_at_call 24; refine (HC.out _ HX.out.2).mono ?_; rintro e w1 ⟨rfl, hb1⟩)
        go_ret2
        exact ⟨_, rfl, OwnG.nil_ _ _ _ _, HX.out.2.trans (hb1.mono HX.out.2.size)⟩

end Go.Proofs.Ytdjdhnopieeibaa
