/-
  The contract of record.first: the record with which a text begins.
  Conditions: the table reads as the program lays it; at most 2^47 bytes.
-/
import Derived.Test.YtmpcddljgcckcaaDoorRcA
import Derived.Test.YtmpcddljgcckcaaDoorOctE
import Derived.WalkSpells
namespace Go.Proofs.YtmpcddljgcckcaaDoor
open Go.RowKit
open Crc (sealD okSeal sealD_length sealD_ok okSeal_iff openD Tab)
set_option linter.unusedVariables false
set_option linter.unusedSimpArgs false

theorem results_c2 {P : Program} {fn : Func} {p u : Tmp} {ty : TypeId} (h : fn.results = #[.cell p ty, .tmp u]) (tmps : Array Value) (w : World) (g : Nat) (t : TypeId) (cs : Array Value) (fr : Nat × Nat) (d : TypeDesc)
    (hp : tmps.getD p undef = .pointer (some ⟨g, 0, none⟩)) (hg : w.heap[g]? = some (.cells cs t fr))
    (hu : P.underlying ty = some d) (hd : (match d with | .struct _ | .array _ _ => true | _ => false) = true) (hi : (P.info? ty).map (·.size) = some cs.size) :
    (results fn tmps).run P w = .ok (.tuple #[.agg cs, tmps.getD u undef]) w := by
  have hp' : tmps[p]?.getD undef = .pointer (some ⟨g, 0, none⟩) := by simpa using hp
  simp [results, h, hp', asAddr, run_loadVar_row w g t ty cs fr d hg hu hd hi]

theorem rc_sb_extract (s : ByteArray) (a b : Nat) : sb (s.extract a b) = ((sb s).take b).drop a := by
  simp [sb, ByteArray.data_extract, Array.toList_extract, List.extract, List.drop_take]

/-- The result's box, behind all that was done. -/
structure RBox (w : World) (wz : World) : Prop where
  c0 : wz.cell? ⟨w.heap.size, 0, none⟩ = some (.int .u8 0)
  c1 : wz.cell? ⟨w.heap.size, 1, none⟩ = some (.string ⟨#[]⟩)
  fz : ∀ i, wz.frozen? ⟨w.heap.size, i, none⟩ = false
  put : ∀ x y, ((wz.setCell ⟨w.heap.size, 0, none⟩ x).setCell ⟨w.heap.size, 1, none⟩ y).heap[w.heap.size]? = some (.cells #[x, y] 33 (0, 0)) ∧ Below w.heap.size w ((wz.setCell ⟨w.heap.size, 0, none⟩ x).setCell ⟨w.heap.size, 1, none⟩ y)

theorem rbox {w W0 wz : World} (h0 : W0 = w.alloc (.cells #[.int .u8 0, .string ⟨#[]⟩] 33)) (hb : Below W0.heap.size W0 wz) : RBox w wz := by
  have hz : W0.heap.size = w.heap.size + 1 := by rw [h0]; simp
  have hb0 : Below w.heap.size w W0 := by rw [h0]; exact (Below.refl _ _).alloc (Nat.le_refl _) _
  have hg : wz.heap[w.heap.size]? = some (.cells #[.int .u8 0, .string ⟨#[]⟩] 33 (0, 0)) := by rw [hb.block _ (by omega), h0]; exact heap_alloc_new w _
  refine ⟨by rw [cell_of_row _ _ 0 _ 33 (0, 0) hg]; rfl, by rw [cell_of_row _ _ 1 _ 33 (0, 0) hg]; rfl, fun i => frozen_of_row wz _ i _ 33 hg, fun x y => ⟨?_, ?_⟩⟩
  · simp [World.setCell, Array.getElem?_modify, hg]
  · exact below_set (below_set (hb0.trans (hb.mono (by omega))) (Nat.le_refl _) _) (Nat.le_refl _) _

theorem numS_k (q : Int) (k : Nat) (hq : num q = true) (hk : q = (k : Int)) (l : List UInt8) (hl : k ≤ l.length) : numS q (some l) = (numOf (l.take k), some (l.drop k)) := by
  subst hk
  unfold numS takeS
  rw [if_pos hq]
  simp only []
  rw [if_pos ⟨by omega, by omega⟩]
  simp

/-- What first says. -/
def FirstSaid (l : List UInt8) (w : World) (e : Ending) (w' : World) : Prop := e = .returned (.tuple #[(rcR l).v, .int .u8 (stR l)]) ∧ Below w.heap.size w w'
theorem rcR_ne {l : List UInt8} (h : stR l ≠ 0) : (rcR l).v = .agg #[.int .u8 0, .string ⟨#[]⟩] := by
  unfold rcR
  rw [if_neg h]
  rfl
theorem first_nums (l : List UInt8) (h : ¬ l.length < 9) (ok : okSeal (l.take 9)) : openD (l.take 9) = l.take 5 ∧ (l.take 5).length = 5 ∧ numS 1 (some (l.take 5)) = (numOf (l.take 1), some ((l.take 5).drop 1)) ∧ numS 4 (some ((l.take 5).drop 1)) = (nAt l, some []) := by
  have h5 : (l.take 5).length = 5 := by simp; omega
  refine ⟨?_, h5, ?_, ?_⟩
  · unfold openD
    rw [if_pos ok, List.length_take, show min 9 l.length - 4 = 5 by omega, List.take_take]
    rfl
  · rw [numS_k 1 1 (by decide) rfl _ (by omega), List.take_take]
    rfl
  · rw [numS_k 4 4 (by decide) rfl _ (by simp; omega)]
    unfold nAt
    have e1 : ((l.take 5).drop 1).take 4 = (l.drop 1).take 4 := by
      rw [List.drop_take, List.take_take]
      rfl
    have e2 : ((l.take 5).drop 1).drop 4 = [] := by
      rw [List.drop_drop, List.drop_of_length_le (by omega)]
    rw [e1, e2]
theorem numOf1 (l : List UInt8) : (numOf (l.take 1) : Int) % 256 = ((UInt8.ofNat (numOf (l.take 1))).toNat : Int) := by
  have := numOf_lt (l.take 1)
  simp

set_option maxRecDepth 100000 in
set_option maxHeartbeats 4000000 in
theorem first_any (s : ByteArray) (w : World) (hT : Tab w) (hs : s.size ≤ 140737488355328) :
    Calls Tryd.prog 22 #[.string s] w (FirstSaid (sb s) w) := by
  have hlen := sb_length s
  have HLEN := Lib.hid hlen
  unfold FirstSaid
  obtain ⟨l, hl⟩ : ∃ l, l = sb s := ⟨_, rfl⟩
  have e9 : sb (s.extract 0 9) = l.take 9 := by rw [rc_sb_extract, hl, List.drop_zero]
  have eb : ∀ n, sb (s.extract 9 (n + 13)) = (l.drop 9).take (n + 4) := fun n => by rw [rc_sb_extract, ← hl, List.drop_take, show n + 13 - 9 = n + 4 by omega]
  have z9 : 9 ≤ s.size → (s.extract 0 9).size = 9 := fun h => by rw [← sb_length, e9, List.length_take, hl, hlen]; omega
  have zb : ∀ n, n + 13 ≤ s.size → (s.extract 9 (n + 13)).size = n + 4 := fun n h => by rw [← sb_length, eb, List.length_take, List.length_drop, hl, hlen]; omega
  have hll : l.length = s.size := by rw [hl, hlen]
  have E9 := Lib.hid e9
  have EB := Lib.hid eb
  have Z9 := Lib.hid z9
  have ZB := Lib.hid zb
  have HT := Lib.hid (fun w' (hb : Below w.heap.size w w') => hT.below hb hT.1)
  have HLS := Lib.hid hll
  rw [← hl]
  clear hl e9 eb z9 zb hT hlen HLEN hll
  obtain ⟨W0, hW0⟩ : ∃ W0, W0 = w.alloc (.cells #[.int .u8 0, .string ⟨#[]⟩] 33) := ⟨_, rfl⟩
  have HR := Lib.hid (fun wz (hb : Below W0.heap.size W0 wz) => rbox hW0 hb)
  have hb0 : Below w.heap.size w W0 := by rw [hW0]; exact (Below.refl _ _).alloc (Nat.le_refl _) _
  have hz0 : w.heap.size < W0.heap.size := by rw [hW0]; simp
  have HW0 := Lib.hid hW0
  clear hW0
  by_cases h9 : l.length < 9
  · have hst : stR l = 1 := by unfold stR; rw [if_pos h9]
    have HA := Lib.hid (show (rcR l).v = .agg #[.int .u8 0, .string ⟨#[]⟩] ∧ stR l = 1 from ⟨rcR_ne (by rw [hst]; decide), hst⟩)
    have h9' : (s.size : Int) < 9 := by have := HLS.out; omega
    obtain ⟨x0, x1, xf, xp⟩ := HR.out W0 (Below.refl _ _)
    have HXP := Lib.hid xp
    clear hst h9 xp
    go_enter Tryd.func22, Tryd.ntmps22
    go_upto_region 1 with fail
    rw [← HW0.out]
    go_wp2_with fail
    refine bodyPost_ret (results_c2 rfl _ _ w.heap.size 33 _ (0, 0) _ rfl (HXP.out _ _).1 Tryd.underlying33 rfl (by kernel_rfl)) rfl ⟨by rw [HA.out.1, HA.out.2]; rfl, (HXP.out _ _).2⟩
  · have h9' : ¬ (s.size : Int) < 9 := by have := HLS.out; omega
    have hs9 : 9 ≤ s.size := by omega
    have hz9 := Z9.out hs9
    obtain ⟨v1, w1, hcv, hs1, hb1⟩ := rc_tobytes W0 (s.extract 0 9) (by rw [hz9]; omega)
    rw [E9.out] at hs1
    have hB1 : Below w.heap.size w w1 := hb0.trans (hb1.mono hb0.size)
    have hz1 := hb1.size
    obtain ⟨A1, c1, rfl, _⟩ := id hs1
    have hl9 : (l.take 9).length = 9 := by simp; omega
    have HOP := Lib.hid (Crc.open_own A1 c1 _ W0.heap.size (l.take 9) w1 (HT.out w1 hB1) hs1 (by rw [hl9]; omega))
    rw [hl9] at hcv HOP
    clear hs1 hl9 hz9
    go_enter Tryd.func22, Tryd.ntmps22
    go_upto_region 1 with fail
    rw [← HW0.out]
    go_wp2_with fail
    with_reducible refine HOP.out.mono ?_
    rintro e w2 ⟨v2, rfl, hb2, ho2⟩
    have hB2 : Below W0.heap.size W0 w2 := hb1.trans (hb2.mono hz1)
    have hz2 := hb2.size
    by_cases ok : okSeal (l.take 9)
    · obtain ⟨f1, f2, f3, f4⟩ := first_nums l h9 ok
      have hd : decide (okSeal (l.take 9)) = true := decide_eq_true ok
      rw [hd]
      rw [f1] at ho2
      obtain ⟨n, hn⟩ : ∃ n, n = nAt l := ⟨_, rfl⟩
      have hn32 := nAt_lt l
      have hk1 := numOf1 l
      have hst : stR l = if 65536 < n then 2 else if l.length < n + 13 then 1 else if okSeal ((l.drop 9).take (n + 4)) then 0 else 2 := by
        unfold stR
        rw [if_neg h9, if_pos ok, ← hn]
      have hrc : stR l = 0 → rcR l = ⟨UInt8.ofNat (numOf (l.take 1)), str8 ((l.drop 9).take n)⟩ := fun h => by
        unfold rcR rcAt
        rw [if_pos h, ← hn]
      rw [← hn] at f4 hn32
      clear hn hd
      obtain ⟨kk, hkk⟩ : ∃ kk, kk = numOf (l.take 1) := ⟨_, rfl⟩
      rw [← hkk] at f3 hk1 hrc
      clear hkk
      have HST := Lib.hid hst
      have HRC := Lib.hid hrc
      obtain ⟨kb, hkb⟩ : ∃ kb, kb = UInt8.ofNat kk := ⟨_, rfl⟩
      rw [← hkb] at hk1 hrc
      have HK1 := Lib.hid hk1
      have HRC := Lib.hid hrc
      clear hst hrc hk1 hkb
      obtain ⟨g2, hg2, hs2⟩ := ho2.shows
      have HF := Lib.hid (And.intro f3 f4)
      have HOPEN := Lib.hid (open_any v2 (l.take 5) g2 w2 hs2 (by rw [f2]; omega))
      have H5 := Lib.hid f2
      clear hs2 ho2 f1 f2 f3 f4 ok
      generalize l.take 5 = L5 at *
      go_wp2_with fail
      with_reducible refine HOPEN.out.mono ?_
      rintro e w3 ⟨g, d, rfl, hr3, hg3, hgd3, hb3⟩
      have hB3 : Below W0.heap.size W0 w3 := hB2.trans (hb3.mono (by omega))
      have hz3 := hb3.size
      have hn1 := num_any g d (some L5) 1 w3 hr3 (by show L5.length ≤ _; have := H5.out; omega)
      rw [HF.out.1] at hn1
      have HN1 := Lib.hid hn1
      clear hn1
      go_wp2_with fail
      with_reducible refine HN1.out.mono ?_
      rintro e w4 ⟨rfl, hr4, hgr4⟩
      have hB4 : Below W0.heap.size W0 w4 := hB3.trans (below_of_grown hgr4 (by omega) (by omega))
      have hz4 := hgr4.size
      have hn4 := num_any g d (some (L5.drop 1)) 4 w4 hr4 (by show (L5.drop 1).length ≤ _; have := H5.out; rw [List.length_drop]; omega)
      rw [HF.out.2] at hn4
      have HN4 := Lib.hid hn4
      clear hn4
      go_wp2_with fail
      with_reducible refine HN4.out.mono ?_
      rintro e w5 ⟨rfl, hr5, hgr5⟩
      have hB5 : Below W0.heap.size W0 w5 := hB4.trans (below_of_grown hgr5 (by omega) (by omega))
      have hz5 := hgr5.size
      clear hr5 hr4 hr3 hgr5 hgr4
      by_cases hbig : 65536 < n
      · have hst : stR l = 2 := by rw [HST.out, if_pos hbig]
        have HA := Lib.hid (show (rcR l).v = .agg #[.int .u8 0, .string ⟨#[]⟩] ∧ stR l = 2 from ⟨rcR_ne (by rw [hst]; decide), hst⟩)
        have hb' : (65536 : Int) < (n : Int) := by omega
        clear hst
        obtain ⟨x0, x1, xf, xp⟩ := HR.out w5 hB5
        have HXP := Lib.hid xp
        clear xp
        go_wp2_with fail
        refine bodyPost_ret (results_c2 rfl _ _ w.heap.size 33 _ (0, 0) _ rfl (HXP.out _ _).1 Tryd.underlying33 rfl (by kernel_rfl)) rfl ⟨by rw [HA.out.1, HA.out.2]; rfl, (HXP.out _ _).2⟩
      · have hb' : ¬ (65536 : Int) < (n : Int) := by omega
        have HSZ := Lib.hid (fun W => size_len n W (by omega))
        go_wp2_with fail
        with_reducible refine (HSZ.out _).mono ?_
        rintro e w6 ⟨rfl, rfl⟩
        obtain ⟨m, hm⟩ : ∃ m, m = n + 13 := ⟨_, rfl⟩
        rw [← hm]
        have hm9 : 9 ≤ m := by omega
        have HM := Lib.hid hm
        clear hm
        by_cases hsh : s.size < m
        · have hst : stR l = 1 := by rw [HST.out, if_neg hbig, if_pos (by have := HLS.out; have := HM.out; omega)]
          have HA := Lib.hid (show (rcR l).v = .agg #[.int .u8 0, .string ⟨#[]⟩] ∧ stR l = 1 from ⟨rcR_ne (by rw [hst]; decide), hst⟩)
          have hb2' : (s.size : Int) < (m : Int) := by omega
          clear hst
          obtain ⟨x0, x1, xf, xp⟩ := HR.out w6 hB5
          have HXP := Lib.hid xp
          clear xp
          go_wp2_with fail
          refine bodyPost_ret (results_c2 rfl _ _ w.heap.size 33 _ (0, 0) _ rfl (HXP.out _ _).1 Tryd.underlying33 rfl (by kernel_rfl)) rfl ⟨by rw [HA.out.1, HA.out.2]; rfl, (HXP.out _ _).2⟩
        · have hb2' : ¬ (s.size : Int) < (m : Int) := by omega
          have hms : m ≤ s.size := by omega
          have hzb := ZB.out n (by have := HM.out; omega)
          have hsb := EB.out n
          rw [← HM.out] at hzb hsb
          obtain ⟨v7, w7, hcv7, hs7, hb7⟩ := rc_tobytes w6 (s.extract 9 m) (by rw [hzb]; omega)
          rw [hsb] at hs7
          have hB7 : Below W0.heap.size W0 w7 := hB5.trans (hb7.mono hB5.size)
          have hz7 := hb7.size
          obtain ⟨A7, c7, rfl, _⟩ := id hs7
          have hlb : ((l.drop 9).take (n + 4)).length = n + 4 := by rw [← hsb, sb_length, hzb]
          have HOP7 := Lib.hid (Crc.open_own A7 c7 _ w6.heap.size ((l.drop 9).take (n + 4)) w7 (HT.out w7 (hb0.trans (hB7.mono hb0.size))) hs7 (by rw [hlb]; omega))
          rw [hlb] at hcv7 HOP7
          have HLB := Lib.hid hlb
          clear hs7 hlb hzb hsb
          obtain ⟨Z, hZ⟩ : ∃ Z, Z = (l.drop 9).take (n + 4) := ⟨_, rfl⟩
          have hz4 : Z.take n = (l.drop 9).take n := by rw [hZ, List.take_take]; congr 1; omega
          have HZ4 := Lib.hid hz4
          rw [← hZ] at HOP7 HLB
          have HST2 := Lib.hid (show stR l = if okSeal Z then 0 else 2 by rw [HST.out, if_neg hbig, if_neg (by have := HLS.out; have := HM.out; omega), hZ])
          clear hZ hz4
          go_wp2_with fail
          with_reducible refine HOP7.out.mono ?_
          rintro e w8 ⟨v8, rfl, hb8, ho8⟩
          have hB8 : Below W0.heap.size W0 w8 := hB7.trans (hb8.mono hB7.size)
          have hz8 := hb8.size
          by_cases ok2 : okSeal Z
          · have hd : decide (okSeal Z) = true := decide_eq_true ok2
            rw [hd]
            have hst : stR l = 0 := by rw [HST2.out, if_pos ok2]
            have hrc := HRC.out hst
            have hod : openD Z = (l.drop 9).take n := by
              unfold openD
              rw [if_pos ok2, HLB.out, show n + 4 - 4 = n by omega, HZ4.out]
            rw [hod] at ho8
            obtain ⟨g8, hg8, hs8⟩ := ho8.shows
            obtain ⟨D, hD⟩ : ∃ D, D = (l.drop 9).take n := ⟨_, rfl⟩
            rw [← hD] at hs8 hrc
            have hcv8 := conv_at hs8
            have HA := Lib.hid (show (rcR l).v = .agg #[.int .u8 kb.toNat, .string (str8 D)] ∧ stR l = 0 from ⟨by rw [hrc]; rfl, hst⟩)
            have hk8 := HK1.out
            clear hd hst hrc hod ho8 hs8 hD ok2
            obtain ⟨x0, x1, xf, xp⟩ := HR.out w8 hB8
            have HXP := Lib.hid xp
            clear xp
            go_wp2_with fail
            refine bodyPost_ret (results_c2 rfl _ _ w.heap.size 33 _ (0, 0) _ rfl (HXP.out _ _).1 Tryd.underlying33 rfl (by kernel_rfl)) rfl ⟨by rw [HA.out.1, HA.out.2]; rfl, (HXP.out _ _).2⟩
          · have hd : decide (okSeal Z) = false := decide_eq_false ok2
            rw [hd]
            have hst : stR l = 2 := by rw [HST2.out, if_neg ok2]
            have HA := Lib.hid (show (rcR l).v = .agg #[.int .u8 0, .string ⟨#[]⟩] ∧ stR l = 2 from ⟨rcR_ne (by rw [hst]; decide), hst⟩)
            clear hd hst ok2 ho8
            obtain ⟨x0, x1, xf, xp⟩ := HR.out w8 hB8
            have HXP := Lib.hid xp
            clear xp
            go_wp2_with fail
            refine bodyPost_ret (results_c2 rfl _ _ w.heap.size 33 _ (0, 0) _ rfl (HXP.out _ _).1 Tryd.underlying33 rfl (by kernel_rfl)) rfl ⟨by rw [HA.out.1, HA.out.2]; rfl, (HXP.out _ _).2⟩
    · have hd : decide (okSeal (l.take 9)) = false := decide_eq_false ok
      rw [hd]
      have hst : stR l = 2 := by unfold stR; rw [if_neg h9, if_neg ok]
      have HA := Lib.hid (show (rcR l).v = .agg #[.int .u8 0, .string ⟨#[]⟩] ∧ stR l = 2 from ⟨rcR_ne (by rw [hst]; decide), hst⟩)
      clear hst hd ok ho2
      obtain ⟨x0, x1, xf, xp⟩ := HR.out w2 hB2
      have HXP := Lib.hid xp
      clear xp
      go_wp2_with fail
      refine bodyPost_ret (results_c2 rfl _ _ w.heap.size 33 _ (0, 0) _ rfl (HXP.out _ _).1 Tryd.underlying33 rfl (by kernel_rfl)) rfl ⟨by rw [HA.out.1, HA.out.2]; rfl, (HXP.out _ _).2⟩

end Go.Proofs.YtmpcddljgcckcaaDoor
