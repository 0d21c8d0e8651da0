/-
  The contract of the document's own One: the record with which a text begins.
  Conditions: at most 2^47 bytes.
-/
import Derived.Test.YtmpcddljgcckcaaDoorRcB
import Derived.Test.YtmpcddljgcckcaaDoorRefRd
import Derived.WalkSpells
namespace Go.Proofs.YtmpcddljgcckcaaDoor
open Go.RowKit
open Crc (sealD okSeal sealD_length sealD_ok okSeal_iff openD Tab)
set_option linter.unusedVariables false
set_option linter.unusedSimpArgs false

/-- What One says: the record, how many bytes, what is left. -/
def oneV (l : List UInt8) : Value := if l = [] then .tuple #[.agg #[.int .u8 0, .string ⟨#[]⟩], .int .i64 0, .int .i64 0] else if stR l = 0 then .tuple #[(rcR l).v, .int .i64 (nAt l + 13 : Nat), .int .i64 0] else .tuple #[.agg #[.int .u8 0, .string ⟨#[]⟩], .int .i64 0, .int .i64 (stR l)]
def QOneSaid (l : List UInt8) (w : World) (e : Ending) (w' : World) : Prop := e = .returned (oneV l) ∧ Below w.heap.size w w'
theorem qone_bad {l : List UInt8} {k : Nat} (h0 : ¬ l = []) (h : stR l = k) (hk : k ≠ 0) : oneV l = .tuple #[.agg #[.int .u8 0, .string ⟨#[]⟩], .int .i64 0, .int .i64 k] := by
  rw [oneV, if_neg h0, if_neg (by rw [h]; exact hk), h]
theorem results_c3q {P : Program} {fn : Func} {p u v : Tmp} {ty : TypeId} (h : fn.results = #[.cell p ty, .tmp u, .tmp v]) (tmps : Array Value) (w : World) (g : Nat) (t : TypeId) (cs : Array Value) (fr : Nat × Nat) (d : TypeDesc)
    (hp : tmps.getD p undef = .pointer (some ⟨g, 0, none⟩)) (hg : w.heap[g]? = some (.cells cs t fr))
    (hu : P.underlying ty = some d) (hd : (match d with | .struct _ | .array _ _ => true | _ => false) = true) (hi : (P.info? ty).map (·.size) = some cs.size) :
    (results fn tmps).run P w = .ok (.tuple #[.agg cs, tmps.getD u undef, tmps.getD v undef]) w := by
  have hp' : tmps[p]?.getD undef = .pointer (some ⟨g, 0, none⟩) := by simpa using hp
  simp [results, h, hp', asAddr, run_loadVar_row w g t ty cs fr d hg hu hd hi]

set_option maxRecDepth 100000 in
set_option maxHeartbeats 4000000 in
theorem qone_any (s : ByteArray) (w : World) (hs : s.size ≤ 140737488355328) :
    Calls Tryd.prog 24 #[.string s] w (QOneSaid (sb s) w) := by
  have hlen := sb_length s
  have HLEN := Lib.hid hlen
  unfold QOneSaid
  obtain ⟨l, hl⟩ : ∃ l, l = sb s := ⟨_, rfl⟩
  have e9 : sb (s.extract 0 9) = l.take 9 := by rw [rc_sb_extract, hl, List.drop_zero]
  have eb : ∀ n, sb (s.extract 9 (n + 13)) = (l.drop 9).take (n + 4) := fun n => by rw [rc_sb_extract, ← hl, List.drop_take, show n + 13 - 9 = n + 4 by omega]
  have z9 : 9 ≤ s.size → (s.extract 0 9).size = 9 := fun h => by rw [← sb_length, e9, List.length_take, hl, hlen]; omega
  have zb : ∀ n, n + 13 ≤ s.size → (s.extract 9 (n + 13)).size = n + 4 := fun n h => by rw [← sb_length, eb, List.length_take, List.length_drop, hl, hlen]; omega
  have hll : l.length = s.size := by rw [hl, hlen]
  have E9 := Lib.hid e9
  have EB := Lib.hid eb
  have Z9 := Lib.hid z9
  have ZB := Lib.hid zb
  have HLS := Lib.hid hll
  rw [← hl]
  have hne0' : l = [] ↔ s.size = 0 := by rw [← hll]; exact List.length_eq_zero_iff.symm
  have htl : s.toList = l := by rw [sb_toList, hl]
  clear hl e9 eb z9 zb hlen HLEN hll
  obtain ⟨W0, hW0⟩ : ∃ W0, W0 = w.alloc (.cells #[.int .u8 0, .string ⟨#[]⟩] 33) := ⟨_, rfl⟩
  have HR := Lib.hid (fun wz (hb : Below W0.heap.size W0 wz) => rbox hW0 hb)
  have hb0 : Below w.heap.size w W0 := by rw [hW0]; exact (Below.refl _ _).alloc (Nat.le_refl _) _
  have hz0 : w.heap.size < W0.heap.size := by rw [hW0]; simp
  have HW0 := Lib.hid hW0
  clear hW0
  by_cases hne0 : l = []
  · have HA := Lib.hid (show oneV l = .tuple #[.agg #[.int .u8 0, .string ⟨#[]⟩], .int .i64 0, .int .i64 0] by rw [oneV, if_pos hne0])
    have hie : s.toList.isEmpty = true := by rw [htl, hne0]; rfl
    have hie2 : s.toList = [] := by rw [htl, hne0]
    obtain ⟨x0, x1, xf, xp⟩ := HR.out W0 (Below.refl _ _)
    have HXP := Lib.hid xp
    clear htl hne0 hne0' xp
    go_enter Tryd.func24, Tryd.ntmps24
    go_upto_region 1 with fail
    rw [← HW0.out]
    go_wp2_with fail
    refine bodyPost_ret (results_c3q rfl _ _ w.heap.size 33 _ (0, 0) _ rfl (HXP.out _ _).1 Tryd.underlying33 rfl (by kernel_rfl)) rfl ⟨by rw [HA.out]; rfl, (HXP.out _ _).2⟩
  have hie : s.toList.isEmpty = false := by rw [htl]; cases l with | nil => exact absurd rfl hne0 | cons _ _ => rfl
  have hie2 : ¬ s.toList = [] := by rw [htl]; exact hne0
  clear htl hne0'
  by_cases h9 : l.length < 9
  · have hst : stR l = 1 := by unfold stR; rw [if_pos h9]
    have HA := Lib.hid (qone_bad hne0 hst (by decide))
    have h9' : (s.size : Int) < 9 := by have := HLS.out; omega
    obtain ⟨x0, x1, xf, xp⟩ := HR.out W0 (Below.refl _ _)
    have HXP := Lib.hid xp
    clear hst h9 xp
    go_enter Tryd.func24, Tryd.ntmps24
    go_upto_region 1 with fail
    rw [← HW0.out]
    go_wp2_with fail
    refine bodyPost_ret (results_c3q rfl _ _ w.heap.size 33 _ (0, 0) _ rfl (HXP.out _ _).1 Tryd.underlying33 rfl (by kernel_rfl)) rfl ⟨by rw [HA.out]; rfl, (HXP.out _ _).2⟩
  · have h9' : ¬ (s.size : Int) < 9 := by have := HLS.out; omega
    have hs9 : 9 ≤ s.size := by omega
    have hz9 := Z9.out hs9
    obtain ⟨v1, w1, hcv, hs1, hb1⟩ := rc_tobytes W0 (s.extract 0 9) (by rw [hz9]; omega)
    rw [E9.out] at hs1
    have hB1 : Below w.heap.size w w1 := hb0.trans (hb1.mono hb0.size)
    have hz1 := hb1.size
    obtain ⟨A1, c1, rfl, _⟩ := id hs1
    have hl9 : (l.take 9).length = 9 := by simp; omega
    have HOP := Lib.hid (Crc.qopen_own A1 c1 _ W0.heap.size (l.take 9) w1 hs1 (by rw [hl9]; omega))
    rw [hl9] at hcv HOP
    clear hs1 hl9 hz9
    go_enter Tryd.func24, Tryd.ntmps24
    go_upto_region 1 with fail
    rw [← HW0.out]
    go_wp2_with fail
    with_reducible refine HOP.out.mono ?_
    rintro e w2 ⟨v2, rfl, hb2, ho2⟩
    have hB2 : Below W0.heap.size W0 w2 := hb1.trans (hb2.mono hz1)
    have hz2 := hb2.size
    by_cases ok : okSeal (l.take 9)
    · obtain ⟨f1, f2, f3, f4⟩ := first_nums l h9 ok
      have hd : decide (okSeal (l.take 9)) = true := decide_eq_true ok
      rw [hd]
      rw [f1] at ho2
      obtain ⟨n, hn⟩ : ∃ n, n = nAt l := ⟨_, rfl⟩
      have hn32 := nAt_lt l
      have hk1 := numOf1 l
      have hst : stR l = if 65536 < n then 2 else if l.length < n + 13 then 1 else if okSeal ((l.drop 9).take (n + 4)) then 0 else 2 := by
        unfold stR
        rw [if_neg h9, if_pos ok, ← hn]
      have hrc : stR l = 0 → rcR l = ⟨UInt8.ofNat (numOf (l.take 1)), str8 ((l.drop 9).take n)⟩ := fun h => by
        unfold rcR rcAt
        rw [if_pos h, ← hn]
      rw [← hn] at f4 hn32
      have hnl := hn
      have HNL := Lib.hid hnl.symm
      clear hn hnl hd
      obtain ⟨kk, hkk⟩ : ∃ kk, kk = numOf (l.take 1) := ⟨_, rfl⟩
      rw [← hkk] at f3 hk1 hrc
      clear hkk
      have HST := Lib.hid hst
      have HRC := Lib.hid hrc
      obtain ⟨kb, hkb⟩ : ∃ kb, kb = UInt8.ofNat kk := ⟨_, rfl⟩
      rw [← hkb] at hk1 hrc
      have HK1 := Lib.hid hk1
      have HRC := Lib.hid hrc
      clear hst hrc hk1 hkb
      obtain ⟨g2, hg2, hs2⟩ := ho2.shows
      have HF := Lib.hid (And.intro f3 f4)
      have HOPEN := Lib.hid (qopen_any v2 (l.take 5) g2 w2 hs2 (by rw [f2]; omega))
      have H5 := Lib.hid f2
      clear hs2 ho2 f1 f2 f3 f4 ok
      generalize l.take 5 = L5 at *
      go_wp2_with fail
      with_reducible refine HOPEN.out.mono ?_
      rintro e w3 ⟨g, d, rfl, hr3, hg3, hgd3, hb3⟩
      have hB3 : Below W0.heap.size W0 w3 := hB2.trans (hb3.mono (by omega))
      have hz3 := hb3.size
      have hn1 := qnum_any g d (some L5) 1 w3 hr3 (by show L5.length ≤ _; have := H5.out; omega)
      rw [HF.out.1] at hn1
      have HN1 := Lib.hid hn1
      clear hn1
      go_wp2_with fail
      with_reducible refine HN1.out.mono ?_
      rintro e w4 ⟨rfl, hr4, hgr4⟩
      have hB4 : Below W0.heap.size W0 w4 := hB3.trans (below_of_grown hgr4 (by omega) (by omega))
      have hz4 := hgr4.size
      have hn4 := qnum_any g d (some (L5.drop 1)) 4 w4 hr4 (by show (L5.drop 1).length ≤ _; have := H5.out; rw [List.length_drop]; omega)
      rw [HF.out.2] at hn4
      have HN4 := Lib.hid hn4
      clear hn4
      go_wp2_with fail
      with_reducible refine HN4.out.mono ?_
      rintro e w5 ⟨rfl, hr5, hgr5⟩
      have hB5 : Below W0.heap.size W0 w5 := hB4.trans (below_of_grown hgr5 (by omega) (by omega))
      have hz5 := hgr5.size
      clear hr5 hr4 hr3 hgr5 hgr4
      by_cases hbig : 65536 < n
      · have hst : stR l = 2 := by rw [HST.out, if_pos hbig]
        have HA := Lib.hid (qone_bad hne0 hst (by decide))
        have hb' : (65536 : Int) < (n : Int) := by omega
        clear hst
        obtain ⟨x0, x1, xf, xp⟩ := HR.out w5 hB5
        have HXP := Lib.hid xp
        clear xp
        go_wp2_with fail
        refine bodyPost_ret (results_c3q rfl _ _ w.heap.size 33 _ (0, 0) _ rfl (HXP.out _ _).1 Tryd.underlying33 rfl (by kernel_rfl)) rfl ⟨by rw [HA.out]; rfl, (HXP.out _ _).2⟩
      · have hb' : ¬ (65536 : Int) < (n : Int) := by omega
        obtain ⟨m, hm⟩ : ∃ m, m = n + 13 := ⟨_, rfl⟩
        have hmi : (n : Int) + 13 = (m : Int) := by omega
        have hm9 : 9 ≤ m := by omega
        have HM := Lib.hid hm
        clear hm
        by_cases hsh : s.size < m
        · have hst : stR l = 1 := by rw [HST.out, if_neg hbig, if_pos (by have := HLS.out; have := HM.out; omega)]
          have HA := Lib.hid (qone_bad hne0 hst (by decide))
          have hb2' : (s.size : Int) < (m : Int) := by omega
          clear hst
          obtain ⟨x0, x1, xf, xp⟩ := HR.out w5 hB5
          have HXP := Lib.hid xp
          clear xp
          go_wp2_with fail
          refine bodyPost_ret (results_c3q rfl _ _ w.heap.size 33 _ (0, 0) _ rfl (HXP.out _ _).1 Tryd.underlying33 rfl (by kernel_rfl)) rfl ⟨by rw [HA.out]; rfl, (HXP.out _ _).2⟩
        · have hb2' : ¬ (s.size : Int) < (m : Int) := by omega
          have hms : m ≤ s.size := by omega
          have hzb := ZB.out n (by have := HM.out; omega)
          have hsb := EB.out n
          rw [← HM.out] at hzb hsb
          obtain ⟨v7, w7, hcv7, hs7, hb7⟩ := rc_tobytes w5 (s.extract 9 m) (by rw [hzb]; omega)
          rw [hsb] at hs7
          have hB7 : Below W0.heap.size W0 w7 := hB5.trans (hb7.mono hB5.size)
          have hz7 := hb7.size
          obtain ⟨A7, c7, rfl, _⟩ := id hs7
          have hlb : ((l.drop 9).take (n + 4)).length = n + 4 := by rw [← hsb, sb_length, hzb]
          have HOP7 := Lib.hid (Crc.qopen_own A7 c7 _ w5.heap.size ((l.drop 9).take (n + 4)) w7 hs7 (by rw [hlb]; omega))
          rw [hlb] at hcv7 HOP7
          have HLB := Lib.hid hlb
          clear hs7 hlb hzb hsb
          obtain ⟨Z, hZ⟩ : ∃ Z, Z = (l.drop 9).take (n + 4) := ⟨_, rfl⟩
          have hz4 : Z.take n = (l.drop 9).take n := by rw [hZ, List.take_take]; congr 1; omega
          have HZ4 := Lib.hid hz4
          rw [← hZ] at HOP7 HLB
          have HST2 := Lib.hid (show stR l = if okSeal Z then 0 else 2 by rw [HST.out, if_neg hbig, if_neg (by have := HLS.out; have := HM.out; omega), hZ])
          clear hZ hz4
          go_wp2_with fail
          with_reducible refine HOP7.out.mono ?_
          rintro e w8 ⟨v8, rfl, hb8, ho8⟩
          have hB8 : Below W0.heap.size W0 w8 := hB7.trans (hb8.mono hB7.size)
          have hz8 := hb8.size
          by_cases ok2 : okSeal Z
          · have hd : decide (okSeal Z) = true := decide_eq_true ok2
            rw [hd]
            have hst : stR l = 0 := by rw [HST2.out, if_pos ok2]
            have hrc := HRC.out hst
            have hod : openD Z = (l.drop 9).take n := by
              unfold openD
              rw [if_pos ok2, HLB.out, show n + 4 - 4 = n by omega, HZ4.out]
            rw [hod] at ho8
            obtain ⟨g8, hg8, hs8⟩ := ho8.shows
            obtain ⟨D, hD⟩ : ∃ D, D = (l.drop 9).take n := ⟨_, rfl⟩
            rw [← hD] at hs8 hrc
            have hcv8 := conv_at hs8
            have HA := Lib.hid (show oneV l = .tuple #[.agg #[.int .u8 kb.toNat, .string (str8 D)], .int .i64 (m : Nat), .int .i64 0] from by rw [oneV, if_neg hne0, if_pos hst, hrc, HNL.out, ← HM.out]; rfl)
            have hk8 := HK1.out
            clear hd hst hrc hod ho8 hs8 hD ok2
            obtain ⟨x0, x1, xf, xp⟩ := HR.out w8 hB8
            have HXP := Lib.hid xp
            clear xp
            go_wp2_with fail
            refine bodyPost_ret (results_c3q rfl _ _ w.heap.size 33 _ (0, 0) _ rfl (HXP.out _ _).1 Tryd.underlying33 rfl (by kernel_rfl)) rfl ⟨by rw [HA.out]; rfl, (HXP.out _ _).2⟩
          · have hd : decide (okSeal Z) = false := decide_eq_false ok2
            rw [hd]
            have hst : stR l = 2 := by rw [HST2.out, if_neg ok2]
            have HA := Lib.hid (qone_bad hne0 hst (by decide))
            clear hd hst ok2 ho8
            obtain ⟨x0, x1, xf, xp⟩ := HR.out w8 hB8
            have HXP := Lib.hid xp
            clear xp
            go_wp2_with fail
            refine bodyPost_ret (results_c3q rfl _ _ w.heap.size 33 _ (0, 0) _ rfl (HXP.out _ _).1 Tryd.underlying33 rfl (by kernel_rfl)) rfl ⟨by rw [HA.out]; rfl, (HXP.out _ _).2⟩
    · have hd : decide (okSeal (l.take 9)) = false := decide_eq_false ok
      rw [hd]
      have hst : stR l = 2 := by unfold stR; rw [if_neg h9, if_neg ok]
      have HA := Lib.hid (qone_bad hne0 hst (by decide))
      clear hst hd ok ho2
      obtain ⟨x0, x1, xf, xp⟩ := HR.out w2 hB2
      have HXP := Lib.hid xp
      clear xp
      go_wp2_with fail
      refine bodyPost_ret (results_c3q rfl _ _ w.heap.size 33 _ (0, 0) _ rfl (HXP.out _ _).1 Tryd.underlying33 rfl (by kernel_rfl)) rfl ⟨by rw [HA.out]; rfl, (HXP.out _ _).2⟩

end Go.Proofs.YtmpcddljgcckcaaDoor
