/-
  The contract of the document's own Put for records.
  Conditions: at most 1000 records of at most 70000 bytes each.
-/
import Derived.Test.YtmpcddljgcckcaaDoorRcQ
import Derived.Deep.CutBlock
import Derived.Deep.DeepCutAuto
import Derived.Laws.Concat
namespace Go.Proofs.YtmpcddljgcckcaaDoor
open Go.RowKit
open Crc (sealD okSeal sealD_length sealD_ok okSeal_iff openD Tab)
set_option linter.unusedVariables false
set_option linter.unusedSimpArgs false

/-- '[]byte(s)', at any world. -/
theorem bw_shows (W : World) (p : ByteArray) (hs : p.size ≤ 140737488355328) : Shows (Lib.bytesWorld W 5 p) W.heap.size (.slice (some ⟨W.heap.size, 0, none⟩) p.size (grownCap W p.size 0 5)) (sb p) := by
  refine ⟨_, _, by rw [sb_length], by rw [sb_length]; exact grownCap_ge _ _ _ _, grownCap_le_maxLen _ _ _ _ (by simp only [maxLen]; omega), fun hp => ⟨0, rfl, by rw [Lib.bytesWorld_size]; omega, fun j hj => ?_⟩⟩
  rw [Nat.zero_add, Lib.bytesWorld_cell _ _ _ _ (by rw [← sb_length]; exact hj)]
  have : p.data.toList = sb p := rfl
  rw [this]
  simp [u8c, List.getD, hj]
theorem bw_below (W : World) (p : ByteArray) : Below W.heap.size W (Lib.bytesWorld W 5 p) := ⟨rfl, rfl, rfl, by rw [Lib.bytesWorld_size]; omega, fun k hk => Lib.bytesWorld_at_old W _ p k hk⟩

/-- A step of the document's Put. -/
theorem str8_sum (a : ByteArray) (x y : List UInt8) : (a ++ str8 x) ++ str8 y = str8 (sb a ++ x ++ y) := by
  have h : ∀ (a : ByteArray) (x : List UInt8), a ++ str8 x = str8 (sb a ++ x) := fun a x => by
    apply ByteArray.ext
    simp [str8, sb]
  rw [h, h, sb_str8]

set_option maxRecDepth 100000 in
set_option maxHeartbeats 4000000 in
theorem qrput_any (A : Option Addr) (c d0 : Nat) (l : List Rc) (w : World) (h : ShowsG rcC w d0 (.slice A l.length c) l) (hn : l.length ≤ 1000) (hp : ∀ r ∈ l, r.p.size ≤ 70000) :
    Calls Tryd.prog 12 #[.slice A l.length c] w (RPutSaid l w) := by
  have HL := Lib.hid (fun w' (hb : Below w.heap.size w w') => (h.keep hb.size fun hp => hb.block d0 (h.lt hp) : ShowsG rcC w' d0 (.slice A l.length c) l))
  have HPZ := Lib.hid hp
  unfold RPutSaid
  clear h hp
  go_enter Tryd.func12, Tryd.ntmps12
  go_wp2_with fail
  go_loopw [4, 5] (fun x i wr => ∃ k : Nat, i = .int .i64 k ∧ k ≤ l.length ∧ x = .string (str8 (recsB (l.take k))) ∧ Hid (∀ r ∈ l.take k, r.p.size ≤ 65536) ∧ Hid (Below w.heap.size w wr)) (fun _ i _ => l.length - (intOf i).toNat)
  case atStart => exact ⟨0, rfl, Nat.zero_le _, rfl, Lib.hid (by simp), Lib.hid (Below.refl _ _)⟩
  case round =>
    obtain ⟨k, rfl, hk, rfl, HM1, HB⟩ := hrel
    rename World => wj
    by_cases hlt : k < l.length
    · have hki : (k : Int) < (l.length : Int) := by omega
      have HLj := HL.out wj HB.out
      obtain ⟨o, rfl, hd0, hcl⟩ := HLj.at_ (by omega)
      obtain ⟨c0, c1⟩ := rc_cell hcl hlt
      obtain ⟨r, hr⟩ : ∃ r, r = l[k] := ⟨_, rfl⟩
      have hrm : r ∈ l := by rw [hr]; exact List.getElem_mem hlt
      have hps := HPZ.out r hrm
      rw [← hr] at c0 c1
      have HTK := Lib.hid (show l.take (k + 1) = l.take k ++ [r] by rw [hr, List.take_succ_eq_append_getElem hlt])
      have HRL := Lib.hid hr
      have HLEN := Lib.hid (take_room l k hn HPZ.out)
      clear hr HLj hcl
      obtain ⟨K, p⟩ := r
      simp only [] at c0 c1 hps
      have hK := K.toNat_lt
      by_cases hbig : 65536 < p.size
      · have hans := putR_no hlt (by rw [← HRL.out]; exact hbig)
        have HA := Lib.hid hans
        clear hans
        have hbi : (65536 : Int) < (p.size : Int) := by omega
        go_wp2_with fail
        go_ret2
        exact ⟨by rw [HA.out]; rfl, HB.out⟩
      · have hbi : ¬ (65536 : Int) < (p.size : Int) := by omega
        have HHD := Lib.hid (fun W => qhead_any ⟨K, p⟩ W hps)
        simp only [Rc.v] at HHD
        have HP0 := Lib.hid (headP_length ⟨K, p⟩)
        obtain ⟨H, hH⟩ : ∃ H, H = headP ⟨K, p⟩ := ⟨_, rfl⟩
        rw [← hH] at HHD HP0
        have HHE := Lib.hid hH
        clear hH
        have hp47 : p.size ≤ 140737488355328 := by omega
        have hC0 : ∀ W, Below wj.heap.size wj W → W.cell? ⟨d0, o + k * 2, none⟩ = some (.int .u8 K.toNat) ∧ W.cell? ⟨d0, o + k * 2 + 1, none⟩ = some (.string p) := fun W hb =>
          ⟨(World.cell?_of_block (w := wj) (hb.block d0 hd0)).trans c0, (World.cell?_of_block (w := wj) (hb.block d0 hd0)).trans c1⟩
        have HC := Lib.hid hC0
        have HSEAL := Lib.hid (fun (A : Option Addr) (c d : Nat) (W : World) (hl : Shows W d (.slice A p.size c) (sb p)) => Crc.qseal_any A c p.size d (sb p) W (sb_length p) hl (by rw [sb_length]; omega))
        obtain ⟨SP, hSP⟩ : ∃ SP, SP = sealD (sb p) := ⟨_, rfl⟩
        have hSPl : SP.length = p.size + 4 := by rw [hSP, sealD_length, sb_length]
        rw [← hSP] at HSEAL
        obtain ⟨SH, hSH⟩ : ∃ SH, SH = sealD H := ⟨_, rfl⟩
        have hSHl : SH.length = 9 := by rw [hSH, sealD_length, HP0.out]
        rw [← hSH] at HHD
        have HSPL := Lib.hid hSPl
        have HSHL := Lib.hid hSHl
        have HSPE := Lib.hid (And.intro hSP hSH)
        clear hSP hSH hSPl hSHl hC0
        have b0 := below_drew1 (Below.refl wj.heap.size wj)
        have bb0 : Below wj.heap.size wj (Lib.bytesWorld wj.drew 5 p) := b0.trans (bw_below wj.drew p)
        have sh0 : Shows (Lib.bytesWorld wj.drew 5 p) wj.heap.size (.slice (some ⟨wj.heap.size, 0, none⟩) p.size (grownCap wj.drew p.size 0 5)) (sb p) := bw_shows wj.drew p hp47
        obtain ⟨k0, k1⟩ := HC.out wj.drew b0
        obtain ⟨l0, l1⟩ := HC.out (Lib.bytesWorld wj.drew 5 p) bb0
        have hcv2 : ∀ W, (convert 9 31 (.string p)).run Tryd.prog W = .ok (.slice (some ⟨W.heap.size, 0, none⟩) p.size (grownCap W p.size 0 5)) (Lib.bytesWorld W 5 p) := fun W =>
          Lib.run_convert_string_bytes W 9 31 5 p Tryd.underlying9 Tryd.underlying31 Tryd.underlying5
        have hbi2 : (p.size : Int) ≤ 65536 := by omega
        obtain ⟨X, hX⟩ : ∃ X, X = str8 (recsB (l.take k)) := ⟨_, rfl⟩
        have hXs : X.size ≤ 70013000 := by rw [hX, str8_size]; exact HLEN.out
        have HX := Lib.hid hX
        have HFIN := Lib.hid (show (X ++ str8 SH) ++ str8 SP = str8 (recsB (l.take (k + 1))) from by
          rw [hX, str8_sum, sb_str8, HTK.out, recsB_append, recsB_cons, recsB_nil, List.append_nil, recB, ← HHE.out, ← HSPE.out.1, ← HSPE.out.2, List.append_assoc])
        rw [← hX]
        have n1 : ¬ 9223372036854775807 < X.size + (str8 SH).size := by rw [str8_size, HSHL.out]; omega
        have n2 : ¬ 9223372036854775807 < X.size + (str8 SH).size + (str8 SP).size := by rw [str8_size, str8_size, HSHL.out, HSPL.out]; omega
        have n3 : ¬ 9223372036854775807 < (X ++ str8 SH).size + (str8 SP).size := by rw [ByteArray.size_append, str8_size, str8_size, HSHL.out, HSPL.out]; omega
        clear hX hXs
        go_upto_block 1 with fail
        go_cut [4] from 12 to 35 (fun x wx => x = .string (str8 (recsB (l.take (k + 1)))) ∧ Below wj.heap.size wj wx)
        case first =>
          go_wp2_with fail
          go_region_law (first
            | (go_simp; go_at_call 20
               with_reducible refine (HHD.out _).mono ?_
               rintro e wH ⟨vH, rfl, hoH, hbH⟩
               have bH : Below wj.heap.size wj wH := by
                 first
                   | exact bS.trans (hbH.mono bS.size)
                   | exact bb0.trans (hbH.mono bb0.size)
                   | exact b0.trans (hbH.mono b0.size)
               obtain ⟨gH, _, hsH⟩ := hoH.shows
               have hHlt := hsH.lt (by rw [HSHL.out]; omega)
               have hcH := conv_at hsH
               have hcHb := conv_at (hsH.below (bw_below wH p) hHlt)
               have shH := bw_shows wH p hp47
               have bbH : Below wj.heap.size wj (Lib.bytesWorld wH 5 p) := bH.trans ((bw_below wH p).mono bH.size)
               obtain ⟨m0, m1⟩ := HC.out wH bH
               obtain ⟨m2, m3⟩ := HC.out _ bbH
               first
                 | have hcS2 := conv_at (hsS.below hbH (hsS.lt (by rw [HSPL.out]; omega)))
                 | have sh1 := sh0.below hbH (by rw [Lib.bytesWorld_size]; exact Nat.lt_succ_self _)
                 | skip)
            | (go_simp; go_at_call 21
               first
               | (with_reducible refine (HSEAL.out _ _ _ _ sh0).mono ?_
                  rintro e wS ⟨vS, rfl, hoS, hbS⟩
                  have bS : Below wj.heap.size wj wS := bb0.trans (hbS.mono bb0.size)
                  obtain ⟨gS, _, hsS⟩ := hoS.shows
                  have hcS := conv_at hsS
                  obtain ⟨r0, r1⟩ := HC.out wS bS)
               | (with_reducible refine (HSEAL.out _ _ _ _ shH).mono ?_
                  rintro e wS ⟨vS, rfl, hoS, hbS⟩
                  have bS : Below wj.heap.size wj wS := bbH.trans (hbS.mono bbH.size)
                  obtain ⟨gS, _, hsS⟩ := hoS.shows
                  have hcS := conv_at hsS
                  obtain ⟨r0, r1⟩ := HC.out wS bS
                  have hcH2 := conv_at ((hsH.below (bw_below wH p) hHlt).below hbS (by rw [Lib.bytesWorld_size]; omega)))
               | (with_reducible refine (HSEAL.out _ _ _ _ sh1).mono ?_
                  rintro e wS ⟨vS, rfl, hoS, hbS⟩
                  have bS : Below wj.heap.size wj wS := bH.trans (hbS.mono bH.size)
                  obtain ⟨gS, _, hsS⟩ := hoS.shows
                  have hcS := conv_at hsS
                  obtain ⟨r0, r1⟩ := HC.out wS bS
                  have hcH2 := conv_at (hsH.below hbS hHlt))))
          all_goals
            go_wp2_with fail
            go_meet
            first
              | exact ⟨by rw [HFIN.out], bS⟩
              | exact ⟨by rw [HFIN.out], bH⟩
        case rest =>
          obtain ⟨rfl, hbx⟩ := hcut
          have HB7 := Lib.hid (HB.out.trans (hbx.mono HB.out.size))
          go_wp2_with fail
          go_roundw
          case rel =>
            refine ⟨k + 1, by go_num, by omega, rfl, Lib.hid ?_, HB7⟩
            intro x hx
            rw [HTK.out] at hx
            rcases List.mem_append.1 hx with hx | hx
            · exact HM1.out x hx
            · simp only [List.mem_singleton] at hx
              subst hx
              show p.size ≤ 65536
              omega
          case measure => simp [intOf]; omega
    · have hki : ¬ (k : Int) < (l.length : Int) := by omega
      have hke : k = l.length := by omega
      have htk : l.take k = l := by rw [hke, List.take_length]
      have HA := Lib.hid (putR_ok (fun r hr => HM1.out r (by rw [htk]; exact hr)))
      rw [htk]
      clear hke htk
      go_wp2_with fail
      go_ret2
      exact ⟨by rw [HA.out]; rfl, HB.out⟩

end Go.Proofs.YtmpcddljgcckcaaDoor
