/-
  RecordCut: for every row of records and every place the law returns true, and its arguments read as before; the table is tied to the program's text.
  Conditions: the package-level table reads as the program's own text lays it (the card ties it).
-/
import Derived.Test.YtmpcddljgcckcaaDoorRcR
import Derived.Test.YtmpcddljgcckcaaDoorCards
import Derived.Test.YtmpcddljgcckcaaDoorTie
namespace Go.Proofs.YtmpcddljgcckcaaDoor
open Go.ChangeShapes Go.WideShapes Go.ChangeAt Go.RowKit
open Go.ChangeMaps (open_string shut_string)
open Crc (sealD okSeal sealD_length sealD_ok okSeal_iff openD Tab tab)
set_option linter.unusedVariables false
set_option linter.unusedSimpArgs false

set_option maxRecDepth 100000 in
set_option maxHeartbeats 4000000 in
theorem cut_walk (A : Option Addr) (c d0 : Nat) (l : List Rc) (C : Nat) (w : World) (hT : Tab w) (h : ShowsG rcC w d0 (.slice A l.length c) l) (hl : l.length ≤ 17592186044416) (hC : C < 65536) :
    Calls Tryd.prog 6 #[.slice A l.length c, .int .u16 C] w fun e w' => e = .returned (.bool true) ∧ Below w.heap.size w w' := by
  have HT := Lib.hid (fun w' (hb : Below w.heap.size w w') => hT.below hb hT.1)
  have HL := Lib.hid (fun w' (hb : Below w.heap.size w w') => (h.keep hb.size fun hp => hb.block d0 (h.lt hp) : ShowsG rcC w' d0 (.slice A l.length c) l))
  have HG := Lib.hid (rgreat_any A c d0 l w h hl)
  clear h hT
  go_enter Tryd.func6, Tryd.ntmps6
  go_wp2_with fail
  with_reducible refine HG.out.mono ?_
  rintro e w1 ⟨b, rfl, rfl, hb0⟩
  cases b with
  | true =>
    have HH := Lib.hid (rhead_any w1 (HT.out w1 (Below.refl _ _)))
    go_wp2_with fail
    with_reducible refine HH.out.mono ?_
    rintro e w2 ⟨rfl, hb⟩
    go_wp2_with fail
    go_ret
    exact ⟨rfl, hb⟩
  | false =>
    obtain ⟨h40, hsz⟩ := hb0 rfl
    have h65 : ∀ r ∈ l, r.p.size ≤ 65536 := fun r hr => Nat.le_trans (hsz r hr) (by omega)
    have hN := recsB_len l 4000 hsz
    obtain ⟨N, hNe⟩ : ∃ N, N = (recsB l).length := ⟨_, rfl⟩
    rw [← hNe] at hN
    have hN2 : N ≤ 160520 := by omega
    have hss : (str8 (recsB l)).size = N := by rw [str8_size, hNe]
    have hsc := scan_put l [] h65
    rw [List.append_nil, scanR_nil, ← hNe] at hsc
    simp only [Nat.add_zero, List.append_nil] at hsc
    have HPUT := Lib.hid (rput_ok A c d0 l w1 (HT.out w1 (Below.refl _ _)) (HL.out w1 (Below.refl _ _)) (by omega) h65)
    have HSC := Lib.hid (fun W (hT : Tab W) => rscan_eq (str8 (recsB l)) l N 0 W hT (by omega) hsc)
    have HCUT := Lib.hid (fun (k at_ : Nat) (hk : k ≤ l.length) (h1 : (recsB (l.take k)).length ≤ at_) (h2 : at_ ≤ N) (h3 : k < l.length → at_ < (recsB (l.take (k + 1))).length) => show scanR ((recsB l).take at_) = (l.take k, (recsB (l.take k)).length, if at_ = (recsB (l.take k)).length then 0 else 1) from by
      have e := List.take_append_drop k l
      have := scan_cut (l.take k) (l.drop k) at_ (by rw [e]; exact h65) h1 (by rw [e, ← hNe]; exact h2) (fun r b' hb => by
        have hkl : k < l.length := by
          rcases Nat.lt_or_ge k l.length with hkl | hkl
          · exact hkl
          · rw [List.drop_of_length_le hkl] at hb; cases hb
        have h4 := h3 hkl
        rw [recsB_take_step l k hkl] at h4
        have : l[k] = r := by
          have := List.drop_eq_getElem_cons hkl
          rw [hb] at this
          exact (List.cons.inj this).1.symm
        rw [this] at h4
        exact h4)
      rw [e] at this
      exact this)
    have HSS := Lib.hid hss
    have HN := Lib.hid hNe
    have H65 := Lib.hid h65
    clear hN hNe hsc hsz h65 hb0
    obtain ⟨S, hS⟩ : ∃ S, S = str8 (recsB l) := ⟨_, rfl⟩
    have hS2 : S.size = N := by rw [hS]; exact hss
    rw [← hS] at HPUT HSC
    have HS := Lib.hid hS
    clear hS hss
    go_wp2_with fail
    with_reducible refine HPUT.out.mono ?_
    rintro e w2 ⟨rfl, hb2⟩
    go_wp2_with fail
    with_reducible refine (HSC.out w2 (HT.out _ hb2)).mono ?_
    rintro e w3 ⟨A3, c3, rfl, ho3, hb3⟩
    have hw3 : Below w1.heap.size w1 w3 := hb2.trans (hb3.mono hb2.size)
    obtain ⟨g3, hg3, hs3⟩ := ho3.shows
    have hsame := rsame_any A A3 c c3 d0 g3 l l w3 (HL.out w3 hw3) hs3 hl hl
    rw [decide_eq_true rfl] at hsame
    have HSAME := Lib.hid hsame
    clear hsame hs3 ho3
    have HSZ := Lib.hid hS2
    go_wp2_with (with_reducible refine HSAME.out.mono ?_; rintro e w4 ⟨rfl, hb4⟩)
    have hw4 : Below w1.heap.size w1 w4 := hw3.trans (hb4.mono hw3.size)
    have hat : (C : Int) % ((N : Int) + 1) = ((C % (N + 1) : Nat) : Int) := by simp
    rw [hat]
    clear hat
    have hatl : C % (N + 1) ≤ N := by have := Nat.mod_lt C (show 0 < N + 1 by omega); omega
    generalize C % (N + 1) = at_ at *
    clear hb2 hb3 hw3 hS2
    go_loopw [11, 12] (fun en wh wr => ∃ k q : Nat, k ≤ l.length ∧ wh = .int .i64 k ∧ en = .int .i64 q ∧ q ≤ at_ ∧ Hid (q = (recsB (l.take k)).length) ∧ wr = w4) (fun _ wh _ => l.length - (intOf wh).toNat)
    case atStart => exact ⟨0, 0, Nat.zero_le _, rfl, rfl, Nat.zero_le _, Lib.hid (by simp [recsB_nil]), rfl⟩
    case round =>
      obtain ⟨k, q, hk, rfl, rfl, hq, HQ, rfl⟩ := hrel
      have fin : ((k < l.length) → at_ < (recsB (l.take (k + 1))).length) → True := fun _ => trivial
      clear fin
      have HEND : Hid ((k < l.length → at_ < (recsB (l.take (k + 1))).length) → scanR ((recsB l).take at_) = (l.take k, q, if at_ = q then 0 else 1)) := Lib.hid fun h3 => by
        have := HCUT.out k at_ hk (by rw [← HQ.out]; exact hq) hatl h3
        rw [← HQ.out] at this
        exact this
      by_cases hlt : k < l.length
      · have hkl : (k : Int) < (l.length : Int) := by omega
        have HLw := HL.out wr hw4
        obtain ⟨o, rfl, _, hcl⟩ := HLw.at_ (by omega)
        obtain ⟨p0, p1⟩ := rc_cell hcl hlt
        have hstep := recsB_take_step l k hlt
        rw [← HQ.out] at hstep
        have hp4 : l[k].p.size ≤ 65536 := H65.out _ (List.getElem_mem hlt)
        clear hcl HLw
        generalize l[k] = r at *
        obtain ⟨K, p⟩ := r
        simp only [] at p0 p1 hstep hp4
        have HST := Lib.hid hstep
        clear hstep
        by_cases hfit : q + p.size + 13 ≤ at_
        · have hfi : (q : Int) + (p.size : Int) + 13 ≤ (at_ : Int) := by omega
          go_wp2_with fail
          go_roundw
          case rel => exact ⟨k + 1, q + p.size + 13, by omega, by go_num, by go_num, hfit, Lib.hid HST.out.symm, by trivial⟩
          case measure => simp [intOf]; omega
        · have hfi : ¬ (q : Int) + (p.size : Int) + 13 ≤ (at_ : Int) := by omega
          have hend := HEND.out (fun _ => by rw [HST.out]; omega)
          by_cases hz : at_ = q
          · subst hz
            have hsb : sb (S.extract 0 at_) = (recsB l).take at_ := by rw [rc_sb_extract, List.drop_zero, HS.out, sb_str8]
            have hez : (S.extract 0 at_).size ≤ 1000000 := by
              have := congrArg List.length hsb
              rw [sb_length, List.length_take] at this
              omega
            have hlk : (l.take k).length = k := by rw [List.length_take]; omega
            have HSC2 := Lib.hid (fun W (hT : Tab W) => rscan_len (S.extract 0 at_) (l.take k) k at_ 0 hlk W hT hez (by rw [hsb, hend]; simp))
            have HSA := Lib.hid (fun W (hb : Below w1.heap.size w1 W) (A4 : Option Addr) (c4 d4 : Nat) (h4 : ShowsG rcC W d4 (.slice A4 k c4) (l.take k)) => rsame_self A4 (some ⟨d0, o, none⟩) c4 c d4 d0 k (l.take k) hlk W h4 ((HL.out W hb).head hk) (by omega))
            have hatN : (at_ : Int) ≤ (N : Int) := by omega
            have hat0 : (0 : Int) ≤ (at_ : Int) := by omega
            have haS : at_ ≤ S.size := by rw [HSZ.out]; exact hatl
            have hkc : (k : Int) ≤ (c : Int) := by have := ((HL.out wr hw4).lens).2.1; omega
            clear hsb hez hlk hend
            go_wp2_with fail
            with_reducible refine (HSC2.out wr (HT.out _ hw4)).mono ?_
            rintro e w5 ⟨A5, c5, rfl, ho5, hb5⟩
            have hw5 : Below w1.heap.size w1 w5 := hw4.trans (hb5.mono hw4.size)
            obtain ⟨g5, _, hs5⟩ := ho5.shows
            have hsa := HSA.out w5 hw5 A5 c5 g5 hs5
            have HSA5 := Lib.hid hsa
            have HH := Lib.hid (fun W (hT : Tab W) => rhead_any W hT)
            have HTW := Lib.hid (fun W (hb : Below w5.heap.size w5 W) => HT.out W (hw5.trans (hb.mono hw5.size)))
            clear hsa hs5 ho5
            go_wp2_with (first
              | (with_reducible refine HSA5.out.mono ?_; rintro e w6 ⟨rfl, hb6⟩)
              | (with_reducible refine (HH.out w6 (HTW.out w6 hb6)).mono ?_; rintro e w7 ⟨rfl, hb7⟩))
            go_ret
            exact ⟨rfl, (hw5.trans (hb6.mono hw5.size)).trans (hb7.mono (hw5.trans (hb6.mono hw5.size)).size)⟩
          · have hsb : sb (S.extract 0 at_) = (recsB l).take at_ := by rw [rc_sb_extract, List.drop_zero, HS.out, sb_str8]
            have hez : (S.extract 0 at_).size ≤ 1000000 := by
              have := congrArg List.length hsb
              rw [sb_length, List.length_take] at this
              omega
            have hlk : (l.take k).length = k := by rw [List.length_take]; omega
            have HSC2 := Lib.hid (fun W (hT : Tab W) => rscan_len (S.extract 0 at_) (l.take k) k q 1 hlk W hT hez (by rw [hsb, hend]; simp [hz]))
            have HSA := Lib.hid (fun W (hb : Below w1.heap.size w1 W) (A4 : Option Addr) (c4 d4 : Nat) (h4 : ShowsG rcC W d4 (.slice A4 k c4) (l.take k)) => rsame_self A4 (some ⟨d0, o, none⟩) c4 c d4 d0 k (l.take k) hlk W h4 ((HL.out W hb).head hk) (by omega))
            have hatN : (at_ : Int) ≤ (N : Int) := by omega
            have hat0 : (0 : Int) ≤ (at_ : Int) := by omega
            have haS : at_ ≤ S.size := by rw [HSZ.out]; exact hatl
            have hzi : ¬ ((q : Int) = (at_ : Int)) := by omega
            have hzb : ((q : Int) == (at_ : Int)) = false := by simp; omega
            have hkc : (k : Int) ≤ (c : Int) := by have := ((HL.out wr hw4).lens).2.1; omega
            clear hsb hez hlk hend
            go_wp2_with fail
            with_reducible refine (HSC2.out wr (HT.out _ hw4)).mono ?_
            rintro e w5 ⟨A5, c5, rfl, ho5, hb5⟩
            have hw5 : Below w1.heap.size w1 w5 := hw4.trans (hb5.mono hw4.size)
            obtain ⟨g5, _, hs5⟩ := ho5.shows
            have hsa := HSA.out w5 hw5 A5 c5 g5 hs5
            have HSA5 := Lib.hid hsa
            have HH := Lib.hid (fun W (hT : Tab W) => rhead_any W hT)
            have HTW := Lib.hid (fun W (hb : Below w5.heap.size w5 W) => HT.out W (hw5.trans (hb.mono hw5.size)))
            clear hsa hs5 ho5
            go_wp2_with (first
              | (with_reducible refine HSA5.out.mono ?_; rintro e w6 ⟨rfl, hb6⟩)
              | (with_reducible refine (HH.out w6 (HTW.out w6 hb6)).mono ?_; rintro e w7 ⟨rfl, hb7⟩))
            go_ret
            exact ⟨rfl, (hw5.trans (hb6.mono hw5.size)).trans (hb7.mono (hw5.trans (hb6.mono hw5.size)).size)⟩
      · have hkl : ¬ (k : Int) < (l.length : Int) := by omega
        have hend := HEND.out (fun h => absurd h hlt)
        by_cases hz : at_ = q
        · subst hz
          have hsb : sb (S.extract 0 at_) = (recsB l).take at_ := by rw [rc_sb_extract, List.drop_zero, HS.out, sb_str8]
          have hez : (S.extract 0 at_).size ≤ 1000000 := by
            have := congrArg List.length hsb
            rw [sb_length, List.length_take] at this
            omega
          have hlk : (l.take k).length = k := by rw [List.length_take]; omega
          have HSC2 := Lib.hid (fun W (hT : Tab W) => rscan_len (S.extract 0 at_) (l.take k) k at_ 0 hlk W hT hez (by rw [hsb, hend]; simp))
          have HSA := Lib.hid (fun W (hb : Below w1.heap.size w1 W) (A4 : Option Addr) (c4 d4 : Nat) (h4 : ShowsG rcC W d4 (.slice A4 k c4) (l.take k)) => rsame_self A4 A c4 c d4 d0 k (l.take k) hlk W h4 ((HL.out W hb).head hk) (by omega))
          have hatN : (at_ : Int) ≤ (N : Int) := by omega
          have hat0 : (0 : Int) ≤ (at_ : Int) := by omega
          have haS : at_ ≤ S.size := by rw [HSZ.out]; exact hatl
          have hkc : (k : Int) ≤ (c : Int) := by have := ((HL.out wr hw4).lens).2.1; omega
          clear hsb hez hlk hend
          go_wp2_with fail
          with_reducible refine (HSC2.out wr (HT.out _ hw4)).mono ?_
          rintro e w5 ⟨A5, c5, rfl, ho5, hb5⟩
          have hw5 : Below w1.heap.size w1 w5 := hw4.trans (hb5.mono hw4.size)
          obtain ⟨g5, _, hs5⟩ := ho5.shows
          have hsa := HSA.out w5 hw5 A5 c5 g5 hs5
          have HSA5 := Lib.hid hsa
          have HH := Lib.hid (fun W (hT : Tab W) => rhead_any W hT)
          have HTW := Lib.hid (fun W (hb : Below w5.heap.size w5 W) => HT.out W (hw5.trans (hb.mono hw5.size)))
          clear hsa hs5 ho5
          go_wp2_with (first
            | (with_reducible refine HSA5.out.mono ?_; rintro e w6 ⟨rfl, hb6⟩)
            | (with_reducible refine (HH.out w6 (HTW.out w6 hb6)).mono ?_; rintro e w7 ⟨rfl, hb7⟩))
          go_ret
          exact ⟨rfl, (hw5.trans (hb6.mono hw5.size)).trans (hb7.mono (hw5.trans (hb6.mono hw5.size)).size)⟩
        · have hsb : sb (S.extract 0 at_) = (recsB l).take at_ := by rw [rc_sb_extract, List.drop_zero, HS.out, sb_str8]
          have hez : (S.extract 0 at_).size ≤ 1000000 := by
            have := congrArg List.length hsb
            rw [sb_length, List.length_take] at this
            omega
          have hlk : (l.take k).length = k := by rw [List.length_take]; omega
          have HSC2 := Lib.hid (fun W (hT : Tab W) => rscan_len (S.extract 0 at_) (l.take k) k q 1 hlk W hT hez (by rw [hsb, hend]; simp [hz]))
          have HSA := Lib.hid (fun W (hb : Below w1.heap.size w1 W) (A4 : Option Addr) (c4 d4 : Nat) (h4 : ShowsG rcC W d4 (.slice A4 k c4) (l.take k)) => rsame_self A4 A c4 c d4 d0 k (l.take k) hlk W h4 ((HL.out W hb).head hk) (by omega))
          have hatN : (at_ : Int) ≤ (N : Int) := by omega
          have hat0 : (0 : Int) ≤ (at_ : Int) := by omega
          have haS : at_ ≤ S.size := by rw [HSZ.out]; exact hatl
          have hzi : ¬ ((q : Int) = (at_ : Int)) := by omega
          have hzb : ((q : Int) == (at_ : Int)) = false := by simp; omega
          have hkc : (k : Int) ≤ (c : Int) := by have := ((HL.out wr hw4).lens).2.1; omega
          clear hsb hez hlk hend
          go_wp2_with fail
          with_reducible refine (HSC2.out wr (HT.out _ hw4)).mono ?_
          rintro e w5 ⟨A5, c5, rfl, ho5, hb5⟩
          have hw5 : Below w1.heap.size w1 w5 := hw4.trans (hb5.mono hw4.size)
          obtain ⟨g5, _, hs5⟩ := ho5.shows
          have hsa := HSA.out w5 hw5 A5 c5 g5 hs5
          have HSA5 := Lib.hid hsa
          have HH := Lib.hid (fun W (hT : Tab W) => rhead_any W hT)
          have HTW := Lib.hid (fun W (hb : Below w5.heap.size w5 W) => HT.out W (hw5.trans (hb.mono hw5.size)))
          clear hsa hs5 ho5
          go_wp2_with (first
            | (with_reducible refine HSA5.out.mono ?_; rintro e w6 ⟨rfl, hb6⟩)
            | (with_reducible refine (HH.out w6 (HTW.out w6 hb6)).mono ?_; rintro e w7 ⟨rfl, hb7⟩))
          go_ret
          exact ⟨rfl, (hw5.trans (hb6.mono hw5.size)).trans (hb7.mono (hw5.trans (hb6.mono hw5.size)).size)⟩

set_option maxRecDepth 100000 in
theorem cut_walk_lifted (os : Os) (started : os.Started) (H : Type) (enc : TypeId × Value → H) :
    ReturnsInHanded {} Tryd.checked os 6 .any (fun w args => (Rows.recordCutSpec.pre enc Tryd.prog Tryd.f6 [] false w args ∧ laidMetH Tryd.prog laid1 w) ∧ sizedMet enc Tryd.prog Tryd.f6 (OpenSpec.ofChange Rows.recordCutSpec) false w args)
      (Rows.recordCutSpec.post enc Tryd.prog Tryd.f6 false true false false) := by
  refine returnsInHanded_of_change_and (C := Tryd.checked) (X := fun w _ => laidMetH Tryd.prog laid1 w) (fun _ _ _ hh h => h.of_heap hh) own started (by kernel_rfl) Tryd.func6
    (ChangeSpec.witness_shaped (enc := enc) (C := Tryd.checked) (os := os) (X := fun w _ => laidMetH Tryd.prog laid1 w) false (World.doorLaid Tryd.prog 14 os) #[.slice none 0 0, .int .u16 0] 8 rfl (World.shaped_of_RefB (by kernel_rfl) (by kernel_rfl)) (by kernel_rfl) (by kernel_rfl) (by kernel_rfl) (door_met os _)) ?_
  intro W base args ds gs before hval0 hW _ hsz0 hL _
  have hval : ∀ (j : Nat) t v, Tryd.f6.params[j]? = some t → args[j]? = some v → Value.okWide Tryd.prog W .any base t v := hval0
  have hsz : (DataW.weightsEach Tryd.prog (Tryd.f6.params.toList ++ Rows.recordCutSpec.plain.varTypes Tryd.prog) (ds ++ gs)).all (· ≤ reachBytes) = true := hsz0
  have hW' := hW
  obtain ⟨p, q, hA0, hV, rfl, hfz, hnd⟩ := hW
  have hA : DataW.TrodAll enc Tryd.prog W 0 (fun _ => true) true Tryd.f6.params.toList args.toList ds p := hA0
  rw [Tryd.params6] at hA hval hsz
  obtain ⟨v0, vs0, d0, ds0, p0, q0, hargs, rfl, rfl, h0, r0⟩ := trodAll_cons hA
  obtain ⟨v1, vs1, d1, ds1, p1, q1, rfl, rfl, rfl, h1, r1⟩ := trodAll_cons r0
  obtain ⟨rfl, rfl, rfl⟩ := trodAll_nil r1
  obtain rfl : args = #[v0, v1] := by cases args; simp_all
  obtain ⟨rfl, rfl⟩ := trodVars_none hV
  have k0 := h0
  have lt0 : ∀ x ∈ p0, x.block < W.heap.size := by obtain ⟨m, hm⟩ := k0; exact DataW.trod_lt m _ _ _ hm
  have k1 := h1
  have lt1 : ∀ x ∈ p1, x.block < W.heap.size := by obtain ⟨m, hm⟩ := k1; exact DataW.trod_lt m _ _ _ hm
  obtain ⟨A0, c0, b0, L0, rfl, sh0, l0⟩ := open_recs (hval 0 22 v0 rfl rfl) h0 hsz 0 rfl rfl
  obtain ⟨s1, rfl, rfl, rfl, ws1⟩ := open_int Tryd.underlying42 (hval 1 42 v1 rfl rfl) h1
  obtain ⟨s10, s11⟩ := rc_u16_range ws1
  obtain ⟨S1, rfl⟩ := Int.eq_ofNat_of_zero_le s10
  clear hA0 hval0
  refine (cut_walk A0 c0 b0 L0 S1 W (tab_of_laid hL) sh0 (by omega) (by omega)).mono fun e W' ⟨he, bel⟩ => ?_
  subst he
  exact ⟨_, rfl, _, _, _, [], _, [], hW', trodAll_mk1 (shut_bool Tryd.underlying4 _), (trodAll_cons_mk (Below.trod laidOut (by kernel_rfl) (of_decide_eq_true (by kernel_rfl)) k0 bel lt0) (trodAll_cons_mk (Below.trod laidOut (by kernel_rfl) (of_decide_eq_true (by kernel_rfl)) k1 bel lt1) trodAll_mk0)), rfl, bel.frame _, fun h => by cases h⟩

theorem cut_walk_over : Rows.RecordCutSaid :=
  OpenClaim.holds_of_wide 6 Tryd.f6 rfl rfl rfl rfl rfl rfl rfl ⟨rfl, rfl, rfl, rfl, rfl⟩ rfl rfl rfl rfl rfl (by kernel_rfl) Tryd.func6 (by kernel_rfl)
    (of_decide_eq_true (by kernel_rfl)) (by unfold Func.isWrapper; first | (rw [if_pos (by decide +kernel)]; kernel_rfl) | (rw [if_neg (by decide +kernel)]; exact ⟨rfl, rfl⟩))
    (fun os started H enc _ => cut_walk_lifted os started H enc)

theorem recordCut_holds : Rows.RecordCutCardSaid :=
  Claim7.holds_tied_plain_at .later [] [.data] true (true, "a9d5fd1340711233ce61910b50a92aefee660ba42ae3caf9da3306c67fcf17ac") false
    cut_walk_over (fun _ h => by cases h) (by kernel_rfl) (fun _ h => by cases h) recordCut_row_tie rfl ⟨rfl, rfl⟩ (by kernel_rfl) rfl
    (fun f fn hf hfn => by
      obtain rfl : f = 6 := Option.some.inj ((show Tryd.prog.funcNamed "posthouse/posthouselaw11.RecordCut" = some 6 by kernel_rfl).symm.trans hf) |>.symm
      obtain rfl : fn = Tryd.f6 := (Option.some.inj (Tryd.func6.symm.trans hfn)).symm
      exact ⟨by kernel_rfl, fun j t ht => by
        rw [Tryd.params6] at ht
        have hm : t ∈ [22, 42] := by simpa using Array.mem_of_getElem? ht
        have hall : ([22, 42].all fun u => !Tryd.prog.wantsStandIn u) = true := by kernel_rfl
        exact (show Tryd.prog.wantsStandIn t = false by simpa using List.all_eq_true.1 hall t hm)⟩)
    (by kernel_rfl)
#print axioms recordCut_holds
end Go.Proofs.YtmpcddljgcckcaaDoor
