/-
  DiskKeeps: for all rows of calls and of numbers the law returns true, and its arguments read as before.
  Conditions: none.
-/
import Derived.Test.YtngjmeohleoglaaDKa
import Derived.Deep.CutBlock
import Derived.Deep.RegionHeld3
import Derived.WalkSpells
import Derived.WalkMore
namespace Go.Proofs.Ytngjmeohleoglaa
open Go.ChangeShapes Go.WideShapes Go.ChangeAt Go.RowKit Go.Shelf
set_option linter.unusedVariables false
set_option linter.unusedSimpArgs false
set_option maxRecDepth 100000

theorem head_here (w0 w : World) (base : Nat) (hb : Below base w0 w) (hf : base ≤ w.heap.size) : Calls Try.prog 10 #[] w fun e w' => e = .returned (.bool true) ∧ Below base w0 w' :=
  (head_any w).mono fun _ _ ⟨h1, h2⟩ => ⟨h1, hb.trans (h2.mono hf)⟩
theorem LiveD.more {w0 w : World} {base nb n : Nat} {st : DD} (h : LiveD w0 base nb n st w) : LiveD w0 base nb (n + 1) st w := ⟨h.disk, h.bel, h.fit, h.wf.more⟩

set_option maxHeartbeats 8000000 in
theorem dkeeps_walk (A : Option Addr) (c d0 : Nat) (l0 : List ActE) (B : Option Addr) (cc dk1 : Nat) (keep : List Int) (w : World) (h : ShowsG actC w d0 (.slice A l0.length c) l0) (hl : l0.length ≤ 1954687338211) (hok : ∀ e ∈ l0, e.ok w) (h2 : ShowsG intC w dk1 (.slice B keep.length cc) keep) (hl2 : keep.length ≤ 17592186043904) (hlt2 : 0 < keep.length → dk1 < w.heap.size) (hz2 : keep.length = 0 → dk1 = 0) :
    Calls Try.prog 4 #[.slice A l0.length c, .slice B keep.length cc] w fun e w' => e = .returned (.bool true) ∧ Below w.heap.size w w' := by
  have HL0 := Lib.hid (fun w' (hb : Below w.heap.size w w') => (h.keep hb.size fun hp => hb.block d0 (h.lt hp) : ShowsG actC w' d0 (.slice A l0.length c) l0))
  have HOK0 := Lib.hid hok
  have HD0 := Lib.hid (fun hp => h.lt hp)
  have HKS := Lib.hid (fun w' (hb : Below w.heap.size w w') => (h2.keep hb.size fun hp => hb.block dk1 (hlt2 hp) : ShowsG intC w' dk1 (.slice B keep.length cc) keep))
  have HKB := Lib.hid hlt2
  obtain ⟨R, hR⟩ : ∃ R, R = (1000 : Int).toNat := ⟨_, rfl⟩
  have HN := Lib.hid (new_any 1000 w)
  rw [← hR] at HN
  have hR9 : R ≤ 9223372036854775807 := by rw [hR]; decide
  have HQ0 := fun W => qnew_any 0 W
  simp only [Int.toNat_zero] at HQ0
  have HQ := Lib.hid HQ0
  have HLN := Lib.hid (new_live R w hR9)
  clear h hok h2 hlt2 hz2 hR HQ0
  go_enter Try.func4, Try.ntmps4
  go_wp2_with fail
  with_reducible refine HN.out.mono ?_
  rintro e wa ⟨rfl, rfl⟩
  have hLN := HLN.out
  simp only [World.size_alloc]
  generalize World.alloc (World.alloc w _) _ = w0 at *
  have HLN2 := Lib.hid hLN
  clear hLN HLN HN
  go_wp2_with fail
  go_loopw [6] (fun ii wr => ∃ (i : Nat) (st : DD), ii = .int .i64 i ∧ i ≤ l0.length ∧ i ≤ 40 ∧ Hid (LiveD w w.heap.size (w.heap.size + 1) i st wr) ∧ Hid (still st)) (fun ii _ => l0.length - (intOf ii).toNat)
  case atStart => exact ⟨0, _, rfl, Nat.zero_le _, by omega, HLN2, Lib.hid ⟨rfl, rfl⟩⟩
  case round =>
    obtain ⟨i, st, rfl, hi, h40, HB, HST⟩ := hrel
    rename World => wj
    have hbel := HB.out.bel
    have hfit := HB.out.fit
    have hcs : (i < l0.length ∧ i < 40) ∨ (i < l0.length ∧ ¬ i < 40) ∨ ¬ i < l0.length := by omega
    rcases hcs with ⟨hlt, hlt4⟩ | hcs
    · have hli : (i : Int) < (l0.length : Int) := by omega
      · have hl4 : (i : Int) < 40 := by omega
        have HLj := HL0.out wj hbel
        obtain ⟨o, rfl, hd0, hcl⟩ := HLj.at_ (by omega)
        obtain ⟨c0, c1, c2, c3, c4⟩ := act_cell hcl hlt
        have hokx := HOK0.out _ (List.getElem_mem hlt)
        have hdw : d0 < w.heap.size := HD0.out (by omega)
        obtain ⟨e, he⟩ : ∃ e, e = l0[i] := ⟨_, rfl⟩
        rw [← he] at c0 c1 c2 c3 c4 hokx
        clear he hcl HLj
        obtain ⟨x, Ak, ck, dk⟩ := e
        obtain ⟨k1, k2, k3, k4, k5, k6, k7, k8⟩ := hokx
        simp only [] at c0 c1 c2 c3 c4 k1 k2 k3 k4 k5 k6 k7 k8
        have hdk : dk < w.heap.size := by
          rcases Nat.eq_zero_or_pos x.keep.length with hz | hz
          · rw [k8 hz]; omega
          · exact k7 hz
        have hC := fun W (hb : Below w.heap.size w W) => show W.cell? ⟨d0, o + i * 5, none⟩ = some (.int .u8 (x.what : Nat)) ∧ W.cell? ⟨d0, o + i * 5 + 1, none⟩ = some (.string (str8 x.name)) ∧ W.cell? ⟨d0, o + i * 5 + 2, none⟩ = some (.string (str8 x.«to»)) ∧ W.cell? ⟨d0, o + i * 5 + 3, none⟩ = some (.int .i64 x.n) ∧ W.cell? ⟨d0, o + i * 5 + 4, none⟩ = some (.slice Ak x.keep.length ck) from
          ⟨(World.cell?_of_block (w := wj) ((hb.block d0 (by omega)).trans (hbel.block d0 (by omega)).symm)).trans c0, (World.cell?_of_block (w := wj) ((hb.block d0 (by omega)).trans (hbel.block d0 (by omega)).symm)).trans c1, (World.cell?_of_block (w := wj) ((hb.block d0 (by omega)).trans (hbel.block d0 (by omega)).symm)).trans c2, (World.cell?_of_block (w := wj) ((hb.block d0 (by omega)).trans (hbel.block d0 (by omega)).symm)).trans c3, (World.cell?_of_block (w := wj) ((hb.block d0 (by omega)).trans (hbel.block d0 (by omega)).symm)).trans c4⟩
        have HC := Lib.hid hC
        have HG := Lib.hid (great_any x Ak ck wj)
        have HDO := Lib.hid (fun W qb (hB : Both w w.heap.size (w.heap.size + 1) qb (fun _ => False) i 0 st ⟨0, 0, false, []⟩ W) => does_any hB (by omega) (by omega) (fun _ hk => hk.elim) x k1 (by omega) (by omega) k4.2 Ak x.keep.length ck dk k5 hdk (Nat.le_refl _) (by omega))
        have HK := Lib.hid (And.intro k1 k4)
        have HSD := Lib.hid (fun hx => do_still x hx HST.out)
        clear hC k1 k2 k3 k4 k5 k6 k7 k8
        go_wp2_with fail
        with_reducible refine HG.out.mono ?_
        rintro e w1 ⟨rfl, hb1⟩
        have HB1 := Lib.hid (HB.out.kept hb1)
        obtain ⟨g0, g1, g2, g3, g4⟩ := HC.out w1 HB1.out.bel
        cases hgr : greatA x with
        | true =>
          go_wp2_with fail
          go_roundw
          case rel => exact ⟨i + 1, st, by go_num, by omega, by omega, Lib.hid HB1.out.more, HST⟩
          case measure => simp [intOf]; omega
        | false =>
          by_cases h6 : x.what % 9 < 6
          · have h6i : ¬ (6 : Int) ≤ (x.what : Int) % 9 := by omega
            have HB2 := Lib.hid (live_both (w := w1.drew) (HB1.out.kept (below_drew1 (Below.refl _ _))))
            have hbd : Below w.heap.size w w1.drew := below_drew1 HB1.out.bel
            have HS1 := Lib.hid (HSD.out h6)
            clear c0 c1 c2 c3 c4
            go_upto_region 8 with fail
            go_region_held3 (fun w' => w'.cell? ⟨d0, o + i * 5, none⟩ = some (.int .u8 (x.what : Nat)) ∧ w'.cell? ⟨d0, o + i * 5 + 1, none⟩ = some (.string (str8 x.name)) ∧ w'.cell? ⟨d0, o + i * 5 + 2, none⟩ = some (.string (str8 x.«to»)) ∧ w'.cell? ⟨d0, o + i * 5 + 3, none⟩ = some (.int .i64 x.n) ∧ w'.cell? ⟨d0, o + i * 5 + 4, none⟩ = some (.slice Ak x.keep.length ck)) (first
                | exact HC.out _ hbd
                | exact HC.out _ HBB.out.bel
                | exact HC.out _ HBC.out.bel)
              (first
                | (go_at_call 8
                   refine (HQ.out _).mono ?_
                   rintro e w2 ⟨rfl, hw2⟩
                   have hB2 := HB2.out
                   rw [← hw2] at hB2
                   have HBB := Lib.hid hB2
                   clear hB2 hw2)
                | (go_at_call 11
                   refine (HDO.out _ _ HBB.out).mono ?_
                   rintro e w3 ⟨r, rfl, _, hB, _⟩
                   have HBC := Lib.hid hB.live
                   clear hB))
            all_goals
              go_wp2_with fail
              go_roundw
              case rel => exact ⟨i + 1, _, by go_num, by omega, by omega, HBC, HS1⟩
              case measure => simp [intOf]; omega
          · have h6i : (6 : Int) ≤ (x.what : Int) % 9 := by omega
            go_wp2_with fail
            go_roundw
            case rel => exact ⟨i + 1, st, by go_num, by omega, by omega, Lib.hid HB1.out.more, HST⟩
            case measure => simp [intOf]; omega
    · have hst := HST.out
      obtain ⟨_, hsd⟩ := hst
      have hwf := HB.out.wf
      have HWF := Lib.hid hwf
      obtain ⟨F0, ⟨⟨mb, Y, hdi, _⟩, _⟩, _⟩ := HB.out.disk
      have HCP := Lib.hid (copy_any hdi hwf (by omega))
      have HTS := Lib.hid (fun wp (hcp : ∃ F', DiskM wp wj.heap.size wj.heap.size st F' ∧ F' wj.heap.size) (hbp : Below wj.heap.size wj wp) => two_start HB.out hcp hbp)
      have HSD := Lib.hid hsd
      clear HB HST hdi hwf hbel hfit hsd
      rcases hcs with ⟨hlt, hlt4⟩ | hlt
      all_goals
        try have hli : (i : Int) < (l0.length : Int) := by omega
        try have hli : ¬ (i : Int) < (l0.length : Int) := by omega
        try have hl4 : ¬ (i : Int) < 40 := by omega
        go_wp2_with fail
        with_reducible refine HCP.out.mono ?_
        rintro e wp ⟨rfl, hcp, hbp⟩
        have HTC := Lib.hid (two_crash (HTS.out wp hcp hbp))
        clear HCP HTS hcp hbp hli
        go_wp2_with fail
        with_reducible refine HTC.out.mono ?_
        rintro e wq ⟨rfl, h3⟩
        have HDA := Lib.hid (show Calls Try.prog 15 #[.pointer (some ⟨w.heap.size + 1, 0, none⟩)] wq fun e w' => e = .returned (.bool true) ∧ w' = wq from down_live h3.live)
        have hdb := down_live h3.was
        rw [HSD.out] at hdb
        have HDB := Lib.hid hdb
        have HTW := Lib.hid (two_wake h3 (by omega) keep _ dk1 (HKS.out wq h3.bel) HKB.out (by omega) rfl)
        clear h3 hdb HTC
        go_wp2_with (first
          | (with_reducible refine HDA.out.mono ?_; rintro e wy ⟨rfl, rfl⟩)
          | (with_reducible refine HDB.out.mono ?_; rintro e wy ⟨rfl, rfl⟩))
        with_reducible refine HTW.out.mono ?_
        rintro e ws ⟨rfl, h4⟩
        have HT4 := Lib.hid h4
        have HLA := Lib.hid (list_live h4.was (by omega))
        clear h4 HTW HDA HDB
        go_wp2_with fail
        with_reducible refine HLA.out.mono ?_
        rintro e w5 ⟨v5, rfl, ho5, hb5⟩
        have HT5 := Lib.hid (HT4.out.below hb5)
        have HO5 := Lib.hid ho5
        obtain ⟨A5, c5, rfl, _, _⟩ := ho5.form
        have hnl : (st.fs.map (·.1)).length = st.fs.length := List.length_map _
        rw [hnl] at HO5 ⊢
        have HLB := Lib.hid (list_live HT5.out.live (by omega))
        clear HT4 HLA ho5 hb5
        go_wp2_with fail
        with_reducible refine HLB.out.mono ?_
        rintro e w6 ⟨v6, rfl, ho6, hb6⟩
        have HT6 := Lib.hid (HT5.out.below hb6)
        obtain ⟨A6, c6, rfl, _, _⟩ := ho6.form
        have hnl6 : ((wakeD (crashD st) keep).fs.map (·.1)).length = st.fs.length := by rw [wake_crash]; simp [wakeL]
        rw [hnl6]
        have hO6 := HO5.out.below hb6 (Nat.le_refl _)
        obtain ⟨gn, _, hsn⟩ := hO6.shows
        have HSN := Lib.hid hsn
        have HDC := Lib.hid (show Calls Try.prog 15 #[.pointer (some ⟨w.heap.size + 1, 0, none⟩)] w6 fun e w' => e = .returned (.bool false) ∧ w' = w6 from down_live HT6.out.live)
        have HH := Lib.hid (head_here w w6 w.heap.size HT6.out.bel HT6.out.fit)
        clear HT5 HO5 HLB ho6 hb6 hO6 hsn
        go_wp2_with (first
          | (with_reducible refine HDC.out.mono ?_; rintro e w6 ⟨rfl, rfl⟩))
        go_loopw [9] (fun kk wr => ∃ k : Nat, k ≤ st.fs.length ∧ kk = .int .i64 k ∧ wr = w6) (fun kk _ => st.fs.length - (intOf kk).toNat)
        case atStart => exact ⟨0, Nat.zero_le _, rfl, rfl⟩
        case round =>
          obtain ⟨k, hk, rfl, rfl⟩ := hrel
          have hcnt := HWF.out.count
          by_cases hlt2 : k < st.fs.length
          · have hki : (k : Int) < (st.fs.length : Int) := by omega
            obtain ⟨on, rfl, _, hcn⟩ := HSN.out.at_ (by simp; omega)
            have y0 : wr.cell? ⟨gn, on + k, none⟩ = some (.string (str8 (st.fs[k].1))) := by
              have := hcn k (by simp; exact hlt2) 0 (by decide)
              simpa [nameC] using this
            have hwk := HT6.out.live.wf
            have hq : st.fs[k].1.length ≤ 140737488355328 := by have := (HWF.out.each _ (List.getElem_mem hlt2)).1; omega
            have hbl := (HWF.out.each _ (List.getElem_mem hlt2)).2.1
            have hr1 := read_live HT6.out.was (st.fs[k].1) hq
            have hr2 := safe_live HT6.out.was (st.fs[k].1) hq
            have hr3 := read_live HT6.out.live (st.fs[k].1) hq
            have hr4 := safe_live HT6.out.live (st.fs[k].1) hq
            rw [read_listed HWF.out HSD.out k hlt2] at hr1 hr2
            rw [read_woken keep hwk k hlt2] at hr3 hr4
            obtain ⟨hle1, hle2⟩ := left_le HWF.out keep k hlt2
            generalize st.fs[k].1 = q at *
            generalize st.fs[k].2 = f at *
            generalize leftN keep k f = L at *
            have hTl : (f.b.take L).length = L := by simp; omega
            have hex := str8_take f.b L
            generalize f.b.take L = T at *
            subst hTl
            dsimp only at hr1 hr2 hr3 hr4
            have HR1 := Lib.hid hr1
            have HR2 := Lib.hid hr2
            have HR3 := Lib.hid hr3
            have HR4 := Lib.hid hr4
            have hz1 := str8_size T
            have hz2 := str8_size f.b
            have hn1 : ¬ (T.length : Int) < (f.safe : Int) := by omega
            have hn2 : ¬ (f.b.length : Int) < (T.length : Int) := by omega
            have hn3 : (T.length : Int) ≤ (f.b.length : Int) := by omega
            have hex' : (str8 f.b).extract 0 T.length = str8 T := hex.symm
            clear hr1 hr2 hr3 hr4 hcn hq hwk hex
            go_wp2_with fail
            with_reducible refine HR1.out.mono ?_
            rintro e wy ⟨rfl, rfl⟩
            go_wp2_with fail
            with_reducible refine HR2.out.mono ?_
            rintro e wy ⟨rfl, rfl⟩
            go_wp2_with fail
            with_reducible refine HR3.out.mono ?_
            rintro e wy ⟨rfl, rfl⟩
            go_wp2_with fail
            with_reducible refine HR4.out.mono ?_
            rintro e wy ⟨rfl, rfl⟩
            go_wp2_with fail
            go_roundw
            case rel => exact ⟨k + 1, by omega, by go_num, by trivial⟩
            case measure => simp [intOf]; omega
          · have hki : ¬ (k : Int) < (st.fs.length : Int) := by omega
            go_wp2_with fail
            with_reducible refine HH.out.mono ?_
            rintro e w2 ⟨rfl, hb2⟩
            go_wp2_with fail
            go_ret
            exact ⟨rfl, hb2⟩

set_option maxRecDepth 100000 in
set_option maxHeartbeats 1000000 in
theorem dkeeps_walk_lifted (os : Os) (started : os.Started) (H : Type) (enc : TypeId × Value → H) :
    ReturnsInHanded {} Try.checked os 4 .any (Rows.diskKeepsSpec.pre6 enc Try.prog Try.f4 Rows.diskKeepsRow.domain false) (Rows.diskKeepsSpec.post enc Try.prog Try.f4 false true false false) := by
  refine returnsInHanded_of_change_sized (C := Try.checked) own started (by kernel_rfl) Try.func4
    (ChangeSpec.witness6 (enc := enc) (C := Try.checked) false ⟨#[], #[.slice none 0 0, .slice none 0 0], []⟩ 8 (by kernel_rfl) (by kernel_rfl) (by kernel_rfl) (by kernel_rfl)) ?_
  intro W base args ds gs before hval0 hW hcnd hsz0 _
  have hval : ∀ (j : Nat) t v, Try.f4.params[j]? = some t → args[j]? = some v → Value.okWide Try.prog W .any base t v := hval0
  have hsz : (DataW.weightsEach Try.prog (Try.f4.params.toList ++ Rows.diskKeepsSpec.plain.varTypes Try.prog) (ds ++ gs)).all (· ≤ reachBytes) = true := hsz0
  have hW' := hW
  obtain ⟨p, q, hA0, hV, rfl, hfz, hnd⟩ := hW
  have hA : DataW.TrodAll enc Try.prog W 0 (fun _ => true) true Try.f4.params.toList args.toList ds p := hA0
  rw [Try.params4] at hA hval hsz
  obtain ⟨v0, vs0, d0, ds0, p0, q0, hargs, rfl, rfl, h0, r0⟩ := trodAll_cons hA
  obtain ⟨v1, vs1, d1, ds1, p1, q1, rfl, rfl, rfl, h1, r1⟩ := trodAll_cons r0
  obtain ⟨rfl, rfl, rfl⟩ := trodAll_nil r1
  obtain rfl : args = #[v0, v1] := by cases args; simp_all
  obtain ⟨rfl, rfl⟩ := trodVars_none hV
  have k0 := h0
  have lt0 : ∀ x ∈ p0, x.block < W.heap.size := by obtain ⟨m, hm⟩ := k0; exact DataW.trod_lt m _ _ _ hm
  have k1 := h1
  have lt1 : ∀ x ∈ p1, x.block < W.heap.size := by obtain ⟨m, hm⟩ := k1; exact DataW.trod_lt m _ _ _ hm
  obtain ⟨A0, c0, b0, L0, rfl, sh0, l0, ok0⟩ := open_acts (hval 0 22 v0 rfl rfl) h0 hsz 0 rfl rfl
  obtain ⟨A1, c1, b1, L1, rfl, sh1, l1, lt1k, dz1⟩ := open_introw (hval 1 28 v1 rfl rfl) h1 hsz 1 rfl rfl
  clear hA0 hval0
  refine (dkeeps_walk A0 c0 b0 L0 A1 c1 b1 L1 W sh0 l0 ok0 sh1 l1 lt1k dz1).mono fun e W' ⟨he, bel⟩ => ?_
  subst he
  exact ⟨_, rfl, _, _, _, [], _, [], hW', trodAll_mk1 (shut_bool Try.underlying4 _), (trodAll_cons_mk (Below.trod laidOut (by kernel_rfl) (of_decide_eq_true (by kernel_rfl)) k0 bel lt0) (trodAll_cons_mk (Below.trod laidOut (by kernel_rfl) (of_decide_eq_true (by kernel_rfl)) k1 bel lt1) trodAll_mk0)), rfl, bel.frame _, fun h => by cases h⟩

theorem diskKeeps_holds : Rows.DiskKeepsSaid :=
  OpenClaim.holds_of_wide 4 Try.f4 rfl rfl rfl rfl rfl rfl rfl ⟨rfl, rfl, rfl, rfl, rfl⟩ rfl rfl rfl rfl rfl (by kernel_rfl) Try.func4 (by kernel_rfl)
    (of_decide_eq_true (by kernel_rfl)) (by unfold Func.isWrapper; first | (rw [if_pos (by decide +kernel)]; kernel_rfl) | (rw [if_neg (by decide +kernel)]; exact ⟨rfl, rfl⟩))
    (fun os started H enc _ => dkeeps_walk_lifted os started H enc)
#print axioms diskKeeps_holds
end Go.Proofs.Ytngjmeohleoglaa
