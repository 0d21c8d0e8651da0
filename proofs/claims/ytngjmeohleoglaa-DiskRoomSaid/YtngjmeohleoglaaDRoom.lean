/-
  DiskRoom: for every room and every row of calls the law returns true, and its arguments read as before.
  Conditions: none.
-/
import Derived.Test.YtngjmeohleoglaaDqU
import Derived.Deep.CutBlock
import Derived.WalkMore
namespace Go.Proofs.Ytngjmeohleoglaa
open Go.ChangeShapes Go.WideShapes Go.ChangeAt Go.RowKit Go.Shelf
set_option linter.unusedVariables false
set_option linter.unusedSimpArgs false
set_option maxRecDepth 100000

theorem head_here (w0 w : World) (base : Nat) (hb : Below base w0 w) (hf : base ≤ w.heap.size) : Calls Try.prog 10 #[] w fun e w' => e = .returned (.bool true) ∧ Below base w0 w' :=
  (head_any w).mono fun _ _ ⟨h1, h2⟩ => ⟨h1, hb.trans (h2.mono hf)⟩

set_option maxHeartbeats 4000000 in
theorem droom_walk (room : Int) (A : Option Addr) (c d0 : Nat) (l : List ActE) (w : World) (hr1 : -9223372036854775808 ≤ room) (hr2 : room ≤ 9223372036854775807) (h : ShowsG actC w d0 (.slice A l.length c) l) (hl : l.length ≤ 1954687338211) (hok : ∀ e ∈ l, e.ok w) :
    Calls Try.prog 6 #[.int .i64 room, .slice A l.length c] w fun e w' => e = .returned (.bool true) ∧ Below w.heap.size w w' := by
  have HL := Lib.hid (fun w' (hb : Below w.heap.size w w') => (h.keep hb.size fun hp => hb.block d0 (h.lt hp) : ShowsG actC w' d0 (.slice A l.length c) l))
  have HOK := Lib.hid hok
  have HD0 := Lib.hid (fun hp => h.lt hp)
  obtain ⟨R, hR⟩ : ∃ R, R = room.toNat := ⟨_, rfl⟩
  have hmax : max room 0 = (R : Int) := by omega
  have hR9 : R ≤ 9223372036854775807 := by omega
  have HN := Lib.hid (new_any room w)
  rw [← hR] at HN
  have HQ := Lib.hid (fun W => qnew_any 0 W)
  have HB2 := Lib.hid (both_new R 0 w hR9 (by omega))
  clear h hok hR
  go_enter Try.func6, Try.ntmps6
  go_wp2_with fail
  with_reducible refine HN.out.mono ?_
  rintro e wa ⟨rfl, rfl⟩
  go_wp2_with fail
  refine (HQ.out _).mono ?_
  rintro e wb ⟨rfl, rfl⟩
  have hB2 := HB2.out
  unfold twoNew at hB2
  simp only [Int.toNat_zero, World.size_alloc]
  generalize World.alloc (World.alloc (World.alloc w _) _) _ = w0 at *
  have hB2' := Lib.hid hB2
  clear hB2 HB2 HN HQ
  go_wp2_with fail
  go_loopw [7] (fun ii wr => ∃ (i : Nat) (st sq : DD), ii = .int .i64 i ∧ i ≤ l.length ∧ i ≤ 40 ∧ Hid (Both w w.heap.size (w.heap.size + 1) (w.heap.size + 1 + 1) (fun _ => False) i i st sq wr) ∧ Hid (st.room = R)) (fun ii _ => l.length - (intOf ii).toNat)
  case atStart => exact ⟨0, _, _, rfl, Nat.zero_le _, by omega, hB2', Lib.hid rfl⟩
  case round =>
    obtain ⟨i, st, sq, rfl, hi, h40, HB, HR⟩ := hrel
    rename World => wj
    have hbel := HB.out.bel
    have hfit := HB.out.fit
    by_cases hlt : i < l.length
    · have hli : (i : Int) < (l.length : Int) := by omega
      by_cases hlt4 : i < 40
      · have hl4 : (i : Int) < 40 := by omega
        have HLj := HL.out wj hbel
        obtain ⟨o, rfl, hd0, hcl⟩ := HLj.at_ (by omega)
        obtain ⟨c0, c1, c2, c3, c4⟩ := act_cell hcl hlt
        have hokx := HOK.out _ (List.getElem_mem hlt)
        have hdw : d0 < w.heap.size := HD0.out (by omega)
        obtain ⟨e, he⟩ : ∃ e, e = l[i] := ⟨_, rfl⟩
        rw [← he] at c0 c1 c2 c3 c4 hokx
        clear he hcl HLj
        obtain ⟨x, Ak, ck, dk⟩ := e
        obtain ⟨k1, k2, k3, k4, k5, k6, k7, k8⟩ := hokx
        simp only [] at c0 c1 c2 c3 c4 k1 k2 k3 k4 k5 k6 k7 k8
        have hdk : dk < w.heap.size := by
          rcases Nat.eq_zero_or_pos x.keep.length with hz | hz
          · rw [k8 hz]; omega
          · exact k7 hz
        have hC := fun W (hb : Below wj.heap.size wj W) => show W.cell? ⟨d0, o + i * 5, none⟩ = some (.int .u8 (x.what : Nat)) ∧ W.cell? ⟨d0, o + i * 5 + 1, none⟩ = some (.string (str8 x.name)) ∧ W.cell? ⟨d0, o + i * 5 + 2, none⟩ = some (.string (str8 x.«to»)) ∧ W.cell? ⟨d0, o + i * 5 + 3, none⟩ = some (.int .i64 x.n) ∧ W.cell? ⟨d0, o + i * 5 + 4, none⟩ = some (.slice Ak x.keep.length ck) from
          ⟨(World.cell?_of_block (w := wj) (hb.block d0 (by omega))).trans c0, (World.cell?_of_block (w := wj) (hb.block d0 (by omega))).trans c1, (World.cell?_of_block (w := wj) (hb.block d0 (by omega))).trans c2, (World.cell?_of_block (w := wj) (hb.block d0 (by omega))).trans c3, (World.cell?_of_block (w := wj) (hb.block d0 (by omega))).trans c4⟩
        have HC := Lib.hid hC
        have HG := Lib.hid (great_any x Ak ck wj)
        have HDO := Lib.hid (fun W (hB : Both w w.heap.size (w.heap.size + 1) (w.heap.size + 1 + 1) (fun _ => False) i i st sq W) => does_any hB (by omega) (by omega) (fun _ hk => hk.elim) x k1 (by omega) (by omega) k4.2 Ak x.keep.length ck dk k5 hdk (Nat.le_refl _) (by omega))
        have HDR := Lib.hid (do_room st x)
        have HK := Lib.hid (And.intro k1 k4)
        clear hC k1 k2 k3 k4 k5 k6 k7 k8
        go_wp2_with fail
        with_reducible refine HG.out.mono ?_
        rintro e w1 ⟨rfl, hb1⟩
        obtain ⟨g0, g1, g2, g3, g4⟩ := HC.out w1 hb1
        have hB1 := HB.out.below hb1 (Y := fun _ => False) (fun _ hk => hk.elim)
        cases hgr : greatA x with
        | true =>
          have HH := Lib.hid (head_here w w1 w.heap.size hB1.bel hB1.fit)
          go_wp2_with fail
          with_reducible refine HH.out.mono ?_
          rintro e w2 ⟨rfl, hb2⟩
          go_wp2_with fail
          go_ret
          exact ⟨rfl, hb2⟩
        | false =>
          have HD1 := Lib.hid (HDO.out w1 hB1)
          clear hB1 c0 c1 c2 c3 c4
          go_wp2_with fail
          with_reducible refine HD1.out.mono ?_
          rintro e w2 ⟨r, rfl, _, hB, _⟩
          obtain ⟨st', hst'⟩ : ∃ st', st' = (doD st x).1 := ⟨_, rfl⟩
          have hroom : st'.room = R := by rw [hst', HDR.out, HR.out]
          obtain ⟨sq', hsq'⟩ : ∃ sq', sq' = (doD sq x).1 := ⟨_, rfl⟩
          rw [← hst', ← hsq'] at hB
          clear hst' hsq'
          have hlv := hB.live
          have HLV := Lib.hid hlv
          have HBW := Lib.hid hB
          have HRM := Lib.hid hroom
          have HLI := Lib.hid (list_live hlv (by omega))
          clear hB hlv hroom
          go_wp2_with fail
          with_reducible refine HLI.out.mono ?_
          rintro e w3 ⟨vn, rfl, hon, hb3⟩
          have hB3 := HBW.out.below hb3 (Y := fun _ => False) (fun _ hk => hk.elim)
          have hlv3 := hB3.live
          obtain ⟨An, cn, rfl, _, _⟩ := hon.form
          have hnl : (st'.fs.map (·.1)).length = st'.fs.length := List.length_map _
          rw [hnl]
          obtain ⟨gn, _, hsn⟩ := hon.shows
          rw [hnl] at hsn
          have HSN := Lib.hid hsn
          have HRD := Lib.hid (fun k (hk : k < st'.fs.length) => read_live hlv3 (st'.fs[k].1) (by have := hlv3.wf.each _ (List.getElem_mem hk); omega))
          have HUS := Lib.hid (used_live hlv3)
          have HDN := Lib.hid (down_live hlv3)
          have hus := hlv3.wf.used
          have hcnt := hlv3.wf.count
          rw [HRM.out] at hus
          have hsk := fun k => sumK_le st'.fs k
          have HSK := Lib.hid hsk
          have HRE := Lib.hid (fun (hd : st'.down = false) k (hk : k < st'.fs.length) => read_listed hlv3.wf hd k hk)
          have HB3 := Lib.hid hB3
          clear hsn hon hnl hlv3 hB3 hsk
          have hus' : ¬ (R : Int) < (usedL st'.fs : Int) := by omega
          cases hdn : st'.down with
          | true =>
            have HDN := HDN.out
            rw [hdn] at HDN
            have HDN := Lib.hid HDN
            go_wp2_with fail
            go_loopw [9, 10] (fun su kk wr => ∃ k S : Nat, k ≤ st'.fs.length ∧ kk = .int .i64 k ∧ su = .int .i64 S ∧ Hid (S = 0) ∧ wr = w3) (fun _ kk _ => st'.fs.length - (intOf kk).toNat)
            case atStart => exact ⟨0, 0, Nat.zero_le _, rfl, rfl, Lib.hid rfl, rfl⟩
            case round =>
              obtain ⟨k, S, hk, rfl, rfl, hS, rfl⟩ := hrel
              by_cases hlt2 : k < st'.fs.length
              · have hki : (k : Int) < (st'.fs.length : Int) := by omega
                obtain ⟨on, rfl, _, hcn⟩ := HSN.out.at_ (by simp; omega)
                have y0 : wr.cell? ⟨gn, on + k, none⟩ = some (.string (str8 (st'.fs[k].1))) := by
                  have := hcn k (by simp; exact hlt2) 0 (by decide)
                  simpa [nameC] using this
                have hrd := HRD.out k hlt2
                have HSKk := Lib.hid (HSK.out (k + 1))
                have HSTP := Lib.hid (sumK_step st'.fs k hlt2)
                rw [read_down hdn] at hrd
                have HR1 := Lib.hid hrd
                clear hrd
                clear hcn
                generalize st'.fs[k].1 = q at *
                skip
                go_wp2_with fail
                with_reducible refine HR1.out.mono ?_
                rintro e wy ⟨rfl, rfl⟩
                go_wp2_with fail
                go_roundw
                case rel => exact ⟨k + 1, S, by omega, by go_num, rfl, hS, by trivial⟩
                case measure => simp [intOf]; omega
              · have hki : ¬ (k : Int) < (st'.fs.length : Int) := by omega
                have hke : k = st'.fs.length := by omega
                skip
                clear hke
                go_wp2_with (first
                  | (with_reducible refine HUS.out.mono ?_; rintro e wy ⟨rfl, rfl⟩)
                  | (with_reducible refine HDN.out.mono ?_; rintro e wy ⟨rfl, rfl⟩))
                go_roundw
                case rel =>
                  exact ⟨i + 1, st', sq', by go_num, by omega, by omega, HB3, HRM⟩
                case measure => simp [intOf]; omega
          | false =>
            have HDN := HDN.out
            rw [hdn] at HDN
            have HDN := Lib.hid HDN
            go_wp2_with fail
            go_loopw [9, 10] (fun su kk wr => ∃ k S : Nat, k ≤ st'.fs.length ∧ kk = .int .i64 k ∧ su = .int .i64 S ∧ Hid (S = sumK st'.fs k) ∧ wr = w3) (fun _ kk _ => st'.fs.length - (intOf kk).toNat)
            case atStart => exact ⟨0, 0, Nat.zero_le _, rfl, rfl, Lib.hid (by simp [sumK, usedL]), rfl⟩
            case round =>
              obtain ⟨k, S, hk, rfl, rfl, hS, rfl⟩ := hrel
              by_cases hlt2 : k < st'.fs.length
              · have hki : (k : Int) < (st'.fs.length : Int) := by omega
                obtain ⟨on, rfl, _, hcn⟩ := HSN.out.at_ (by simp; omega)
                have y0 : wr.cell? ⟨gn, on + k, none⟩ = some (.string (str8 (st'.fs[k].1))) := by
                  have := hcn k (by simp; exact hlt2) 0 (by decide)
                  simpa [nameC] using this
                have hrd := HRD.out k hlt2
                have HSKk := Lib.hid (HSK.out (k + 1))
                have HSTP := Lib.hid (sumK_step st'.fs k hlt2)
                rw [HRE.out hdn k hlt2] at hrd
                have HR1 := Lib.hid hrd
                clear hrd
                have hbz := str8_size st'.fs[k].2.b
                have hov : (S : Int) + (st'.fs[k].2.b.length : Int) ≤ 9223372036854775807 := by have h1 := HSKk.out; have h2 := HSTP.out; have h3 := hS.out; omega
                clear hcn
                generalize st'.fs[k].1 = q at *
                generalize st'.fs[k].2.b = bb at *
                go_wp2_with fail
                with_reducible refine HR1.out.mono ?_
                rintro e wy ⟨rfl, rfl⟩
                go_wp2_with fail
                go_roundw
                case rel => exact ⟨k + 1, S + bb.length, by omega, by go_num, by go_num, Lib.hid (by rw [HSTP.out, hS.out]), by trivial⟩
                case measure => simp [intOf]; omega
              · have hki : ¬ (k : Int) < (st'.fs.length : Int) := by omega
                have hke : k = st'.fs.length := by omega
                have hSu : (usedL st'.fs : Int) = (S : Int) := by rw [hS.out, hke, sumK_all]
                clear hke
                go_wp2_with (first
                  | (with_reducible refine HUS.out.mono ?_; rintro e wy ⟨rfl, rfl⟩)
                  | (with_reducible refine HDN.out.mono ?_; rintro e wy ⟨rfl, rfl⟩))
                go_roundw
                case rel =>
                  exact ⟨i + 1, st', sq', by go_num, by omega, by omega, HB3, HRM⟩
                case measure => simp [intOf]; omega
      · have hl4 : ¬ (i : Int) < 40 := by omega
        have HH := Lib.hid (head_here w wj w.heap.size hbel hfit)
        go_wp2_with fail
        with_reducible refine HH.out.mono ?_
        rintro e w2 ⟨rfl, hb2⟩
        go_wp2_with fail
        go_ret
        exact ⟨rfl, hb2⟩
    · have hli : ¬ (i : Int) < (l.length : Int) := by omega
      have HH := Lib.hid (head_here w wj w.heap.size hbel hfit)
      go_wp2_with fail
      with_reducible refine HH.out.mono ?_
      rintro e w2 ⟨rfl, hb2⟩
      go_wp2_with fail
      go_ret
      exact ⟨rfl, hb2⟩

set_option maxRecDepth 100000 in
set_option maxHeartbeats 1000000 in
theorem droom_walk_lifted (os : Os) (started : os.Started) (H : Type) (enc : TypeId × Value → H) :
    ReturnsInHanded {} Try.checked os 6 .any (Rows.diskRoomSpec.pre6 enc Try.prog Try.f6 Rows.diskRoomRow.domain false) (Rows.diskRoomSpec.post enc Try.prog Try.f6 false true false false) := by
  refine returnsInHanded_of_change_sized (C := Try.checked) own started (by kernel_rfl) Try.func6
    (ChangeSpec.witness6 (enc := enc) (C := Try.checked) false ⟨#[], #[.int .i64 0, .slice none 0 0], []⟩ 8 (by kernel_rfl) (by kernel_rfl) (by kernel_rfl) (by kernel_rfl)) ?_
  intro W base args ds gs before hval0 hW hcnd hsz0 _
  have hval : ∀ (j : Nat) t v, Try.f6.params[j]? = some t → args[j]? = some v → Value.okWide Try.prog W .any base t v := hval0
  have hsz : (DataW.weightsEach Try.prog (Try.f6.params.toList ++ Rows.diskRoomSpec.plain.varTypes Try.prog) (ds ++ gs)).all (· ≤ reachBytes) = true := hsz0
  have hW' := hW
  obtain ⟨p, q, hA0, hV, rfl, hfz, hnd⟩ := hW
  have hA : DataW.TrodAll enc Try.prog W 0 (fun _ => true) true Try.f6.params.toList args.toList ds p := hA0
  rw [Try.params6] at hA hval hsz
  obtain ⟨v0, vs0, d0, ds0, p0, q0, hargs, rfl, rfl, h0, r0⟩ := trodAll_cons hA
  obtain ⟨v1, vs1, d1, ds1, p1, q1, rfl, rfl, rfl, h1, r1⟩ := trodAll_cons r0
  obtain ⟨rfl, rfl, rfl⟩ := trodAll_nil r1
  obtain rfl : args = #[v0, v1] := by cases args; simp_all
  obtain ⟨rfl, rfl⟩ := trodVars_none hV
  have k0 := h0
  have lt0 : ∀ x ∈ p0, x.block < W.heap.size := by obtain ⟨m, hm⟩ := k0; exact DataW.trod_lt m _ _ _ hm
  have k1 := h1
  have lt1 : ∀ x ∈ p1, x.block < W.heap.size := by obtain ⟨m, hm⟩ := k1; exact DataW.trod_lt m _ _ _ hm
  obtain ⟨s0, rfl, rfl, rfl, ws0⟩ := open_int Try.underlying3 (hval 0 3 v0 rfl rfl) h0
  obtain ⟨s00, s01⟩ := i64_range ws0
  obtain ⟨A1, c1, b1, L1, rfl, sh1, l1, ok1⟩ := open_acts (hval 1 22 v1 rfl rfl) h1 hsz 1 rfl rfl
  clear hA0 hval0
  refine (droom_walk s0 A1 c1 b1 L1 W s00 s01 sh1 l1 ok1).mono fun e W' ⟨he, bel⟩ => ?_
  subst he
  exact ⟨_, rfl, _, _, _, [], _, [], hW', trodAll_mk1 (shut_bool Try.underlying4 _), (trodAll_cons_mk (Below.trod laidOut (by kernel_rfl) (of_decide_eq_true (by kernel_rfl)) k0 bel lt0) (trodAll_cons_mk (Below.trod laidOut (by kernel_rfl) (of_decide_eq_true (by kernel_rfl)) k1 bel lt1) trodAll_mk0)), rfl, bel.frame _, fun h => by cases h⟩

theorem diskRoom_holds : Rows.DiskRoomSaid :=
  OpenClaim.holds_of_wide 6 Try.f6 rfl rfl rfl rfl rfl rfl rfl ⟨rfl, rfl, rfl, rfl, rfl⟩ rfl rfl rfl rfl rfl (by kernel_rfl) Try.func6 (by kernel_rfl)
    (of_decide_eq_true (by kernel_rfl)) (by unfold Func.isWrapper; first | (rw [if_pos (by decide +kernel)]; kernel_rfl) | (rw [if_neg (by decide +kernel)]; exact ⟨rfl, rfl⟩))
    (fun os started H enc _ => droom_walk_lifted os started H enc)
#print axioms diskRoom_holds
end Go.Proofs.Ytngjmeohleoglaa
