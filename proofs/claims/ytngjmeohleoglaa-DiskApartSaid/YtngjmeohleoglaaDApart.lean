/-
  DiskApart: for all rows of calls the law returns true, and its arguments read as before.
  Conditions: none.
-/
import Derived.Test.YtngjmeohleoglaaDqV
import Derived.Test.YtngjmeohleoglaaDqL
import Derived.Test.YtngjmeohleoglaaDrC
import Derived.Deep.CutBlock
import Derived.WalkMore
namespace Go.Proofs.Ytngjmeohleoglaa
open Go.ChangeShapes Go.WideShapes Go.ChangeAt Go.RowKit Go.Shelf
set_option linter.unusedVariables false
set_option linter.unusedSimpArgs false
set_option maxRecDepth 100000

theorem head_here (w0 w : World) (base : Nat) (hb : Below base w0 w) (hf : base ≤ w.heap.size) : Calls Try.prog 10 #[] w fun e w' => e = .returned (.bool true) ∧ Below base w0 w' :=
  (head_any w).mono fun _ _ ⟨h1, h2⟩ => ⟨h1, hb.trans (h2.mono hf)⟩

theorem both_copied {w0 w w1 w2 : World} {base nb qb cb n m : Nat} {X : Nat → Prop} {st : DD} {u : Value} (h : Both w0 base nb qb X n m st st w) (hC : ∃ F', DiskM w1 w.heap.size w.heap.size st F' ∧ F' w.heap.size) (hb1 : Below w.heap.size w w1) (hq : QI w2 w1.heap.size cb u st) (hb2 : Below w1.heap.size w1 w2) :
    Both w w.heap.size w.heap.size cb (fun _ => False) n m st st w2 := by
  obtain ⟨F, hd, hF⟩ := hC
  have hs1 := hb1.size
  have hs2 := hb2.size
  have hG : ∀ k, (k = cb ∨ u.ownBlock = some k) → w1.heap.size ≤ k ∧ k < w2.heap.size := fun k hk => by
    rcases hk with rfl | hk
    · exact ⟨hq.low, hq.box.lt⟩
    · exact hq.row.block k hk
  refine ⟨⟨F, fun k => k = cb ∨ u.ownBlock = some k, u, hd.keep (Mv.of_below (F := fun _ => False) hb2) (fun _ _ e => e), hF, AtQ.start ⟨hq.box, hq.row.mono hs1, Nat.le_trans hs1 hq.low⟩ (fun k hk => .inr hk) (.inl rfl) (fun k hk => ⟨Nat.le_trans hs1 (hG k hk).1, (hG k hk).2⟩) (by omega), fun k hk e => ?_, fun k hk => hk.elim⟩, hb1.trans (hb2.mono hs1), by omega, h.wf, h.wq⟩
  have h1 := (hd.2 k hk).2
  have h2 := (hG k e).1
  omega
theorem Both.qi {w0 w : World} {base nb qb n m : Nat} {X : Nat → Prop} {st sq : DD} (h : Both w0 base nb qb X n m st sq w) : ∃ v, QI w base qb v sq := by
  obtain ⟨⟨F, G, v, _, _, h3, _, _⟩, _⟩ := h
  exact ⟨v, h3.disk⟩
theorem Both.di {w0 w : World} {base nb qb n m : Nat} {X : Nat → Prop} {st sq : DD} (h : Both w0 base nb qb X n m st sq w) : ∃ mb Y, DiskI w base nb mb Y st := by
  obtain ⟨⟨F, G, v, ⟨⟨mb, Y, h1, _⟩, _⟩, _⟩, _⟩ := h
  exact ⟨mb, Y, h1⟩

set_option maxHeartbeats 8000000 in
theorem dapart_walk (A : Option Addr) (c d0 : Nat) (l0 : List ActE) (B : Option Addr) (cc d1 : Nat) (l1 : List ActE) (w : World) (h : ShowsG actC w d0 (.slice A l0.length c) l0) (hl : l0.length ≤ 1954687338211) (hok : ∀ e ∈ l0, e.ok w) (h2 : ShowsG actC w d1 (.slice B l1.length cc) l1) (hl2 : l1.length ≤ 1954687338211) (hok2 : ∀ e ∈ l1, e.ok w) :
    Calls Try.prog 5 #[.slice A l0.length c, .slice B l1.length cc] w fun e w' => e = .returned (.bool true) ∧ Below w.heap.size w w' := by
  have HL0 := Lib.hid (fun w' (hb : Below w.heap.size w w') => (h.keep hb.size fun hp => hb.block d0 (h.lt hp) : ShowsG actC w' d0 (.slice A l0.length c) l0))
  have HOK0 := Lib.hid hok
  have HD0 := Lib.hid (fun hp => h.lt hp)
  have HL1 := Lib.hid (fun w' (hb : Below w.heap.size w w') => (h2.keep hb.size fun hp => hb.block d1 (h2.lt hp) : ShowsG actC w' d1 (.slice B l1.length cc) l1))
  have HOK1 := Lib.hid hok2
  have HD1 := Lib.hid (fun hp => h2.lt hp)
  obtain ⟨R, hR⟩ : ∃ R, R = (200 : Int).toNat := ⟨_, rfl⟩
  have HN := Lib.hid (new_any 200 w)
  rw [← hR] at HN
  have HQ0 := fun W => qnew_any 200 W
  rw [← hR] at HQ0
  have HQ := Lib.hid HQ0
  have hR9 : R ≤ 9223372036854775807 := by rw [hR]; decide
  have HB2 := Lib.hid (both_new R R w hR9 hR9)
  clear h hok h2 hok2 hR HQ0
  go_enter Try.func5, Try.ntmps5
  go_wp2_with fail
  with_reducible refine HN.out.mono ?_
  rintro e wa ⟨rfl, rfl⟩
  go_wp2_with fail
  refine (HQ.out _).mono ?_
  rintro e wb ⟨rfl, rfl⟩
  have hB2 := HB2.out
  unfold twoNew at hB2
  simp only [World.size_alloc]
  generalize World.alloc (World.alloc (World.alloc w _) _) _ = w0 at *
  have hB3 := Lib.hid hB2
  clear hB2 HB2 HN HQ
  go_wp2_with fail
  go_loopw [7] (fun ii wr => ∃ (i : Nat) (st : DD), ii = .int .i64 i ∧ i ≤ l0.length ∧ i ≤ 30 ∧ Hid (Both w w.heap.size (w.heap.size + 1) (w.heap.size + 1 + 1) (fun _ => False) i i st st wr)) (fun ii _ => l0.length - (intOf ii).toNat)
  case atStart => exact ⟨0, _, rfl, Nat.zero_le _, by omega, hB3⟩
  case round =>
    obtain ⟨i, st, rfl, hi, h40, HB⟩ := hrel
    rename World => wj
    have hbel := HB.out.bel
    have hfit := HB.out.fit
    have hcs : (i < l0.length ∧ i < 30) ∨ (i < l0.length ∧ ¬ i < 30) ∨ ¬ i < l0.length := by omega
    rcases hcs with ⟨hlt, hlt4⟩ | hcs
    · have hli : (i : Int) < (l0.length : Int) := by omega
      · have hl4 : (i : Int) < 30 := by omega
        have HLj := HL0.out wj hbel
        obtain ⟨o, rfl, hd0, hcl⟩ := HLj.at_ (by omega)
        obtain ⟨c0, c1, c2, c3, c4⟩ := act_cell hcl hlt
        have hokx := HOK0.out _ (List.getElem_mem hlt)
        have hdw : d0 < w.heap.size := HD0.out (by omega)
        obtain ⟨e, he⟩ : ∃ e, e = l0[i] := ⟨_, rfl⟩
        rw [← he] at c0 c1 c2 c3 c4 hokx
        clear he hcl HLj
        obtain ⟨x, Ak, ck, dk⟩ := e
        obtain ⟨k1, k2, k3, k4, k5, k6, k7, k8⟩ := hokx
        simp only [] at c0 c1 c2 c3 c4 k1 k2 k3 k4 k5 k6 k7 k8
        have hdk : dk < w.heap.size := by
          rcases Nat.eq_zero_or_pos x.keep.length with hz | hz
          · rw [k8 hz]; omega
          · exact k7 hz
        have hC := fun W (hb : Below wj.heap.size wj W) => show W.cell? ⟨d0, o + i * 5, none⟩ = some (.int .u8 (x.what : Nat)) ∧ W.cell? ⟨d0, o + i * 5 + 1, none⟩ = some (.string (str8 x.name)) ∧ W.cell? ⟨d0, o + i * 5 + 2, none⟩ = some (.string (str8 x.«to»)) ∧ W.cell? ⟨d0, o + i * 5 + 3, none⟩ = some (.int .i64 x.n) ∧ W.cell? ⟨d0, o + i * 5 + 4, none⟩ = some (.slice Ak x.keep.length ck) from
          ⟨(World.cell?_of_block (w := wj) (hb.block d0 (by omega))).trans c0, (World.cell?_of_block (w := wj) (hb.block d0 (by omega))).trans c1, (World.cell?_of_block (w := wj) (hb.block d0 (by omega))).trans c2, (World.cell?_of_block (w := wj) (hb.block d0 (by omega))).trans c3, (World.cell?_of_block (w := wj) (hb.block d0 (by omega))).trans c4⟩
        have HC := Lib.hid hC
        have HG := Lib.hid (great_any x Ak ck wj)
        have HDO := Lib.hid (fun W (hB : Both w w.heap.size (w.heap.size + 1) (w.heap.size + 1 + 1) (fun _ => False) i i st st W) => does_any hB (by omega) (by omega) (fun _ hk => hk.elim) x k1 (by omega) (by omega) k4.2 Ak x.keep.length ck dk k5 hdk (Nat.le_refl _) (by omega))
        have HK := Lib.hid (And.intro k1 k4)
        clear hC k1 k2 k3 k4 k5 k6 k7 k8
        go_wp2_with fail
        with_reducible refine HG.out.mono ?_
        rintro e w1 ⟨rfl, hb1⟩
        obtain ⟨g0, g1, g2, g3, g4⟩ := HC.out w1 hb1
        have hB1 := HB.out.below hb1 (Y := fun _ => False) (fun _ hk => hk.elim)
        cases hgr : greatA x with
        | true =>
          have HH := Lib.hid (head_here w w1 w.heap.size hB1.bel hB1.fit)
          go_wp2_with fail
          with_reducible refine HH.out.mono ?_
          rintro e w2 ⟨rfl, hb2⟩
          go_wp2_with fail
          go_ret
          exact ⟨rfl, hb2⟩
        | false =>
          have HDD := Lib.hid (HDO.out w1 hB1)
          clear hB1 c0 c1 c2 c3 c4
          go_wp2_with fail
          with_reducible refine HDD.out.mono ?_
          rintro e w2 ⟨r, rfl, hr, hB, _⟩
          obtain rfl := hr rfl
          generalize (doD st x).1 = st' at *
          have HB2 := Lib.hid hB
          clear hB
          go_wp2_with fail
          go_roundw
          case rel => exact ⟨i + 1, st', by go_num, by omega, by omega, HB2⟩
          case measure => simp [intOf]; omega
    · have hN : i ≤ 30 := h40
      have hwf := HB.out.wf
      obtain ⟨mb, Y, hdi⟩ := HB.out.di
      have HCP := Lib.hid (copy_any hdi hwf (by omega))
      have HQC := Lib.hid (fun W (hb : Below wj.heap.size wj W) => show Calls Try.prog 20 #[.pointer (some ⟨w.heap.size + 1 + 1, 0, none⟩)] W (QCopied W st) by
        obtain ⟨v, hq⟩ := (HB.out.below hb (Y := fun _ => False) (fun _ hk => hk.elim)).qi
        exact qcopy_any hq (by have := hwf.count; omega))
      have HO := Lib.hid (fun W (hb : Below wj.heap.size wj W) => HB.out.below hb (Y := fun _ => False) (fun _ hk => hk.elim))
      have HBC := Lib.hid (fun w1 w2 cb u hC hb1 hq hb2 => both_copied (w1 := w1) (w2 := w2) (cb := cb) (u := u) HB.out hC hb1 hq hb2)
      have HS := Lib.hid (And.intro hfit hbel)
      clear HB hdi hwf hbel hfit
      rcases hcs with ⟨hlt, hlt4⟩ | hlt
      all_goals
        try have hli : (i : Int) < (l0.length : Int) := by omega
        try have hli : ¬ (i : Int) < (l0.length : Int) := by omega
        try have hl4 : ¬ (i : Int) < 30 := by omega
        go_wp2_with fail
        with_reducible refine HCP.out.mono ?_
        rintro e wp ⟨rfl, hcp, hbp⟩
        have HQP := Lib.hid (HQC.out wp hbp)
        clear HCP HQC
        go_wp2_with fail
        with_reducible refine HQP.out.mono ?_
        rintro e wq ⟨cb, vq, rfl, hq, hbq⟩
        have HBS := Lib.hid (HBC.out wp wq cb vq hcp hbp hq hbq)
        clear hcp hbp hq hbq HQP HBC hli
        go_wp2_with fail
        go_loopw [10] (fun ii wr => ∃ (j : Nat) (sc : DD), ii = .int .i64 j ∧ j ≤ l1.length ∧ j ≤ 30 ∧ Hid (Both wj wj.heap.size wj.heap.size cb (fun _ => False) (i + j) (i + j) sc sc wr)) (fun ii _ => l1.length - (intOf ii).toNat)
        case atStart => exact ⟨0, _, rfl, Nat.zero_le _, by omega, HBS⟩
        case round =>
          obtain ⟨j, sc, rfl, hj, hj3, HB⟩ := hrel
          rename World => wr
          have hbel0 := HB.out.bel
          have hfit0 := HB.out.fit
          have hbw := HS.out.2
          have hfw := HS.out.1
          have hbel : Below w.heap.size w wr := hbw.trans (hbel0.mono hfw)
          have hfit : w.heap.size ≤ wr.heap.size := by omega
          by_cases hlt : j < l1.length
          · have hmi : (j : Int) < (l1.length : Int) := by omega
            by_cases hlt5 : j < 30
            · have hm4 : (j : Int) < 30 := by omega
              have HLj := HL1.out wr hbel
              obtain ⟨o, rfl, hd0, hcl⟩ := HLj.at_ (by omega)
              obtain ⟨c0, c1, c2, c3, c4⟩ := act_cell hcl hlt
              have hokx := HOK1.out _ (List.getElem_mem hlt)
              have hdw : d1 < w.heap.size := HD1.out (by omega)
              obtain ⟨e, he⟩ : ∃ e, e = l1[j] := ⟨_, rfl⟩
              rw [← he] at c0 c1 c2 c3 c4 hokx
              clear he hcl HLj
              obtain ⟨x, Ak, ck, dk⟩ := e
              obtain ⟨k1, k2, k3, k4, k5, k6, k7, k8⟩ := hokx
              simp only [] at c0 c1 c2 c3 c4 k1 k2 k3 k4 k5 k6 k7 k8
              have hdk : dk < w.heap.size := by
                rcases Nat.eq_zero_or_pos x.keep.length with hz | hz
                · rw [k8 hz]; omega
                · exact k7 hz
              have hC := fun W (hb : Below wr.heap.size wr W) => show W.cell? ⟨d1, o + j * 5, none⟩ = some (.int .u8 (x.what : Nat)) ∧ W.cell? ⟨d1, o + j * 5 + 1, none⟩ = some (.string (str8 x.name)) ∧ W.cell? ⟨d1, o + j * 5 + 2, none⟩ = some (.string (str8 x.«to»)) ∧ W.cell? ⟨d1, o + j * 5 + 3, none⟩ = some (.int .i64 x.n) ∧ W.cell? ⟨d1, o + j * 5 + 4, none⟩ = some (.slice Ak x.keep.length ck) from
                ⟨(World.cell?_of_block (w := wr) (hb.block d1 (by omega))).trans c0, (World.cell?_of_block (w := wr) (hb.block d1 (by omega))).trans c1, (World.cell?_of_block (w := wr) (hb.block d1 (by omega))).trans c2, (World.cell?_of_block (w := wr) (hb.block d1 (by omega))).trans c3, (World.cell?_of_block (w := wr) (hb.block d1 (by omega))).trans c4⟩
              have HC := Lib.hid hC
              have HG := Lib.hid (great_any x Ak ck wr)
              have k5' : ShowsG intC wj dk (.slice Ak x.keep.length ck) x.keep := k5.keep hfw fun _ => hbw.block dk hdk
              have HDO := Lib.hid (fun W (hB : Both wj wj.heap.size wj.heap.size cb (fun _ => False) (i + j) (i + j) sc sc W) => does_any hB (by omega) (by omega) (fun _ hk => hk.elim) x k1 (by omega) (by omega) k4.2 Ak x.keep.length ck dk k5' (by omega) (Nat.le_refl _) (by omega))
              have HK := Lib.hid (And.intro k1 k4)
              clear hC k1 k2 k3 k4 k5 k5' k6 k7 k8
              go_wp2_with fail
              with_reducible refine HG.out.mono ?_
              rintro e w1 ⟨rfl, hb1⟩
              obtain ⟨g0, g1, g2, g3, g4⟩ := HC.out w1 hb1
              have hB1 := HB.out.below hb1 (Y := fun _ => False) (fun _ hk => hk.elim)
              cases hgr : greatA x with
              | true =>
                have HH := Lib.hid (head_here w w1 w.heap.size (hbw.trans (hB1.bel.mono hfw)) (by have := hB1.fit; omega))
                go_wp2_with fail
                with_reducible refine HH.out.mono ?_
                rintro e w2 ⟨rfl, hb2⟩
                go_wp2_with fail
                go_ret
                exact ⟨rfl, hb2⟩
              | false =>
                have HDD := Lib.hid (HDO.out w1 hB1)
                clear hB1 c0 c1 c2 c3 c4
                go_wp2_with fail
                with_reducible refine HDD.out.mono ?_
                rintro e w2 ⟨r, rfl, hr, hB, _⟩
                obtain rfl := hr rfl
                generalize (doD sc x).1 = sc' at *
                have HSM := Lib.hid (same_any hB (by omega) (by omega))
                have HBN := Lib.hid hB
                clear hB
                go_wp2_with fail
                with_reducible refine HSM.out.mono ?_
                rintro e w3 ⟨rfl, hb3⟩
                have HB3 := Lib.hid (HBN.out.below hb3 (Y := fun _ => False) (fun _ hk => hk.elim))
                have HSO := Lib.hid (same_any (HO.out w3 HB3.out.bel) (by omega) (by omega))
                go_wp2_with fail
                with_reducible refine HSO.out.mono ?_
                rintro e w4 ⟨rfl, hb4⟩
                have HB4 := Lib.hid (HB3.out.below hb4 (Y := fun _ => False) (fun _ hk => hk.elim))
                go_wp2_with fail
                go_roundw
                case rel => exact ⟨j + 1, sc', by go_num, by omega, by omega, HB4⟩
                case measure => simp [intOf]; omega
            · have hm4 : ¬ (j : Int) < 30 := by omega
              have HH := Lib.hid (head_here w wr w.heap.size hbel hfit)
              go_wp2_with fail
              with_reducible refine HH.out.mono ?_
              rintro e w2 ⟨rfl, hb2⟩
              go_wp2_with fail
              go_ret
              exact ⟨rfl, hb2⟩
          · have hmi : ¬ (j : Int) < (l1.length : Int) := by omega
            have HH := Lib.hid (head_here w wr w.heap.size hbel hfit)
            go_wp2_with fail
            with_reducible refine HH.out.mono ?_
            rintro e w2 ⟨rfl, hb2⟩
            go_wp2_with fail
            go_ret
            exact ⟨rfl, hb2⟩

set_option maxRecDepth 100000 in
set_option maxHeartbeats 1000000 in
theorem dapart_walk_lifted (os : Os) (started : os.Started) (H : Type) (enc : TypeId × Value → H) :
    ReturnsInHanded {} Try.checked os 5 .any (Rows.diskApartSpec.pre6 enc Try.prog Try.f5 Rows.diskApartRow.domain false) (Rows.diskApartSpec.post enc Try.prog Try.f5 false true false false) := by
  refine returnsInHanded_of_change_sized (C := Try.checked) own started (by kernel_rfl) Try.func5
    (ChangeSpec.witness6 (enc := enc) (C := Try.checked) false ⟨#[], #[.slice none 0 0, .slice none 0 0], []⟩ 8 (by kernel_rfl) (by kernel_rfl) (by kernel_rfl) (by kernel_rfl)) ?_
  intro W base args ds gs before hval0 hW hcnd hsz0 _
  have hval : ∀ (j : Nat) t v, Try.f5.params[j]? = some t → args[j]? = some v → Value.okWide Try.prog W .any base t v := hval0
  have hsz : (DataW.weightsEach Try.prog (Try.f5.params.toList ++ Rows.diskApartSpec.plain.varTypes Try.prog) (ds ++ gs)).all (· ≤ reachBytes) = true := hsz0
  have hW' := hW
  obtain ⟨p, q, hA0, hV, rfl, hfz, hnd⟩ := hW
  have hA : DataW.TrodAll enc Try.prog W 0 (fun _ => true) true Try.f5.params.toList args.toList ds p := hA0
  rw [Try.params5] at hA hval hsz
  obtain ⟨v0, vs0, d0, ds0, p0, q0, hargs, rfl, rfl, h0, r0⟩ := trodAll_cons hA
  obtain ⟨v1, vs1, d1, ds1, p1, q1, rfl, rfl, rfl, h1, r1⟩ := trodAll_cons r0
  obtain ⟨rfl, rfl, rfl⟩ := trodAll_nil r1
  obtain rfl : args = #[v0, v1] := by cases args; simp_all
  obtain ⟨rfl, rfl⟩ := trodVars_none hV
  have k0 := h0
  have lt0 : ∀ x ∈ p0, x.block < W.heap.size := by obtain ⟨m, hm⟩ := k0; exact DataW.trod_lt m _ _ _ hm
  have k1 := h1
  have lt1 : ∀ x ∈ p1, x.block < W.heap.size := by obtain ⟨m, hm⟩ := k1; exact DataW.trod_lt m _ _ _ hm
  obtain ⟨A0, c0, b0, L0, rfl, sh0, l0, ok0⟩ := open_acts (hval 0 22 v0 rfl rfl) h0 hsz 0 rfl rfl
  obtain ⟨A1, c1, b1, L1, rfl, sh1, l1, ok1⟩ := open_acts (hval 1 22 v1 rfl rfl) h1 hsz 1 rfl rfl
  clear hA0 hval0
  refine (dapart_walk A0 c0 b0 L0 A1 c1 b1 L1 W sh0 l0 ok0 sh1 l1 ok1).mono fun e W' ⟨he, bel⟩ => ?_
  subst he
  exact ⟨_, rfl, _, _, _, [], _, [], hW', trodAll_mk1 (shut_bool Try.underlying4 _), (trodAll_cons_mk (Below.trod laidOut (by kernel_rfl) (of_decide_eq_true (by kernel_rfl)) k0 bel lt0) (trodAll_cons_mk (Below.trod laidOut (by kernel_rfl) (of_decide_eq_true (by kernel_rfl)) k1 bel lt1) trodAll_mk0)), rfl, bel.frame _, fun h => by cases h⟩

theorem diskApart_holds : Rows.DiskApartSaid :=
  OpenClaim.holds_of_wide 5 Try.f5 rfl rfl rfl rfl rfl rfl rfl ⟨rfl, rfl, rfl, rfl, rfl⟩ rfl rfl rfl rfl rfl (by kernel_rfl) Try.func5 (by kernel_rfl)
    (of_decide_eq_true (by kernel_rfl)) (by unfold Func.isWrapper; first | (rw [if_pos (by decide +kernel)]; kernel_rfl) | (rw [if_neg (by decide +kernel)]; exact ⟨rfl, rfl⟩))
    (fun os started H enc _ => dapart_walk_lifted os started H enc)
#print axioms diskApart_holds
end Go.Proofs.Ytngjmeohleoglaa
