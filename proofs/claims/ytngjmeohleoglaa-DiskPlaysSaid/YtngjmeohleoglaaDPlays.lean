/-
  DiskPlays: for every room and every row of calls the law returns true, and its arguments read as before.
  Conditions: none.
-/
import Derived.Test.YtngjmeohleoglaaDqV
import Derived.Deep.CutBlock
import Derived.WalkMore
namespace Go.Proofs.Ytngjmeohleoglaa
open Go.ChangeShapes Go.WideShapes Go.ChangeAt Go.RowKit Go.Shelf
set_option linter.unusedVariables false
set_option linter.unusedSimpArgs false
set_option maxRecDepth 100000

theorem head_here (w0 w : World) (base : Nat) (hb : Below base w0 w) (hf : base ≤ w.heap.size) : Calls Try.prog 10 #[] w fun e w' => e = .returned (.bool true) ∧ Below base w0 w' :=
  (head_any w).mono fun _ _ ⟨h1, h2⟩ => ⟨h1, hb.trans (h2.mono hf)⟩

set_option maxHeartbeats 4000000 in
theorem dplays_walk (room : Int) (A : Option Addr) (c d0 : Nat) (l : List ActE) (w : World) (hr1 : -9223372036854775808 ≤ room) (hr2 : room ≤ 9223372036854775807) (h : ShowsG actC w d0 (.slice A l.length c) l) (hl : l.length ≤ 1954687338211) (hok : ∀ e ∈ l, e.ok w) :
    Calls Try.prog 3 #[.int .i64 room, .slice A l.length c] w fun e w' => e = .returned (.bool true) ∧ Below w.heap.size w w' := by
  have HL := Lib.hid (fun w' (hb : Below w.heap.size w w') => (h.keep hb.size fun hp => hb.block d0 (h.lt hp) : ShowsG actC w' d0 (.slice A l.length c) l))
  have HOK := Lib.hid hok
  have HD0 := Lib.hid (fun hp => h.lt hp)
  obtain ⟨R, hR⟩ : ∃ R, R = room.toNat := ⟨_, rfl⟩
  have hmax : max room 0 = (R : Int) := by omega
  have hR9 : R ≤ 9223372036854775807 := by omega
  have HN := Lib.hid (new_any room w)
  rw [← hR] at HN
  have HQ0 := fun W => qnew_any room W
  rw [← hR] at HQ0
  have HQ := Lib.hid HQ0
  have HB2 := Lib.hid (both_new R R w hR9 hR9)
  clear h hok hR HQ0
  go_enter Try.func3, Try.ntmps3
  go_wp2_with fail
  with_reducible refine HN.out.mono ?_
  rintro e wa ⟨rfl, rfl⟩
  go_wp2_with fail
  refine (HQ.out _).mono ?_
  rintro e wb ⟨rfl, rfl⟩
  have hB2 := HB2.out
  unfold twoNew at hB2
  simp only [World.size_alloc]
  generalize World.alloc (World.alloc (World.alloc w _) _) _ = w0 at *
  have hB2' := Lib.hid hB2
  clear hB2 HB2 HN HQ
  go_wp2_with fail
  go_loopw [7] (fun ii wr => ∃ (i : Nat) (st : DD), ii = .int .i64 i ∧ i ≤ l.length ∧ i ≤ 60 ∧ Hid (Both w w.heap.size (w.heap.size + 1) (w.heap.size + 1 + 1) (fun _ => False) i i st st wr)) (fun ii _ => l.length - (intOf ii).toNat)
  case atStart => exact ⟨0, _, rfl, Nat.zero_le _, by omega, hB2'⟩
  case round =>
    obtain ⟨i, st, rfl, hi, h40, HB⟩ := hrel
    rename World => wj
    have hbel := HB.out.bel
    have hfit := HB.out.fit
    by_cases hlt : i < l.length
    · have hli : (i : Int) < (l.length : Int) := by omega
      by_cases hlt4 : i < 60
      · have hl4 : (i : Int) < 60 := by omega
        have HLj := HL.out wj hbel
        obtain ⟨o, rfl, hd0, hcl⟩ := HLj.at_ (by omega)
        obtain ⟨c0, c1, c2, c3, c4⟩ := act_cell hcl hlt
        have hokx := HOK.out _ (List.getElem_mem hlt)
        have hdw : d0 < w.heap.size := HD0.out (by omega)
        obtain ⟨e, he⟩ : ∃ e, e = l[i] := ⟨_, rfl⟩
        rw [← he] at c0 c1 c2 c3 c4 hokx
        clear he hcl HLj
        obtain ⟨x, Ak, ck, dk⟩ := e
        obtain ⟨k1, k2, k3, k4, k5, k6, k7, k8⟩ := hokx
        simp only [] at c0 c1 c2 c3 c4 k1 k2 k3 k4 k5 k6 k7 k8
        have hdk : dk < w.heap.size := by
          rcases Nat.eq_zero_or_pos x.keep.length with hz | hz
          · rw [k8 hz]; omega
          · exact k7 hz
        have hC := fun W (hb : Below wj.heap.size wj W) => show W.cell? ⟨d0, o + i * 5, none⟩ = some (.int .u8 (x.what : Nat)) ∧ W.cell? ⟨d0, o + i * 5 + 1, none⟩ = some (.string (str8 x.name)) ∧ W.cell? ⟨d0, o + i * 5 + 2, none⟩ = some (.string (str8 x.«to»)) ∧ W.cell? ⟨d0, o + i * 5 + 3, none⟩ = some (.int .i64 x.n) ∧ W.cell? ⟨d0, o + i * 5 + 4, none⟩ = some (.slice Ak x.keep.length ck) from
          ⟨(World.cell?_of_block (w := wj) (hb.block d0 (by omega))).trans c0, (World.cell?_of_block (w := wj) (hb.block d0 (by omega))).trans c1, (World.cell?_of_block (w := wj) (hb.block d0 (by omega))).trans c2, (World.cell?_of_block (w := wj) (hb.block d0 (by omega))).trans c3, (World.cell?_of_block (w := wj) (hb.block d0 (by omega))).trans c4⟩
        have HC := Lib.hid hC
        have HG := Lib.hid (great_any x Ak ck wj)
        have HDO := Lib.hid (fun W (hB : Both w w.heap.size (w.heap.size + 1) (w.heap.size + 1 + 1) (fun _ => False) i i st st W) => does_any hB (by omega) (by omega) (fun _ hk => hk.elim) x k1 (by omega) (by omega) k4.2 Ak x.keep.length ck dk k5 hdk (Nat.le_refl _) (by omega))
        have HK := Lib.hid (And.intro k1 k4)
        clear hC k1 k2 k3 k4 k5 k6 k7 k8
        go_wp2_with fail
        with_reducible refine HG.out.mono ?_
        rintro e w1 ⟨rfl, hb1⟩
        obtain ⟨g0, g1, g2, g3, g4⟩ := HC.out w1 hb1
        have hB1 := HB.out.below hb1 (Y := fun _ => False) (fun _ hk => hk.elim)
        cases hgr : greatA x with
        | true =>
          have HH := Lib.hid (head_here w w1 w.heap.size hB1.bel hB1.fit)
          go_wp2_with fail
          with_reducible refine HH.out.mono ?_
          rintro e w2 ⟨rfl, hb2⟩
          go_wp2_with fail
          go_ret
          exact ⟨rfl, hb2⟩
        | false =>
          have HD1 := Lib.hid (HDO.out w1 hB1)
          clear hB1 c0 c1 c2 c3 c4
          go_wp2_with fail
          with_reducible refine HD1.out.mono ?_
          rintro e w2 ⟨r, rfl, hr, hB, _⟩
          obtain rfl := hr rfl
          generalize (doD st x).1 = st' at *
          have HSM := Lib.hid (same_any hB (by omega) (by omega))
          have HB2 := Lib.hid hB
          clear hB
          go_wp2_with (with_reducible refine HSM.out.mono ?_; rintro e w3 ⟨rfl, hb3⟩)
          have HB3 := Lib.hid (HB2.out.below hb3 (Y := fun _ => False) (fun _ hk => hk.elim))
          go_roundw
          case rel => exact ⟨i + 1, st', by go_num, by omega, by omega, HB3⟩
          case measure => simp [intOf]; omega
      · have hl4 : ¬ (i : Int) < 60 := by omega
        have HH := Lib.hid (head_here w wj w.heap.size hbel hfit)
        go_wp2_with fail
        with_reducible refine HH.out.mono ?_
        rintro e w2 ⟨rfl, hb2⟩
        go_wp2_with fail
        go_ret
        exact ⟨rfl, hb2⟩
    · have hli : ¬ (i : Int) < (l.length : Int) := by omega
      have HH := Lib.hid (head_here w wj w.heap.size hbel hfit)
      go_wp2_with fail
      with_reducible refine HH.out.mono ?_
      rintro e w2 ⟨rfl, hb2⟩
      go_wp2_with fail
      go_ret
      exact ⟨rfl, hb2⟩

set_option maxRecDepth 100000 in
set_option maxHeartbeats 1000000 in
theorem dplays_walk_lifted (os : Os) (started : os.Started) (H : Type) (enc : TypeId × Value → H) :
    ReturnsInHanded {} Try.checked os 3 .any (Rows.diskPlaysSpec.pre6 enc Try.prog Try.f3 Rows.diskPlaysRow.domain false) (Rows.diskPlaysSpec.post enc Try.prog Try.f3 false true false false) := by
  refine returnsInHanded_of_change_sized (C := Try.checked) own started (by kernel_rfl) Try.func3
    (ChangeSpec.witness6 (enc := enc) (C := Try.checked) false ⟨#[], #[.int .i64 0, .slice none 0 0], []⟩ 8 (by kernel_rfl) (by kernel_rfl) (by kernel_rfl) (by kernel_rfl)) ?_
  intro W base args ds gs before hval0 hW hcnd hsz0 _
  have hval : ∀ (j : Nat) t v, Try.f3.params[j]? = some t → args[j]? = some v → Value.okWide Try.prog W .any base t v := hval0
  have hsz : (DataW.weightsEach Try.prog (Try.f3.params.toList ++ Rows.diskPlaysSpec.plain.varTypes Try.prog) (ds ++ gs)).all (· ≤ reachBytes) = true := hsz0
  have hW' := hW
  obtain ⟨p, q, hA0, hV, rfl, hfz, hnd⟩ := hW
  have hA : DataW.TrodAll enc Try.prog W 0 (fun _ => true) true Try.f3.params.toList args.toList ds p := hA0
  rw [Try.params3] at hA hval hsz
  obtain ⟨v0, vs0, d0, ds0, p0, q0, hargs, rfl, rfl, h0, r0⟩ := trodAll_cons hA
  obtain ⟨v1, vs1, d1, ds1, p1, q1, rfl, rfl, rfl, h1, r1⟩ := trodAll_cons r0
  obtain ⟨rfl, rfl, rfl⟩ := trodAll_nil r1
  obtain rfl : args = #[v0, v1] := by cases args; simp_all
  obtain ⟨rfl, rfl⟩ := trodVars_none hV
  have k0 := h0
  have lt0 : ∀ x ∈ p0, x.block < W.heap.size := by obtain ⟨m, hm⟩ := k0; exact DataW.trod_lt m _ _ _ hm
  have k1 := h1
  have lt1 : ∀ x ∈ p1, x.block < W.heap.size := by obtain ⟨m, hm⟩ := k1; exact DataW.trod_lt m _ _ _ hm
  obtain ⟨s0, rfl, rfl, rfl, ws0⟩ := open_int Try.underlying3 (hval 0 3 v0 rfl rfl) h0
  obtain ⟨s00, s01⟩ := i64_range ws0
  obtain ⟨A1, c1, b1, L1, rfl, sh1, l1, ok1⟩ := open_acts (hval 1 22 v1 rfl rfl) h1 hsz 1 rfl rfl
  clear hA0 hval0
  refine (dplays_walk s0 A1 c1 b1 L1 W s00 s01 sh1 l1 ok1).mono fun e W' ⟨he, bel⟩ => ?_
  subst he
  exact ⟨_, rfl, _, _, _, [], _, [], hW', trodAll_mk1 (shut_bool Try.underlying4 _), (trodAll_cons_mk (Below.trod laidOut (by kernel_rfl) (of_decide_eq_true (by kernel_rfl)) k0 bel lt0) (trodAll_cons_mk (Below.trod laidOut (by kernel_rfl) (of_decide_eq_true (by kernel_rfl)) k1 bel lt1) trodAll_mk0)), rfl, bel.frame _, fun h => by cases h⟩

theorem diskPlays_holds : Rows.DiskPlaysSaid :=
  OpenClaim.holds_of_wide 3 Try.f3 rfl rfl rfl rfl rfl rfl rfl ⟨rfl, rfl, rfl, rfl, rfl⟩ rfl rfl rfl rfl rfl (by kernel_rfl) Try.func3 (by kernel_rfl)
    (of_decide_eq_true (by kernel_rfl)) (by unfold Func.isWrapper; first | (rw [if_pos (by decide +kernel)]; kernel_rfl) | (rw [if_neg (by decide +kernel)]; exact ⟨rfl, rfl⟩))
    (fun os started H enc _ => dplays_walk_lifted os started H enc)
#print axioms diskPlays_holds
end Go.Proofs.Ytngjmeohleoglaa
