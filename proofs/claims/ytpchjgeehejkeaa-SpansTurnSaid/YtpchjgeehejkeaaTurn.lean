/-
  SpansTurn: for every input the law returns true, and its arguments read as before.
  Conditions: none.
-/
import Derived.Test.YtpchjgeehejkeaaSpJ
namespace Go.Proofs.Ytpchjgeehejkeaa
open Go.ChangeShapes Go.WideShapes Go.ChangeAt Go.RowKit
set_option linter.unusedVariables false
set_option linter.unusedSimpArgs false

theorem changeSaid_one {m : Nat} {a : List Sp} {n1 x y : Nat} {v v' : Value} {c c' : Int} {r r' : List Sp} (h1 : ChangeSaid m a n1 x y v c r) (h2 : ChangeSaid m a n1 x y v' c' r') : c = c' ∧ r = r' := by
  rcases h1 with ⟨a1, a2, rfl, a3, a4, _⟩ | ⟨a1, rfl, rfl, _⟩ | ⟨a1, a2, rfl, rfl, _⟩ <;> rcases h2 with ⟨b1, b2, rfl, b3, b4, _⟩ | ⟨b1, rfl, rfl, _⟩ | ⟨b1, b2, rfl, rfl, _⟩
  · exact ⟨rfl, canon_unique (b := 0) a3 b3 fun n => (a4 n).trans (b4 n).symm⟩
  all_goals first | exact ⟨rfl, rfl⟩ | (exfalso; contradiction)
theorem changeSaid_len {m : Nat} {a : List Sp} {n1 x y : Nat} {v : Value} {c : Int} {r : List Sp} (h1 : ChangeSaid m a n1 x y v c r) : r.length ≤ 2 * (n1 + 1) := by
  rcases h1 with ⟨_, _, _, _, _, _, h⟩ | ⟨_, _, rfl, _⟩ | ⟨_, _, _, rfl, _⟩
  · exact h
  · simp
  · simp

set_option maxRecDepth 100000 in
set_option maxHeartbeats 3200000 in
theorem turn_walk (A1 : Option Addr) (c1 d1 : Nat) (a : List Sp) (x y : Nat) (w : World) (h1 : ShowsG spanC w d1 (.slice A1 a.length c1) a) (hu1 : u32s a) (hb1 : a.length ≤ 17592186044416) (hx : x < 4294967296) (hy : y < 4294967296) :
    Calls Try.prog 4 #[.slice A1 a.length c1, .int .u32 x, .int .u32 y] w fun e w' => e = .returned (.bool true) ∧ Below w.heap.size w w' := by
  have hhead := Lib.hid (fun w' => head_any w')
  by_cases h60 : (40 : Int) < (a.length : Int)
  · clear h1
    go_enter Try.func4, Try.ntmps4
    go_wp2_with fail
    refine (hhead.out _).mono ?_
    rintro e w1 ⟨rfl, hb1⟩
    go_wp2_with fail
    go_ret
    exact ⟨rfl, hb1⟩
  · have hl1 : a.length ≤ 40 := by omega
    have H17 := Lib.hid (qcopy_any A1 c1 a.length d1 a w rfl h1 (by omega))
    have H18 := Lib.hid (fun A c d w' (s1 : ShowsG spanC w' d (.slice A a.length c) a) => add_any A c a.length d x y a w' rfl s1 hu1 (by omega) hx hy)
    have H20 := Lib.hid (fun A c d w' (s1 : ShowsG spanC w' d (.slice A a.length c) a) => cut_any A c a.length d x y a w' rfl s1 hu1 (by omega) hx hy)
    have H19 := Lib.hid (fun w' cuts (hb' : Below w.heap.size w w') => qadd_any A1 c1 a.length d1 x y cuts a w' rfl (h1.below' hb' (Nat.le_refl _)) hu1 (by omega) hx hy)
    have HS1 := Lib.hid h1
    clear h1 hu1 hb1
    go_enter Try.func4, Try.ntmps4
    go_wp2_with fail
    refine H17.out.mono ?_
    rintro e w1 ⟨vx, rfl, ox, b1⟩
    obtain ⟨Ax, cx, rfl, _, _⟩ := ox.form
    obtain ⟨gx, _, sx⟩ := ox.shows
    go_wp2_with fail
    refine (H18.out Ax cx gx w1 sx).mono ?_
    rintro e w2 ⟨va, code2, r2, rfl, o2, b2, s2⟩
    have b2' : Below w.heap.size w w2 := b1.trans (b2.mono b1.size)
    go_wp2_with fail
    refine (H19.out w2 false b2').mono ?_
    rintro e w3 ⟨vb, code3, r3, rfl, o3, b3, s3⟩
    have b3' : Below w.heap.size w w3 := b2'.trans (b3.mono b2'.size)
    have z2 := b2.size
    have z3 := b3.size
    have b13 : Below w1.heap.size w1 w3 := b2.trans (b3.mono z2)
    have sx3 := sx.below' b13 (Nat.le_refl _)
    go_wp2_with fail
    refine (H20.out Ax cx gx w3 sx3).mono ?_
    rintro e w4 ⟨vc, code4, r4, rfl, o4, b4, s4⟩
    have b4' : Below w.heap.size w w4 := b3'.trans (b4.mono b3'.size)
    go_wp2_with fail
    refine (H19.out w4 true b4').mono ?_
    rintro e w5 ⟨vd, code5, r5, rfl, o5, b5, s5⟩
    have b5' : Below w.heap.size w w5 := b4'.trans (b5.mono b4'.size)
    have hlen2 := changeSaid_len s2
    have hlen4 := changeSaid_len s4
    obtain ⟨e1, e2⟩ := changeSaid_one (c' := code3) (r' := r3) s2 s3
    obtain ⟨e3, e4⟩ := changeSaid_one (c' := code5) (r' := r5) s4 s5
    subst e1 e2 e3 e4
    have z4 := b4.size
    have z5 := b5.size
    have b35 : Below w3.heap.size w3 w5 := b4.trans (b5.mono z4)
    have b15 : Below w1.heap.size w1 w5 := b13.trans (b35.mono (by omega))
    have o2' := (o2.below b3 (Nat.le_refl _)).below b35 (Nat.le_refl _)
    have o3' := o3.below b35 (Nat.le_refl _)
    have o4' := o4.below b5 (Nat.le_refl _)
    have hblk : ∀ g, va.ownBlock = some g → g < w3.heap.size := fun g hg => by have := (o2.block g hg).2; omega
    obtain ⟨A2, c2, rfl, _, _⟩ := o2'.form
    obtain ⟨A3, c3, rfl, _, _⟩ := o3'.form
    obtain ⟨A4, c4, rfl, _, _⟩ := o4'.form
    obtain ⟨A5, c5, rfl, _, _⟩ := o5.form
    obtain ⟨g2, _, t2⟩ := o2'.shows
    obtain ⟨g3, _, t3⟩ := o3'.shows
    obtain ⟨g4, _, t4⟩ := o4'.shows
    obtain ⟨g5, _, t5⟩ := o5.shows
    have S1 := Lib.hid (qsame_any A2 A3 c2 c3 r2.length r2.length g2 g3 r2 r2 w5 rfl rfl t2 t3 (by omega) (by omega))
    have S2 := Lib.hid (fun q => qsame_any A4 A5 c4 c5 r4.length r4.length g4 g5 r4 r4 (w5.drewN q) rfl rfl (t4.drewN q) (t5.drewN q) (by omega) (by omega))
    rw [show decide (r2 = r2) = true by simp] at S1
    rw [show decide (r4 = r4) = true by simp] at S2
    have HO2 := Lib.hid o2'
    have HO4 := Lib.hid o4'
    have HBL := Lib.hid hblk
    have HX := Lib.hid ox
    clear s2 s3 s4 s5 o2 o3 o4 o5 o2' o3' o4' t2 t3 t4 t5 H17 H18 H19 H20 ox sx sx3 hblk
    go_wp2_with fail
    refine S1.out.mono ?_
    rintro e w' ⟨rfl, m1, rfl⟩
    go_wp2_with fail
    refine (S2.out m1).mono ?_
    rintro e w' ⟨rfl, m2, rfl⟩
    have bw : Below w1.heap.size w1 ((w5.drewN m1).drewN m2) := below_drewN (below_drewN b15 _) _
    have HP2 : Hid (OwnG spanC 37 ((w5.drewN m1).drewN m2) w1.heap.size (.slice A2 r2.length c2) r2) := HO2.out
    have HP4 : Hid (OwnG spanC 37 ((w5.drewN m1).drewN m2) w3.heap.size (.slice A4 r4.length c4) r4) := HO4.out
    clear HO2 HO4 S1 S2 b15 b35
    generalize (w5.drewN m1).drewN m2 = w7 at *
    go_wp2_with fail
    go_loopw [16] (fun s wr => ∃ (k : Nat) (r' : List Sp), k ≤ r2.length ∧ s = .int .i64 k ∧ r'.length = r2.length ∧ OwnG spanC 37 wr w1.heap.size (.slice A2 r2.length c2) r' ∧ Hid (OwnG spanC 37 wr w3.heap.size (.slice A4 r4.length c4) r4) ∧ Below w1.heap.size w1 wr) (fun s _ => r2.length - (intOf s).toNat)
    case atStart => exact ⟨0, r2, Nat.zero_le _, rfl, rfl, HP2.out, HP4, bw⟩
    case round =>
      rename World => wr
      obtain ⟨k, r', hk, rfl, hr', ho, HP4', hbw⟩ := hrel
      have HR := Lib.hid hr'
      clear hr'
      by_cases hlt : k < r2.length
      · obtain ⟨bb, rfl, hbb, hbl, hfr, hcl⟩ := ho.at_ (by omega)
        have cc : wr.cell? ⟨bb, k * 2 + 1, none⟩ = some (.int .u32 ((r'[k]'(by rw [HR.out]; exact hlt)).2 : Nat)) := by
          have := hcl k (by rw [HR.out]; exact hlt) 1 (by decide)
          simpa [pairC] using this
        have hf := hfr (k * 2 + 1)
        have hset := ho.set_ (y := ((r'[k]'(by rw [HR.out]; exact hlt)).1, 7)) k 1 (by rw [HR.out]; exact hlt) (by decide) (.int .u32 7) (by simp [pairC])
        have HSET := Lib.hid hset
        have hkl : (k : Int) < (r2.length : Int) := by omega
        have hbb3 : bb < w3.heap.size := HBL.out bb rfl
        clear hcl hfr hset
        go_wp2_with fail
        go_roundw
        case rel => exact ⟨k + 1, _, by omega, by go_num, by rw [List.length_set, HR.out], HSET.out, Lib.hid (HP4'.out.keep fun g hg => heap_setCell_other _ _ _ _ (by have := (HP4'.out.block g hg).1; simp; omega)), below_set hbw hbb _⟩
        case measure => simp [intOf]; omega
      · clear ho
        go_wp2_with fail
        go_loopw [17] (fun s wr => ∃ (k : Nat) (r' : List Sp), k ≤ r4.length ∧ s = .int .i64 k ∧ r'.length = r4.length ∧ OwnG spanC 37 wr w3.heap.size (.slice A4 r4.length c4) r' ∧ Below w1.heap.size w1 wr) (fun s _ => r4.length - (intOf s).toNat)
        case atStart => exact ⟨0, r4, Nat.zero_le _, rfl, rfl, HP4'.out, hbw⟩
        case round =>
          rename World => wq
          obtain ⟨k, r', hk, rfl, hr', ho, hbw⟩ := hrel
          have HR := Lib.hid hr'
          clear hr'
          by_cases hlt : k < r4.length
          · obtain ⟨bb, rfl, hbb, hbl, hfr, hcl⟩ := ho.at_ (by omega)
            have cc : wq.cell? ⟨bb, k * 2 + 1, none⟩ = some (.int .u32 ((r'[k]'(by rw [HR.out]; exact hlt)).2 : Nat)) := by
              have := hcl k (by rw [HR.out]; exact hlt) 1 (by decide)
              simpa [pairC] using this
            have hf := hfr (k * 2 + 1)
            have hset := ho.set_ (y := ((r'[k]'(by rw [HR.out]; exact hlt)).1, 7)) k 1 (by rw [HR.out]; exact hlt) (by decide) (.int .u32 7) (by simp [pairC])
            have HSET := Lib.hid hset
            have hkl : (k : Int) < (r4.length : Int) := by omega
            have hbb1 : w1.heap.size ≤ bb := by omega
            clear hcl hfr hset
            go_wp2_with fail
            go_roundw
            case rel => exact ⟨k + 1, _, by omega, by go_num, by rw [List.length_set, HR.out], HSET.out, below_set hbw hbb1 _⟩
            case measure => simp [intOf]; omega
          · have ox7 := HX.out.below hbw (Nat.le_refl _)
            have bwr : Below w.heap.size w wq := b1.trans (hbw.mono b1.size)
            obtain ⟨gx, _, sx⟩ := ox7.shows
            have S1 := Lib.hid (qsame_any Ax A1 cx c1 a.length a.length gx d1 a a wq rfl rfl sx (HS1.out.below' bwr (Nat.le_refl _)) (by omega) (by omega))
            rw [show decide (a = a) = true by simp] at S1
            clear ho ox7 sx
            go_wp2_with fail
            refine S1.out.mono ?_
            rintro e w' ⟨rfl, m1, rfl⟩
            have bwf := below_drewN bwr m1
            go_wp2_with fail
            refine (hhead.out _).mono ?_
            rintro e w9 ⟨rfl, hb9⟩
            go_wp2_with fail
            go_ret
            exact ⟨rfl, bwf.trans (hb9.mono bwf.size)⟩

set_option maxRecDepth 100000 in
theorem turn_walk_lifted (os : Os) (started : os.Started) (H : Type) (enc : TypeId × Value → H) :
    ReturnsInHanded {} Try.checked os 4 .any (Rows.spansTurnSpec.pre6 enc Try.prog Try.f4 Rows.spansTurnRow.domain false) (Rows.spansTurnSpec.post enc Try.prog Try.f4 false true false false) := by
  refine returnsInHanded_of_change_sized (C := Try.checked) own started (by kernel_rfl) Try.func4
    (ChangeSpec.witness6 (enc := enc) (C := Try.checked) false ⟨#[], #[.slice none 0 0, .int .u32 0, .int .u32 0], []⟩ 8 (by kernel_rfl) (by kernel_rfl) (by kernel_rfl) (by kernel_rfl)) ?_
  intro W base args ds gs before hval0 hW hcnd hsz0 _
  have hval : ∀ (j : Nat) t v, Try.f4.params[j]? = some t → args[j]? = some v → Value.okWide Try.prog W .any base t v := hval0
  have hsz : (DataW.weightsEach Try.prog (Try.f4.params.toList ++ Rows.spansTurnSpec.plain.varTypes Try.prog) (ds ++ gs)).all (· ≤ reachBytes) = true := hsz0
  have hW' := hW
  obtain ⟨p, q, hA0, hV, rfl, hfz, hnd⟩ := hW
  have hA : DataW.TrodAll enc Try.prog W 0 (fun _ => true) true Try.f4.params.toList args.toList ds p := hA0
  rw [Try.params4] at hA hval hsz
  obtain ⟨v0, vs0, d0, ds0, p0, q0, hargs, rfl, rfl, h0, r0⟩ := trodAll_cons hA
  obtain ⟨v1, vs1, d1, ds1, p1, q1, rfl, rfl, rfl, h1, r1⟩ := trodAll_cons r0
  obtain ⟨v2, vs2, d2, ds2, p2, q2, rfl, rfl, rfl, h2, r2⟩ := trodAll_cons r1
  obtain ⟨rfl, rfl, rfl⟩ := trodAll_nil r2
  obtain rfl : args = #[v0, v1, v2] := by cases args; simp_all
  obtain ⟨rfl, rfl⟩ := trodVars_none hV
  have k0 := h0
  have lt0 : ∀ x ∈ p0, x.block < W.heap.size := by obtain ⟨m, hm⟩ := k0; exact DataW.trod_lt m _ _ _ hm
  have k1 := h1
  have lt1 : ∀ x ∈ p1, x.block < W.heap.size := by obtain ⟨m, hm⟩ := k1; exact DataW.trod_lt m _ _ _ hm
  have k2 := h2
  have lt2 : ∀ x ∈ p2, x.block < W.heap.size := by obtain ⟨m, hm⟩ := k2; exact DataW.trod_lt m _ _ _ hm
  obtain ⟨A0, c0, b0, L0, rfl, sh0, l0, hu0⟩ := open_spans (hval 0 22 v0 rfl rfl) h0 hsz 0 rfl rfl
  obtain ⟨s1, rfl, rfl, rfl, ws1⟩ := open_int Try.underlying23 (hval 1 23 v1 rfl rfl) h1
  obtain ⟨s10, s11⟩ := u32_range ws1
  obtain ⟨S1, rfl⟩ := Int.eq_ofNat_of_zero_le s10
  obtain ⟨s2, rfl, rfl, rfl, ws2⟩ := open_int Try.underlying23 (hval 2 23 v2 rfl rfl) h2
  obtain ⟨s20, s21⟩ := u32_range ws2
  obtain ⟨S2, rfl⟩ := Int.eq_ofNat_of_zero_le s20
  clear hA0 hval0
  refine (turn_walk A0 c0 b0 L0 S1 S2 W sh0 hu0 (by omega) (by omega) (by omega)).mono fun e W' ⟨he, bel⟩ => ?_
  subst he
  exact ⟨_, rfl, _, _, _, [], _, [], hW', trodAll_mk1 (shut_bool Try.underlying4 _), (trodAll_cons_mk (Below.trod laidOut (by kernel_rfl) (of_decide_eq_true (by kernel_rfl)) k0 bel lt0) (trodAll_cons_mk (Below.trod laidOut (by kernel_rfl) (of_decide_eq_true (by kernel_rfl)) k1 bel lt1) (trodAll_cons_mk (Below.trod laidOut (by kernel_rfl) (of_decide_eq_true (by kernel_rfl)) k2 bel lt2) trodAll_mk0))), rfl, bel.frame _, fun h => by cases h⟩

theorem spansTurn_holds : Rows.SpansTurnSaid :=
  OpenClaim.holds_of_wide 4 Try.f4 rfl rfl rfl rfl rfl rfl rfl ⟨rfl, rfl, rfl, rfl, rfl⟩ rfl rfl rfl rfl rfl (by kernel_rfl) Try.func4 (by kernel_rfl)
    (of_decide_eq_true (by kernel_rfl)) (by unfold Func.isWrapper; first | (rw [if_pos (by decide +kernel)]; kernel_rfl) | (rw [if_neg (by decide +kernel)]; exact ⟨rfl, rfl⟩))
    (fun os started H enc _ => turn_walk_lifted os started H enc)
#print axioms spansTurn_holds
end Go.Proofs.Ytpchjgeehejkeaa
