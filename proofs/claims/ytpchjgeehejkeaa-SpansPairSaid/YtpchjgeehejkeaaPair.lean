/-
  SpansPair: for every input the law returns true, and its arguments read as before.
  Conditions: none.
-/
import Derived.Test.YtpchjgeehejkeaaSpJ
namespace Go.Proofs.Ytpchjgeehejkeaa
open Go.ChangeShapes Go.WideShapes Go.ChangeAt Go.RowKit
set_option linter.unusedVariables false
set_option linter.unusedSimpArgs false

theorem pairSaid_one {m : Nat} {a b : List Sp} {n1 n2 : Nat} {v v' : Value} {c c' : Int} {r r' : List Sp} (h1 : PairSaid m a b n1 n2 v c r) (h2 : PairSaid m a b n1 n2 v' c' r') : c = c' ∧ r = r' := by
  rcases h1 with ⟨a1, a2, rfl, a3, a4, _⟩ | ⟨a1, rfl, rfl, _⟩ <;> rcases h2 with ⟨b1, b2, rfl, b3, b4, _⟩ | ⟨b1, rfl, rfl, _⟩
  · exact ⟨rfl, canon_unique (b := 0) a3 b3 fun n => (a4 n).trans (b4 n).symm⟩
  · exact absurd ⟨a1, a2⟩ b1
  · exact absurd ⟨b1, b2⟩ a1
  · exact ⟨rfl, rfl⟩
theorem pairSaid_len {m : Nat} {a b : List Sp} {n1 n2 : Nat} {v : Value} {c : Int} {r : List Sp} (h1 : PairSaid m a b n1 n2 v c r) : r.length ≤ 2 * (n1 + n2) := by
  rcases h1 with ⟨_, _, _, _, _, _, h⟩ | ⟨_, _, rfl, _⟩
  · exact h
  · simp

set_option maxRecDepth 100000 in
set_option maxHeartbeats 3200000 in
theorem pair_walk (A1 : Option Addr) (c1 d1 : Nat) (a : List Sp) (A2 : Option Addr) (c2 d2 : Nat) (b : List Sp) (w : World) (h1 : ShowsG spanC w d1 (.slice A1 a.length c1) a) (hu1 : u32s a) (hb1 : a.length ≤ 17592186044416)
    (h2 : ShowsG spanC w d2 (.slice A2 b.length c2) b) (hu2 : u32s b) (hb2 : b.length ≤ 17592186044416) :
    Calls Try.prog 5 #[.slice A1 a.length c1, .slice A2 b.length c2] w fun e w' => e = .returned (.bool true) ∧ Below w.heap.size w w' := by
  have hhead := Lib.hid (fun w' => head_any w')
  by_cases h60 : (20 : Int) < (a.length : Int) ∨ (20 : Int) < (b.length : Int)
  · clear h1 h2
    by_cases h61 : (20 : Int) < (a.length : Int)
    case' pos => have h62 : decide ((20 : Int) < (a.length : Int)) = true := by simp; omega
    case' neg =>
      have h62 : decide ((20 : Int) < (a.length : Int)) = false := by simp; omega
      have h63 : decide ((20 : Int) < (b.length : Int)) = true := by simp; omega
    all_goals
      clear h61 h60
      go_enter Try.func5, Try.ntmps5
      go_wp2_with fail
      refine (hhead.out _).mono ?_
      rintro e w1 ⟨rfl, hb1⟩
      go_wp2_with fail
      go_ret
      exact ⟨rfl, hb1⟩
  · have h62 : decide ((20 : Int) < (a.length : Int)) = false := by simp; omega
    have h63 : decide ((20 : Int) < (b.length : Int)) = false := by simp; omega
    have hl1 : a.length ≤ 20 := by omega
    have hl2 : b.length ≤ 20 := by omega
    have H17a := Lib.hid (qcopy_any A1 c1 a.length d1 a w rfl h1 (by omega))
    have H17b := Lib.hid (fun w' (hb' : Below w.heap.size w w') => qcopy_any A2 c2 b.length d2 b w' rfl (h2.below' hb' (Nat.le_refl _)) (by omega))
    have H22 := Lib.hid (fun A c d A' c' d' w' (s1 : ShowsG spanC w' d (.slice A a.length c) a) (s2 : ShowsG spanC w' d' (.slice A' b.length c') b) => both_any A A' c c' a.length b.length d d' a b w' rfl rfl s1 s2 hu1 hu2 (by omega) (by omega))
    have H23 := Lib.hid (fun A c d A' c' d' w' (s1 : ShowsG spanC w' d (.slice A a.length c) a) (s2 : ShowsG spanC w' d' (.slice A' b.length c') b) => either_any A A' c c' a.length b.length d d' a b w' rfl rfl s1 s2 hu1 hu2 (by omega) (by omega))
    have H24 := Lib.hid (fun w' m (hm : m = 0 ∨ m = 1 ∨ m = 2) (hb' : Below w.heap.size w w') => qboth_any A1 A2 c1 c2 a.length b.length d1 d2 m a b w' rfl rfl (h1.below' hb' (Nat.le_refl _)) (h2.below' hb' (Nat.le_refl _)) hu1 hu2 (by omega) (by omega) hm)
    have HS1 := Lib.hid h1
    have HS2 := Lib.hid h2
    clear h60 h1 h2 hu1 hu2 hb1 hb2
    go_enter Try.func5, Try.ntmps5
    go_wp2_with fail
    refine H17a.out.mono ?_
    rintro e w1 ⟨vx, rfl, ox, b1⟩
    go_wp2_with fail
    refine (H17b.out w1 b1).mono ?_
    rintro e w2 ⟨vy, rfl, oy, b2⟩
    have b2' : Below w.heap.size w w2 := b1.trans (b2.mono b1.size)
    obtain ⟨Ax, cx, rfl, _, _⟩ := ox.form
    obtain ⟨Ay, cy, rfl, _, _⟩ := oy.form
    have ox2 := ox.below b2 (Nat.le_refl _)
    obtain ⟨gx, _, sx⟩ := ox2.shows
    obtain ⟨gy, _, sy⟩ := oy.shows
    go_wp2_with fail
    refine (H22.out Ax cx gx Ay cy gy w2 sx sy).mono ?_
    rintro e w3 ⟨vc, code3, r3, rfl, o3, b3, s3⟩
    have b3' : Below w.heap.size w w3 := b2'.trans (b3.mono b2'.size)
    have sx3 := sx.below' b3 (Nat.le_refl _)
    have sy3 := sy.below' b3 (Nat.le_refl _)
    have ox3 := ox2.below b3 (Nat.le_refl _)
    have oy3 := oy.below b3 (Nat.le_refl _)
    go_wp2_with fail
    refine (H23.out Ax cx gx Ay cy gy w3 sx3 sy3).mono ?_
    rintro e w4 ⟨vd, code4, r4, rfl, o4, b4, s4⟩
    have b4' : Below w.heap.size w w4 := b3'.trans (b4.mono b3'.size)
    go_wp2_with fail
    refine (H24.out w4 0 (.inl rfl) b4').mono ?_
    rintro e w5 ⟨vp, code5, r5, rfl, o5, b5, s5⟩
    have b5' : Below w.heap.size w w5 := b4'.trans (b5.mono b4'.size)
    go_wp2_with fail
    refine (H24.out w5 1 (.inr (.inl rfl)) b5').mono ?_
    rintro e w6 ⟨vq, code6, r6, rfl, o6, b6, s6⟩
    have b6' : Below w.heap.size w w6 := b5'.trans (b6.mono b5'.size)
    have hlen3 := pairSaid_len s3
    have hlen4 := pairSaid_len s4
    obtain ⟨e1, e2⟩ := pairSaid_one (c' := code5) (r' := r5) s3 s5
    obtain ⟨e3, e4⟩ := pairSaid_one (c' := code6) (r' := r6) s4 s6
    subst e1 e2 e3 e4
    have z2 := b2.size
    have z3 := b3.size
    have z4 := b4.size
    have z5 := b5.size
    have z6 := b6.size
    have b46 : Below w4.heap.size w4 w6 := b5.trans (b6.mono z5)
    have o3' := (((o3.below b4 (Nat.le_refl _)).below b5 (Nat.le_refl _)).below b6 (Nat.le_refl _))
    have o4' := ((o4.below b5 (Nat.le_refl _)).below b6 (Nat.le_refl _))
    have o5' := o5.below b6 (Nat.le_refl _)
    obtain ⟨A3, c3, rfl, _, _⟩ := o3'.form
    obtain ⟨A4, c4, rfl, _, _⟩ := o4'.form
    obtain ⟨A5, c5, rfl, _, _⟩ := o5'.form
    obtain ⟨A6, c6, rfl, _, _⟩ := o6.form
    obtain ⟨g3, _, t3⟩ := o3'.shows
    obtain ⟨g4, _, t4⟩ := o4'.shows
    obtain ⟨g5, _, t5⟩ := o5'.shows
    obtain ⟨g6, _, t6⟩ := o6.shows
    have S1 := Lib.hid (qsame_any A3 A5 c3 c5 r3.length r3.length g3 g5 r3 r3 w6 rfl rfl t3 t5 (by omega) (by omega))
    have S2 := Lib.hid (fun q => qsame_any A4 A6 c4 c6 r4.length r4.length g4 g6 r4 r4 (w6.drewN q) rfl rfl (t4.drewN q) (t6.drewN q) (by omega) (by omega))
    rw [show decide (r3 = r3) = true by simp] at S1
    rw [show decide (r4 = r4) = true by simp] at S2
    have b36 : Below w3.heap.size w3 w6 := b4.trans (b46.mono z4)
    have HO4 := Lib.hid o4'
    clear s3 s4 s5 s6 o3 o4 o5 o6 o3' o4' o5' t3 t4 t5 t6 H22 H23 H24 H17a H17b ox ox2 oy sx sy sx3 sy3 b46
    go_wp2_with fail
    refine S1.out.mono ?_
    rintro e w' ⟨rfl, m1, rfl⟩
    go_wp2_with fail
    refine (S2.out m1).mono ?_
    rintro e w' ⟨rfl, m2, rfl⟩
    have bw : Below w3.heap.size w3 ((w6.drewN m1).drewN m2) := below_drewN (below_drewN b36 _) _
    have HO5 : Hid (OwnG spanC 37 ((w6.drewN m1).drewN m2) w3.heap.size (.slice A4 r4.length c4) r4) := HO4.out
    clear HO4 S1 S2 b36
    generalize (w6.drewN m1).drewN m2 = w7 at *
    go_wp2_with fail
    go_loopw [15] (fun s wr => ∃ (k : Nat) (r' : List Sp), k ≤ r4.length ∧ s = .int .i64 k ∧ r'.length = r4.length ∧ OwnG spanC 37 wr w3.heap.size (.slice A4 r4.length c4) r' ∧ Below w3.heap.size w3 wr) (fun s _ => r4.length - (intOf s).toNat)
    case atStart => exact ⟨0, r4, Nat.zero_le _, rfl, rfl, HO5.out, bw⟩
    case round =>
      rename World => wr
      obtain ⟨k, r', hk, rfl, hr', ho, hbw⟩ := hrel
      have HR := Lib.hid hr'
      clear hr'
      by_cases hlt : k < r4.length
      · obtain ⟨bb, rfl, hbb, hbl, hfr, hcl⟩ := ho.at_ (by omega)
        have cc : wr.cell? ⟨bb, k * 2 + 1, none⟩ = some (.int .u32 ((r'[k]'(by rw [HR.out]; exact hlt)).2 : Nat)) := by
          have := hcl k (by rw [HR.out]; exact hlt) 1 (by decide)
          simpa [pairC] using this
        have hf := hfr (k * 2 + 1)
        have hset := ho.set_ (y := ((r'[k]'(by rw [HR.out]; exact hlt)).1, 7)) k 1 (by rw [HR.out]; exact hlt) (by decide) (.int .u32 7) (by simp [pairC])
        have HSET := Lib.hid hset
        have hkl : (k : Int) < (r4.length : Int) := by omega
        have hx3 := hbw.size
        clear hcl hfr hset
        go_wp2_with fail
        go_roundw
        case rel => exact ⟨k + 1, _, by omega, by go_num, by rw [List.length_set, HR.out], HSET.out, below_set hbw hbb _⟩
        case measure => simp [intOf]; omega
      · have ox7 := ox3.below hbw (Nat.le_refl _)
        have oy7 := oy3.below hbw (Nat.le_refl _)
        have bwr : Below w.heap.size w wr := b3'.trans (hbw.mono b3'.size)
        obtain ⟨gx, _, sx⟩ := ox7.shows
        obtain ⟨gy, _, sy⟩ := oy7.shows
        have S1 := Lib.hid (qsame_any Ax A1 cx c1 a.length a.length gx d1 a a wr rfl rfl sx (HS1.out.below' bwr (Nat.le_refl _)) (by omega) (by omega))
        have S2 := Lib.hid (fun q => qsame_any Ay A2 cy c2 b.length b.length gy d2 b b (wr.drewN q) rfl rfl (sy.drewN q) ((HS2.out.below' bwr (Nat.le_refl _)).drewN q) (by omega) (by omega))
        rw [show decide (a = a) = true by simp] at S1
        rw [show decide (b = b) = true by simp] at S2
        clear ho ox7 oy7 sx sy ox3 oy3
        go_wp2_with fail
        refine S1.out.mono ?_
        rintro e w' ⟨rfl, m1, rfl⟩
        go_wp2_with fail
        refine (S2.out m1).mono ?_
        rintro e w' ⟨rfl, m2, rfl⟩
        have bwf := below_drewN bwr (m1 + m2)
        go_wp2_with fail
        refine (hhead.out _).mono ?_
        rintro e w9 ⟨rfl, hb9⟩
        go_wp2_with fail
        go_ret
        exact ⟨rfl, bwf.trans (hb9.mono bwf.size)⟩

set_option maxRecDepth 100000 in
theorem pair_walk_lifted (os : Os) (started : os.Started) (H : Type) (enc : TypeId × Value → H) :
    ReturnsInHanded {} Try.checked os 5 .any (Rows.spansPairSpec.pre6 enc Try.prog Try.f5 Rows.spansPairRow.domain false) (Rows.spansPairSpec.post enc Try.prog Try.f5 false true false false) := by
  refine returnsInHanded_of_change_sized (C := Try.checked) own started (by kernel_rfl) Try.func5
    (ChangeSpec.witness6 (enc := enc) (C := Try.checked) false ⟨#[], #[.slice none 0 0, .slice none 0 0], []⟩ 8 (by kernel_rfl) (by kernel_rfl) (by kernel_rfl) (by kernel_rfl)) ?_
  intro W base args ds gs before hval0 hW hcnd hsz0 _
  have hval : ∀ (j : Nat) t v, Try.f5.params[j]? = some t → args[j]? = some v → Value.okWide Try.prog W .any base t v := hval0
  have hsz : (DataW.weightsEach Try.prog (Try.f5.params.toList ++ Rows.spansPairSpec.plain.varTypes Try.prog) (ds ++ gs)).all (· ≤ reachBytes) = true := hsz0
  have hW' := hW
  obtain ⟨p, q, hA0, hV, rfl, hfz, hnd⟩ := hW
  have hA : DataW.TrodAll enc Try.prog W 0 (fun _ => true) true Try.f5.params.toList args.toList ds p := hA0
  rw [Try.params5] at hA hval hsz
  obtain ⟨v0, vs0, d0, ds0, p0, q0, hargs, rfl, rfl, h0, r0⟩ := trodAll_cons hA
  obtain ⟨v1, vs1, d1, ds1, p1, q1, rfl, rfl, rfl, h1, r1⟩ := trodAll_cons r0
  obtain ⟨rfl, rfl, rfl⟩ := trodAll_nil r1
  obtain rfl : args = #[v0, v1] := by cases args; simp_all
  obtain ⟨rfl, rfl⟩ := trodVars_none hV
  have k0 := h0
  have lt0 : ∀ x ∈ p0, x.block < W.heap.size := by obtain ⟨m, hm⟩ := k0; exact DataW.trod_lt m _ _ _ hm
  have k1 := h1
  have lt1 : ∀ x ∈ p1, x.block < W.heap.size := by obtain ⟨m, hm⟩ := k1; exact DataW.trod_lt m _ _ _ hm
  obtain ⟨A0, c0, b0, L0, rfl, sh0, l0, hu0⟩ := open_spans (hval 0 22 v0 rfl rfl) h0 hsz 0 rfl rfl
  obtain ⟨A1, c1, b1, L1, rfl, sh1, l1, hu1⟩ := open_spans (hval 1 22 v1 rfl rfl) h1 hsz 1 rfl rfl
  clear hA0 hval0
  refine (pair_walk A0 c0 b0 L0 A1 c1 b1 L1 W sh0 hu0 (by omega) sh1 hu1 (by omega)).mono fun e W' ⟨he, bel⟩ => ?_
  subst he
  exact ⟨_, rfl, _, _, _, [], _, [], hW', trodAll_mk1 (shut_bool Try.underlying4 _), (trodAll_cons_mk (Below.trod laidOut (by kernel_rfl) (of_decide_eq_true (by kernel_rfl)) k0 bel lt0) (trodAll_cons_mk (Below.trod laidOut (by kernel_rfl) (of_decide_eq_true (by kernel_rfl)) k1 bel lt1) trodAll_mk0)), rfl, bel.frame _, fun h => by cases h⟩

theorem spansPair_holds : Rows.SpansPairSaid :=
  OpenClaim.holds_of_wide 5 Try.f5 rfl rfl rfl rfl rfl rfl rfl ⟨rfl, rfl, rfl, rfl, rfl⟩ rfl rfl rfl rfl rfl (by kernel_rfl) Try.func5 (by kernel_rfl)
    (of_decide_eq_true (by kernel_rfl)) (by unfold Func.isWrapper; first | (rw [if_pos (by decide +kernel)]; kernel_rfl) | (rw [if_neg (by decide +kernel)]; exact ⟨rfl, rfl⟩))
    (fun os started H enc _ => pair_walk_lifted os started H enc)
#print axioms spansPair_holds
end Go.Proofs.Ytpchjgeehejkeaa
