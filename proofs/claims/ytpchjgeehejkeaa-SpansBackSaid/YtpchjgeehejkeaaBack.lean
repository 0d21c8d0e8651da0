/-
  SpansBack: for every input the law returns true, and its arguments read as before.
  Conditions: none.
-/
import Derived.Test.YtpchjgeehejkeaaSpJ
import Derived.StillTailTactics
namespace Go.Proofs.Ytpchjgeehejkeaa
open Go.ChangeShapes Go.WideShapes Go.ChangeAt Go.RowKit
set_option linter.unusedVariables false
set_option linter.unusedSimpArgs false

theorem putSaid_ok {l : List Sp} {c : Int} {r : List UInt8} (h : PutSaid l c r) (hc : canon l) (hl : l.length ≤ 1000) : c = 0 ∧ r = encS l := by
  rcases h with ⟨_, _, h1, h2⟩ | ⟨h, _⟩ | ⟨_, h, _⟩
  · exact ⟨h1, h2⟩
  · exact absurd hc h
  · exact absurd hl h
theorem putSaid_no {l : List Sp} {c : Int} {r : List UInt8} (h : PutSaid l c r) (hc : ¬ canon l) : c = 30 := by
  rcases h with ⟨h, _⟩ | ⟨_, h, _⟩ | ⟨h, _⟩
  · exact absurd h hc
  · exact h
  · exact absurd h hc

set_option maxRecDepth 100000 in
set_option maxHeartbeats 6400000 in
theorem back_walk (A1 : Option Addr) (c1 d1 : Nat) (l : List Sp) (A2 : Option Addr) (c2 d2 : Nat) (b : List UInt8) (w : World) (h1 : ShowsG spanC w d1 (.slice A1 l.length c1) l) (hu1 : u32s l) (hb1 : l.length ≤ 17592186044416)
    (h2 : Shows w d2 (.slice A2 b.length c2) b) (hb2 : b.length ≤ 140737488355328) :
    Calls Try.prog 9 #[.slice A1 l.length c1, .slice A2 b.length c2] w fun e w' => e = .returned (.bool true) ∧ Below w.heap.size w w' := by
  have hhead := Lib.hid (fun w' => head_any w')
  by_cases h61 : (300 : Int) < (l.length : Int)
  · clear h1 h2
    have h62 : decide ((300 : Int) < (l.length : Int)) = true := by simp; omega
    clear h61
    go_enter Try.func9, Try.ntmps9
    go_wp2_with fail
    refine (hhead.out _).mono ?_
    rintro e w1 ⟨rfl, hb1⟩
    go_wp2_with fail
    go_ret
    exact ⟨rfl, hb1⟩
  · have h62 : decide ((300 : Int) < (l.length : Int)) = false := by simp; omega
    by_cases h63 : (3000 : Int) < (b.length : Int)
    · clear h1 h2 h61
      have h64 : decide ((3000 : Int) < (b.length : Int)) = true := by simp; omega
      clear h63
      go_enter Try.func9, Try.ntmps9
      go_wp2_with fail
      refine (hhead.out _).mono ?_
      rintro e w1 ⟨rfl, hb1⟩
      go_wp2_with fail
      go_ret
      exact ⟨rfl, hb1⟩
    · have h64 : decide ((3000 : Int) < (b.length : Int)) = false := by simp; omega
      have hl1 : l.length ≤ 300 := by omega
      have hl2 : b.length ≤ 3000 := by omega
      have P1 := Lib.hid (putS_any A1 c1 l.length d1 l w rfl h1 hu1 (by omega))
      have R1 := Lib.hid (fun w' (hb' : Below w.heap.size w w') => right_any A1 c1 l.length d1 l w' rfl (h1.below' hb' (Nat.le_refl _)) hu1 (by omega))
      have hok := getD_ok b
      have hbad := getD_bad b
      have G2 := Lib.hid (fun w' (hb' : Below w.heap.size w w') => getS_any (.slice A2 b.length c2) d2 b w' (h2.keep hb'.size fun hp => hb'.block _ (h2.lt hp)) hb2)
      have G3 := Lib.hid (fun v g (bb : List UInt8) w' (hs : Shows w' g v bb) (hl : bb.length ≤ 140737488355328) => getS_any v g bb w' hs hl)
      have HS1 := Lib.hid h1
      have HS2 := Lib.hid h2
      have HU := Lib.hid hu1
      have hEL : (encS l).length = 2 + 8 * l.length := by rw [encS_eq, List.length_append, be_length, bodyS_length]
      have HEL := Lib.hid hEL
      generalize (getD_ b).1 = m at *
      generalize (getD_ b).2.1 = n at *
      generalize (getD_ b).2.2 = code at *
      have HOK := Lib.hid hok
      have HBAD := Lib.hid hbad
      clear h1 h2 hu1 h61 h63 hEL hok hbad
      go_enter Try.func9, Try.ntmps9
      go_wp2_with fail
      refine P1.out.mono ?_
      rintro e w1 ⟨v1, code1, r1, rfl, o1, b1, s1⟩
      by_cases hc : canon l
      case' pos =>
        obtain ⟨rfl, rfl⟩ := putSaid_ok s1 hc (by omega)
        rw [show decide (canon l) = true by simpa using hc] at R1
        have HC := Lib.hid hc
        obtain ⟨g1, _, t1⟩ := o1.shows
        have T1 := Lib.hid t1
        obtain ⟨A3, c3, rfl, _, _⟩ := o1.form
        clear hc s1 o1 t1
        go_wp2_with fail
        refine (R1.out w1 b1).mono ?_
        rintro e w2 ⟨rfl, b2⟩
        have b2' := b1.trans (b2.mono b1.size)
        have t12 := T1.out.keep b2.size fun hp => b2.block _ (T1.out.lt hp)
        have T12 := Lib.hid t12
        clear t12
        have hE9 : (encS l).length ≤ 2402 := by have := HEL.out; omega
        have HT2 := Lib.hid (HS2.out.keep (w' := w2) b2'.size fun hp => b2'.block _ (HS2.out.lt hp))
        go_wp2_with (first
          | (at_builtin
             refine wpList_append8 _ rfl (.const (.slice none 0 0)) (.tmp 37) 41 rfl w2.heap.size 5 Try.underlying41 info5 (.slice none 0 0) [] rfl (Own.nil_ _ _ _) g1 _ (encS l) rfl T12.out (by simp; omega) (Nat.le_refl _) ?_
             intro v3 w3 ho3 hg3
             rw [List.nil_append] at ho3
             have b3 : Below w2.heap.size w2 w3 := (Below.refl _ _).grown hg3 (Nat.le_refl _) (by simp [Value.ownBlock])
             have T23 := Lib.hid (HT2.out.keep (w' := w3) b3.size fun hp => b3.block _ (HT2.out.lt hp)))
          | (at_builtin
             refine wpList_append8 _ rfl (.tmp 38) (.tmp 39) 41 rfl w2.heap.size 5 Try.underlying41 info5 v3 (encS l) rfl ho3 d2 _ b rfl T23.out (by omega) b3.size ?_
             intro v4 w4 ho4 hg4))
        have b4 : Below w2.heap.size w2 w4 := b3.grown hg4 b3.size (fun q hq => (ho3.block q hq).1)
        have b4' := b2'.trans (b4.mono b2'.size)
        obtain ⟨g4, _, t4⟩ := ho4.shows
        have hget := Lib.hid (G3.out v4 g4 _ w4 t4 (by simp; omega))
        rw [getD_encS l b HU.out HC.out (by omega)] at hget
        clear ho3 ho4 hg3 hg4 t4 hE9
        refine hget.out.mono ?_
        rintro e w5 ⟨v5, rfl, o5, b5⟩
        have b5' := b4'.trans (b5.mono b4'.size)
        obtain ⟨A5, c5, rfl, _, _⟩ := o5.form
        obtain ⟨g5, _, t5⟩ := o5.shows
        have S5 := Lib.hid (qsame_any A1 A5 c1 c5 l.length l.length d1 g5 l l w5 rfl rfl (HS1.out.below' b5' (Nat.le_refl _)) t5 (by omega) (by omega))
        rw [show decide (l = l) = true by simp] at S5
        clear o5 t5
        go_wp2_with fail
        refine S5.out.mono ?_
        rintro e w' ⟨rfl, m5, rfl⟩
        have b6 := below_drewN b5' m5
        go_wp2_with fail
        clear hget S5 T1 T12 T23 HT2 b1 b2 b2' b3 b4 b4' b5 b5'
      case' neg =>
        obtain rfl := putSaid_no s1 hc
        rw [show decide (canon l) = false by simpa using hc] at R1
        obtain ⟨A3, c3, rfl, _, _⟩ := o1.form
        clear hc s1 o1
        go_wp2_with fail
        refine (R1.out w1 b1).mono ?_
        rintro e w2 ⟨rfl, b2⟩
        have b6 := b1.trans (b2.mono b1.size)
        go_wp2_with fail
        clear b1 b2
      all_goals
        refine (G2.out _ b6).mono ?_
        rintro e w7 ⟨v7, rfl, o7, b7⟩
        have b7' := b6.trans (b7.mono b6.size)
        obtain ⟨A7, c7, rfl, _, _⟩ := o7.form
        obtain ⟨g7, _, t7⟩ := o7.shows
        clear b7 G2 G3 P1 R1
        by_cases hcode : code = 0
        · obtain ⟨q1, q2, q3, q4, q5⟩ := HOK.out hcode
          subst hcode
          have P2 := Lib.hid (putS_any A7 c7 m.length g7 m w7 rfl t7 q2 (by omega))
          have HQ := Lib.hid (And.intro q1 q5)
          have q4' : decide (n ≤ b.length) = true := by simpa using q4
          have q4I : (n : Int) ≤ (c2 : Int) := by have := HS2.out.lens.2.1; omega
          clear q1 q2 q5 o7 t7 HOK HBAD
          go_wp2_with fail
          refine P2.out.mono ?_
          rintro e w8 ⟨v8, code8, r8, rfl, o8, b8, s8⟩
          obtain ⟨rfl, rfl⟩ := putSaid_ok s8 HQ.out.1 (by omega)
          have b8' := b7'.trans (b8.mono b7'.size)
          obtain ⟨g8, _, t8⟩ := o8.shows
          have cv1 : ∀ q, (convert 41 9 v8).run Try.prog (w8.drewN q) = .ok (.string (str8 (encS m))) (w8.drewN q) := fun q => conv_at (t8.drewN q)
          have hbs := (HS2.out.keep (w' := w8) b8'.size fun hp => b8'.block _ (HS2.out.lt hp)).head (k := n) q4
          rw [← HQ.out.2] at hbs
          have cv2 : ∀ q, (convert 41 9 (.slice A2 n c2)).run Try.prog (w8.drewN q) = .ok (.string (str8 (encS m))) (w8.drewN q) := fun q => conv_at (hbs.drewN q)
          have cv10 : (convert 41 9 v8).run Try.prog w8.drew = .ok (.string (str8 (encS m))) w8.drew := cv1 1
          have cv20 : (convert 41 9 (.slice A2 n c2)).run Try.prog w8.drew = .ok (.string (str8 (encS m))) w8.drew := cv2 1
          generalize str8 (encS m) = ss at *
          clear s8 o8 t8 hbs P2 cv1 cv2
          go_wp2_with fail
          go_still_tail 18, (by kernel_rfl)
          change wpList _ _ _ _ _ w8.drew
          have b9' : Below w.heap.size w w8.drew := b8'.drew
          generalize w8.drew = w9 at *
          go_wp2_with fail
          refine (hhead.out _).mono ?_
          rintro e w10 ⟨rfl, b10⟩
          go_wp2_with fail
          go_ret
          exact ⟨rfl, b9'.trans (b10.mono b9'.size)⟩
        · obtain ⟨rfl, rfl⟩ := HBAD.out hcode
          have hcI : ((code : Int) != 0) = true := by simp; omega
          clear o7 t7 HOK HBAD hcode
          go_wp2_with fail
          refine (hhead.out _).mono ?_
          rintro e w9 ⟨rfl, b9⟩
          go_wp2_with fail
          go_ret
          exact ⟨rfl, b7'.trans (b9.mono b7'.size)⟩

set_option maxRecDepth 100000 in
theorem back_walk_lifted (os : Os) (started : os.Started) (H : Type) (enc : TypeId × Value → H) :
    ReturnsInHanded {} Try.checked os 9 .any (Rows.spansBackSpec.pre6 enc Try.prog Try.f9 Rows.spansBackRow.domain false) (Rows.spansBackSpec.post enc Try.prog Try.f9 false true false false) := by
  refine returnsInHanded_of_change_sized (C := Try.checked) own started (by kernel_rfl) Try.func9
    (ChangeSpec.witness6 (enc := enc) (C := Try.checked) false ⟨#[], #[.slice none 0 0, .slice none 0 0], []⟩ 8 (by kernel_rfl) (by kernel_rfl) (by kernel_rfl) (by kernel_rfl)) ?_
  intro W base args ds gs before hval0 hW hcnd hsz0 _
  have hval : ∀ (j : Nat) t v, Try.f9.params[j]? = some t → args[j]? = some v → Value.okWide Try.prog W .any base t v := hval0
  have hsz : (DataW.weightsEach Try.prog (Try.f9.params.toList ++ Rows.spansBackSpec.plain.varTypes Try.prog) (ds ++ gs)).all (· ≤ reachBytes) = true := hsz0
  have hW' := hW
  obtain ⟨p, q, hA0, hV, rfl, hfz, hnd⟩ := hW
  have hA : DataW.TrodAll enc Try.prog W 0 (fun _ => true) true Try.f9.params.toList args.toList ds p := hA0
  rw [Try.params9] at hA hval hsz
  obtain ⟨v0, vs0, d0, ds0, p0, q0, hargs, rfl, rfl, h0, r0⟩ := trodAll_cons hA
  obtain ⟨v1, vs1, d1, ds1, p1, q1, rfl, rfl, rfl, h1, r1⟩ := trodAll_cons r0
  obtain ⟨rfl, rfl, rfl⟩ := trodAll_nil r1
  obtain rfl : args = #[v0, v1] := by cases args; simp_all
  obtain ⟨rfl, rfl⟩ := trodVars_none hV
  have k0 := h0
  have lt0 : ∀ x ∈ p0, x.block < W.heap.size := by obtain ⟨m, hm⟩ := k0; exact DataW.trod_lt m _ _ _ hm
  have k1 := h1
  have lt1 : ∀ x ∈ p1, x.block < W.heap.size := by obtain ⟨m, hm⟩ := k1; exact DataW.trod_lt m _ _ _ hm
  obtain ⟨A0, c0, b0, L0, rfl, sh0, l0, hu0⟩ := open_spans (hval 0 22 v0 rfl rfl) h0 hsz 0 rfl rfl
  obtain ⟨A1, c1, b1, L1, rfl, sh1, l1⟩ := open_bytes Try.underlying41 Try.underlying5 (by kernel_rfl) bytes5 (hval 1 41 v1 rfl rfl) h1 hsz 1 rfl rfl
  clear hA0 hval0
  refine (back_walk A0 c0 b0 L0 A1 c1 b1 L1 W sh0 hu0 (by omega) sh1 (by omega)).mono fun e W' ⟨he, bel⟩ => ?_
  subst he
  exact ⟨_, rfl, _, _, _, [], _, [], hW', trodAll_mk1 (shut_bool Try.underlying4 _), (trodAll_cons_mk (Below.trod laidOut (by kernel_rfl) (of_decide_eq_true (by kernel_rfl)) k0 bel lt0) (trodAll_cons_mk (Below.trod laidOut (by kernel_rfl) (of_decide_eq_true (by kernel_rfl)) k1 bel lt1) trodAll_mk0)), rfl, bel.frame _, fun h => by cases h⟩

theorem spansBack_holds : Rows.SpansBackSaid :=
  OpenClaim.holds_of_wide 9 Try.f9 rfl rfl rfl rfl rfl rfl rfl ⟨rfl, rfl, rfl, rfl, rfl⟩ rfl rfl rfl rfl rfl (by kernel_rfl) Try.func9 (by kernel_rfl)
    (of_decide_eq_true (by kernel_rfl)) (by unfold Func.isWrapper; first | (rw [if_pos (by decide +kernel)]; kernel_rfl) | (rw [if_neg (by decide +kernel)]; exact ⟨rfl, rfl⟩))
    (fun os started H enc _ => back_walk_lifted os started H enc)
#print axioms spansBack_holds
end Go.Proofs.Ytpchjgeehejkeaa
