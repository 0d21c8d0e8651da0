/-
  SpansGets: for every input the law returns true, and its arguments read as before.
  Conditions: none.
-/
import Derived.Test.YtpchjgeehejkeaaSpJ
namespace Go.Proofs.Ytpchjgeehejkeaa
open Go.ChangeShapes Go.WideShapes Go.ChangeAt Go.RowKit
set_option linter.unusedVariables false
set_option linter.unusedSimpArgs false

theorem getD_len (b : List UInt8) : (getD_ b).1.length ≤ 1000 := by
  by_cases h : (getD_ b).2.2 = 0
  · exact (getD_ok b h).2.2.1
  · rw [(getD_bad b h).1]; simp

set_option maxHeartbeats 1600000 in
theorem gets_walk (A : Option Addr) (c d : Nat) (l : List UInt8) (w : World) (hl : Shows w d (.slice A l.length c) l) (hb : l.length ≤ 140737488355328) :
    Calls Try.prog 7 #[.slice A l.length c] w fun e w' => e = .returned (.bool true) ∧ Below w.heap.size w w' := by
  have hhead := Lib.hid (fun w' => head_any w')
  by_cases h60 : (9000 : Int) < (l.length : Int)
  · clear hl
    go_enter Try.func7, Try.ntmps7
    go_wp2_with fail
    refine (hhead.out _).mono ?_
    rintro e w1 ⟨rfl, hb1⟩
    go_wp2_with fail
    go_ret
    exact ⟨rfl, hb1⟩
  · have h25 := Lib.hid (fun w' (hb' : Below w.heap.size w w') => getS_any (.slice A l.length c) d l w' (hl.keep hb'.size fun hp => hb'.block _ (hl.lt hp)) hb)
    have h26 := Lib.hid (fun w' (hb' : Below w.heap.size w w') => qget_any (.slice A l.length c) d l w' (hl.keep hb'.size fun hp => hb'.block _ (hl.lt hp)) hb)
    have hlen := getD_len l
    generalize (getD_ l).1 = r at *
    generalize (getD_ l).2.1 = n at *
    generalize (getD_ l).2.2 = code at *
    clear hl
    go_enter Try.func7, Try.ntmps7
    go_wp2_with fail
    refine (h25.out _ (Below.refl _ _)).mono ?_
    rintro e w1 ⟨v1, rfl, ho1, hb1⟩
    go_wp2_with fail
    refine (h26.out _ hb1).mono ?_
    rintro e w2 ⟨v2, rfl, ho2, hb2⟩
    have hbw2 : Below w.heap.size w w2 := hb1.trans (hb2.mono hb1.size)
    obtain ⟨A1, c1, rfl, _, _⟩ := ho1.form
    obtain ⟨A2, c2, rfl, _, _⟩ := ho2.form
    obtain ⟨g1, _, hs1⟩ := ho1.shows
    obtain ⟨g2, _, hs2⟩ := ho2.shows
    have hsame := Lib.hid (qsame_any A1 A2 c1 c2 r.length r.length g1 g2 r r w2 rfl rfl (hs1.below' hb2 (Nat.le_refl _)) hs2 (by omega) (by omega))
    rw [show decide (r = r) = true by simp] at hsame
    clear ho1 ho2 hs1 hs2
    go_wp2_with fail
    refine hsame.out.mono ?_
    rintro e w' ⟨rfl, m, rfl⟩
    go_wp2_with fail
    refine (hhead.out _).mono ?_
    rintro e w7 ⟨rfl, hb7⟩
    go_wp2_with fail
    go_ret
    exact ⟨rfl, (below_drewN hbw2 m).trans (hb7.mono hbw2.size)⟩

set_option maxRecDepth 100000 in
theorem gets_walk_lifted (os : Os) (started : os.Started) (H : Type) (enc : TypeId × Value → H) :
    ReturnsInHanded {} Try.checked os 7 .any (Rows.spansGetsSpec.pre6 enc Try.prog Try.f7 Rows.spansGetsRow.domain false) (Rows.spansGetsSpec.post enc Try.prog Try.f7 false true false false) := by
  refine returnsInHanded_of_change_sized (C := Try.checked) own started (by kernel_rfl) Try.func7
    (ChangeSpec.witness6 (enc := enc) (C := Try.checked) false ⟨#[], #[.slice none 0 0], []⟩ 8 (by kernel_rfl) (by kernel_rfl) (by kernel_rfl) (by kernel_rfl)) ?_
  intro W base args ds gs before hval0 hW hcnd hsz0 _
  have hval : ∀ (j : Nat) t v, Try.f7.params[j]? = some t → args[j]? = some v → Value.okWide Try.prog W .any base t v := hval0
  have hsz : (DataW.weightsEach Try.prog (Try.f7.params.toList ++ Rows.spansGetsSpec.plain.varTypes Try.prog) (ds ++ gs)).all (· ≤ reachBytes) = true := hsz0
  have hW' := hW
  obtain ⟨p, q, hA0, hV, rfl, hfz, hnd⟩ := hW
  have hA : DataW.TrodAll enc Try.prog W 0 (fun _ => true) true Try.f7.params.toList args.toList ds p := hA0
  rw [Try.params7] at hA hval hsz
  obtain ⟨v0, vs0, d0, ds0, p0, q0, hargs, rfl, rfl, h0, r0⟩ := trodAll_cons hA
  obtain ⟨rfl, rfl, rfl⟩ := trodAll_nil r0
  obtain rfl : args = #[v0] := by cases args; simp_all
  obtain ⟨rfl, rfl⟩ := trodVars_none hV
  have k0 := h0
  have lt0 : ∀ x ∈ p0, x.block < W.heap.size := by obtain ⟨m, hm⟩ := k0; exact DataW.trod_lt m _ _ _ hm
  obtain ⟨A0, c0, b0, L0, rfl, sh0, l0⟩ := open_bytes Try.underlying41 Try.underlying5 (by kernel_rfl) bytes5 (hval 0 41 v0 rfl rfl) h0 hsz 0 rfl rfl
  clear hA0 hval0
  refine (gets_walk A0 c0 b0 L0 W sh0 (by omega)).mono fun e W' ⟨he, bel⟩ => ?_
  subst he
  exact ⟨_, rfl, _, _, _, [], _, [], hW', trodAll_mk1 (shut_bool Try.underlying4 _), (trodAll_cons_mk (Below.trod laidOut (by kernel_rfl) (of_decide_eq_true (by kernel_rfl)) k0 bel lt0) trodAll_mk0), rfl, bel.frame _, fun h => by cases h⟩

theorem spansGets_holds : Rows.SpansGetsSaid :=
  OpenClaim.holds_of_wide 7 Try.f7 rfl rfl rfl rfl rfl rfl rfl ⟨rfl, rfl, rfl, rfl, rfl⟩ rfl rfl rfl rfl rfl (by kernel_rfl) Try.func7 (by kernel_rfl)
    (of_decide_eq_true (by kernel_rfl)) (by unfold Func.isWrapper; first | (rw [if_pos (by decide +kernel)]; kernel_rfl) | (rw [if_neg (by decide +kernel)]; exact ⟨rfl, rfl⟩))
    (fun os started H enc _ => gets_walk_lifted os started H enc)
#print axioms spansGets_holds
end Go.Proofs.Ytpchjgeehejkeaa
