/-
  SpansAsk: for every input the law returns true, and its arguments read as before.
  Conditions: none.
-/
import Derived.Test.YtpchjgeehejkeaaSpJ
namespace Go.Proofs.Ytpchjgeehejkeaa
open Go.ChangeShapes Go.WideShapes Go.ChangeAt Go.RowKit
set_option linter.unusedVariables false
set_option linter.unusedSimpArgs false

set_option maxHeartbeats 1600000 in
theorem ask_walk (A : Option Addr) (c d : Nat) (l : List Sp) (x : Nat) (w : World) (hl : ShowsG spanC w d (.slice A l.length c) l) (hu : u32s l) (hb : l.length ≤ 17592186044416) (hx : x < 4294967296) :
    Calls Try.prog 3 #[.slice A l.length c, .int .u32 x] w fun e w' => e = .returned (.bool true) ∧ Below w.heap.size w w' := by
  have hhead := Lib.hid (fun w' => head_any w')
  have h11 := Lib.hid (fun w' (hb' : Below w.heap.size w w') => right_any A c l.length d l w' rfl (hl.below' hb' (Nat.le_refl _)) hu hb)
  have h12 := Lib.hid (fun w' (hb' : Below w.heap.size w w') => qright_any A c l.length d l w' rfl (hl.below' hb' (Nat.le_refl _)) hu hb)
  have h13 := Lib.hid (fun w' (hb' : Below w.heap.size w w') => has_any A c l.length d x l w' rfl (hl.below' hb' (Nat.le_refl _)) hu hb hx)
  have h14 := Lib.hid (fun w' (hb' : Below w.heap.size w w') => qhas_any A c l.length d x l w' rfl (hl.below' hb' (Nat.le_refl _)) hu hb hx)
  have h15 := Lib.hid (fun w' (hb' : Below w.heap.size w w') => count_any A c l.length d l w' rfl (hl.below' hb' (Nat.le_refl _)) hu hb)
  have h16 := Lib.hid (fun w' (hb' : Below w.heap.size w w') => qcount_any A c l.length d l w' rfl (hl.below' hb' (Nat.le_refl _)) hu hb)
  by_cases h60 : (60 : Int) < (l.length : Int)
  · clear hl
    go_enter Try.func3, Try.ntmps3
    go_wp2_with fail
    refine (hhead.out _).mono ?_
    rintro e w1 ⟨rfl, hb1⟩
    go_wp2_with fail
    go_ret
    exact ⟨rfl, hb1⟩
  · generalize decide (canon l) = q1 at *
    generalize (if canon l then cntS l else 0) = q3 at *
    clear hl
    go_enter Try.func3, Try.ntmps3
    go_wp2_with fail
    refine (h11.out _ (Below.refl _ _)).mono ?_
    rintro e w1 ⟨rfl, hb1⟩
    go_wp2_with fail
    refine (h12.out _ hb1).mono ?_
    rintro e w' ⟨rfl, m2, rfl⟩
    have hb2 := below_drewN hb1 m2
    go_wp2_with fail
    refine (h13.out _ hb2).mono ?_
    rintro e w3 ⟨rfl, hb3⟩
    have hb3 := hb2.trans (hb3.mono hb2.size)
    go_wp2_with fail
    refine (h14.out _ hb3).mono ?_
    rintro e w' ⟨rfl, m4, rfl⟩
    have hb4 := below_drewN hb3 m4
    go_wp2_with fail
    refine (h15.out _ hb4).mono ?_
    rintro e w5 ⟨rfl, hb5⟩
    have hb5 := hb4.trans (hb5.mono hb4.size)
    go_wp2_with fail
    refine (h16.out _ hb5).mono ?_
    rintro e w' ⟨rfl, m6, rfl⟩
    have hb6 := below_drewN hb5 m6
    go_wp2_with fail
    refine (hhead.out _).mono ?_
    rintro e w7 ⟨rfl, hb7⟩
    go_wp2_with fail
    go_ret
    exact ⟨rfl, hb6.trans (hb7.mono hb6.size)⟩

set_option maxRecDepth 100000 in
theorem ask_walk_lifted (os : Os) (started : os.Started) (H : Type) (enc : TypeId × Value → H) :
    ReturnsInHanded {} Try.checked os 3 .any (Rows.spansAskSpec.pre6 enc Try.prog Try.f3 Rows.spansAskRow.domain false) (Rows.spansAskSpec.post enc Try.prog Try.f3 false true false false) := by
  refine returnsInHanded_of_change_sized (C := Try.checked) own started (by kernel_rfl) Try.func3
    (ChangeSpec.witness6 (enc := enc) (C := Try.checked) false ⟨#[], #[.slice none 0 0, .int .u32 0], []⟩ 8 (by kernel_rfl) (by kernel_rfl) (by kernel_rfl) (by kernel_rfl)) ?_
  intro W base args ds gs before hval0 hW hcnd hsz0 _
  have hval : ∀ (j : Nat) t v, Try.f3.params[j]? = some t → args[j]? = some v → Value.okWide Try.prog W .any base t v := hval0
  have hsz : (DataW.weightsEach Try.prog (Try.f3.params.toList ++ Rows.spansAskSpec.plain.varTypes Try.prog) (ds ++ gs)).all (· ≤ reachBytes) = true := hsz0
  have hW' := hW
  obtain ⟨p, q, hA0, hV, rfl, hfz, hnd⟩ := hW
  have hA : DataW.TrodAll enc Try.prog W 0 (fun _ => true) true Try.f3.params.toList args.toList ds p := hA0
  rw [Try.params3] at hA hval hsz
  obtain ⟨v0, vs0, d0, ds0, p0, q0, hargs, rfl, rfl, h0, r0⟩ := trodAll_cons hA
  obtain ⟨v1, vs1, d1, ds1, p1, q1, rfl, rfl, rfl, h1, r1⟩ := trodAll_cons r0
  obtain ⟨rfl, rfl, rfl⟩ := trodAll_nil r1
  obtain rfl : args = #[v0, v1] := by cases args; simp_all
  obtain ⟨rfl, rfl⟩ := trodVars_none hV
  have k0 := h0
  have lt0 : ∀ x ∈ p0, x.block < W.heap.size := by obtain ⟨m, hm⟩ := k0; exact DataW.trod_lt m _ _ _ hm
  have k1 := h1
  have lt1 : ∀ x ∈ p1, x.block < W.heap.size := by obtain ⟨m, hm⟩ := k1; exact DataW.trod_lt m _ _ _ hm
  obtain ⟨A0, c0, b0, L0, rfl, sh0, l0, hu0⟩ := open_spans (hval 0 22 v0 rfl rfl) h0 hsz 0 rfl rfl
  obtain ⟨s1, rfl, rfl, rfl, ws1⟩ := open_int Try.underlying23 (hval 1 23 v1 rfl rfl) h1
  obtain ⟨s10, s11⟩ := u32_range ws1
  obtain ⟨S1, rfl⟩ := Int.eq_ofNat_of_zero_le s10
  clear hA0 hval0
  refine (ask_walk A0 c0 b0 L0 S1 W sh0 hu0 (by omega) (by omega)).mono fun e W' ⟨he, bel⟩ => ?_
  subst he
  exact ⟨_, rfl, _, _, _, [], _, [], hW', trodAll_mk1 (shut_bool Try.underlying4 _), (trodAll_cons_mk (Below.trod laidOut (by kernel_rfl) (of_decide_eq_true (by kernel_rfl)) k0 bel lt0) (trodAll_cons_mk (Below.trod laidOut (by kernel_rfl) (of_decide_eq_true (by kernel_rfl)) k1 bel lt1) trodAll_mk0)), rfl, bel.frame _, fun h => by cases h⟩

theorem spansAsk_holds : Rows.SpansAskSaid :=
  OpenClaim.holds_of_wide 3 Try.f3 rfl rfl rfl rfl rfl rfl rfl ⟨rfl, rfl, rfl, rfl, rfl⟩ rfl rfl rfl rfl rfl (by kernel_rfl) Try.func3 (by kernel_rfl)
    (of_decide_eq_true (by kernel_rfl)) (by unfold Func.isWrapper; first | (rw [if_pos (by decide +kernel)]; kernel_rfl) | (rw [if_neg (by decide +kernel)]; exact ⟨rfl, rfl⟩))
    (fun os started H enc _ => ask_walk_lifted os started H enc)
#print axioms spansAsk_holds
end Go.Proofs.Ytpchjgeehejkeaa
