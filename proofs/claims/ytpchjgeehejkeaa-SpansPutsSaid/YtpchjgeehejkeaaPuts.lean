/-
  SpansPuts: for every input the law returns true, and its arguments read as before.
  Conditions: none.
-/
import Derived.Test.YtpchjgeehejkeaaSpJ
namespace Go.Proofs.Ytpchjgeehejkeaa
open Go.ChangeShapes Go.WideShapes Go.ChangeAt Go.RowKit
set_option linter.unusedVariables false
set_option linter.unusedSimpArgs false

theorem putSaid_one {l : List Sp} {c1 c2 : Int} {r1 r2 : List UInt8} (h1 : PutSaid l c1 r1) (h2 : PutSaid l c2 r2) : c1 = c2 ∧ r1 = r2 := by
  rcases h1 with ⟨a1, a2, rfl, rfl⟩ | ⟨a1, rfl, rfl⟩ | ⟨a1, a2, rfl, rfl⟩ <;> rcases h2 with ⟨b1, b2, rfl, rfl⟩ | ⟨b1, rfl, rfl⟩ | ⟨b1, b2, rfl, rfl⟩ <;> first | exact ⟨rfl, rfl⟩ | (exfalso; contradiction)

set_option maxHeartbeats 1600000 in
theorem puts_walk (A : Option Addr) (c d : Nat) (l : List Sp) (w : World) (hl : ShowsG spanC w d (.slice A l.length c) l) (hu : u32s l) (hb : l.length ≤ 17592186044416) :
    Calls Try.prog 6 #[.slice A l.length c] w fun e w' => e = .returned (.bool true) ∧ Below w.heap.size w w' := by
  have hhead := Lib.hid (fun w' => head_any w')
  by_cases h60 : (1100 : Int) < (l.length : Int)
  · clear hl
    go_enter Try.func6, Try.ntmps6
    go_wp2_with fail
    refine (hhead.out _).mono ?_
    rintro e w1 ⟨rfl, hb1⟩
    go_wp2_with fail
    go_ret
    exact ⟨rfl, hb1⟩
  · have h25 := Lib.hid (fun w' (hb' : Below w.heap.size w w') => putS_any A c l.length d l w' rfl (hl.below' hb' (Nat.le_refl _)) hu (by omega))
    have h26 := Lib.hid (fun w' (hb' : Below w.heap.size w w') => qputS_any A c l.length d l w' rfl (hl.below' hb' (Nat.le_refl _)) hu (by omega))
    clear hl
    go_enter Try.func6, Try.ntmps6
    go_wp2_with fail
    refine (h25.out _ (Below.refl _ _)).mono ?_
    rintro e w1 ⟨v1, code1, r1, rfl, ho1, hb1, hs1⟩
    go_wp2_with fail
    refine (h26.out _ hb1).mono ?_
    rintro e w2 ⟨v2, code2, r2, rfl, ho2, hb2, hs2⟩
    obtain ⟨rfl, rfl⟩ := putSaid_one hs1 hs2
    have hbw2 : Below w.heap.size w w2 := hb1.trans (hb2.mono hb1.size)
    obtain ⟨g1, _, hs1'⟩ := ho1.shows
    obtain ⟨g2, _, hs2'⟩ := ho2.shows
    have hlt1 : 0 < r1.length → g1 < w1.heap.size := fun hp => hs1'.lt hp
    have cv1 := conv_at (hs1'.keep (w' := w2) hb2.size fun hp => hb2.block _ (hlt1 hp))
    have cv2 := conv_at hs2'
    clear hs1 hs2 ho1 ho2 hlt1
    generalize str8 r1 = s1 at *
    go_wp2_with fail
    refine (hhead.out _).mono ?_
    rintro e w7 ⟨rfl, hb7⟩
    go_wp2_with fail
    go_ret
    exact ⟨rfl, hbw2.trans (hb7.mono hbw2.size)⟩

set_option maxRecDepth 100000 in
theorem puts_walk_lifted (os : Os) (started : os.Started) (H : Type) (enc : TypeId × Value → H) :
    ReturnsInHanded {} Try.checked os 6 .any (Rows.spansPutsSpec.pre6 enc Try.prog Try.f6 Rows.spansPutsRow.domain false) (Rows.spansPutsSpec.post enc Try.prog Try.f6 false true false false) := by
  refine returnsInHanded_of_change_sized (C := Try.checked) own started (by kernel_rfl) Try.func6
    (ChangeSpec.witness6 (enc := enc) (C := Try.checked) false ⟨#[], #[.slice none 0 0], []⟩ 8 (by kernel_rfl) (by kernel_rfl) (by kernel_rfl) (by kernel_rfl)) ?_
  intro W base args ds gs before hval0 hW hcnd hsz0 _
  have hval : ∀ (j : Nat) t v, Try.f6.params[j]? = some t → args[j]? = some v → Value.okWide Try.prog W .any base t v := hval0
  have hsz : (DataW.weightsEach Try.prog (Try.f6.params.toList ++ Rows.spansPutsSpec.plain.varTypes Try.prog) (ds ++ gs)).all (· ≤ reachBytes) = true := hsz0
  have hW' := hW
  obtain ⟨p, q, hA0, hV, rfl, hfz, hnd⟩ := hW
  have hA : DataW.TrodAll enc Try.prog W 0 (fun _ => true) true Try.f6.params.toList args.toList ds p := hA0
  rw [Try.params6] at hA hval hsz
  obtain ⟨v0, vs0, d0, ds0, p0, q0, hargs, rfl, rfl, h0, r0⟩ := trodAll_cons hA
  obtain ⟨rfl, rfl, rfl⟩ := trodAll_nil r0
  obtain rfl : args = #[v0] := by cases args; simp_all
  obtain ⟨rfl, rfl⟩ := trodVars_none hV
  have k0 := h0
  have lt0 : ∀ x ∈ p0, x.block < W.heap.size := by obtain ⟨m, hm⟩ := k0; exact DataW.trod_lt m _ _ _ hm
  obtain ⟨A0, c0, b0, L0, rfl, sh0, l0, hu0⟩ := open_spans (hval 0 22 v0 rfl rfl) h0 hsz 0 rfl rfl
  clear hA0 hval0
  refine (puts_walk A0 c0 b0 L0 W sh0 hu0 (by omega)).mono fun e W' ⟨he, bel⟩ => ?_
  subst he
  exact ⟨_, rfl, _, _, _, [], _, [], hW', trodAll_mk1 (shut_bool Try.underlying4 _), (trodAll_cons_mk (Below.trod laidOut (by kernel_rfl) (of_decide_eq_true (by kernel_rfl)) k0 bel lt0) trodAll_mk0), rfl, bel.frame _, fun h => by cases h⟩

theorem spansPuts_holds : Rows.SpansPutsSaid :=
  OpenClaim.holds_of_wide 6 Try.f6 rfl rfl rfl rfl rfl rfl rfl ⟨rfl, rfl, rfl, rfl, rfl⟩ rfl rfl rfl rfl rfl (by kernel_rfl) Try.func6 (by kernel_rfl)
    (of_decide_eq_true (by kernel_rfl)) (by unfold Func.isWrapper; first | (rw [if_pos (by decide +kernel)]; kernel_rfl) | (rw [if_neg (by decide +kernel)]; exact ⟨rfl, rfl⟩))
    (fun os started H enc _ => puts_walk_lifted os started H enc)
#print axioms spansPuts_holds
end Go.Proofs.Ytpchjgeehejkeaa
