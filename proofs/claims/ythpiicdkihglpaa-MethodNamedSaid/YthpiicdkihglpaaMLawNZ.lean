/-
  The law MethodNamed.
  Conditions: none but sizes.
-/
import Derived.Test.YthpiicdkihglpaaMeZRZ
import Derived.Test.YthpiicdkihglpaaRowkitZ
namespace Go.Proofs.Ythpiicdkihglpaa
open Go.ChangeShapes Go.WideShapes Go.ChangeAt Go.RowKit
open Go.ChangeMaps (open_string shut_string)
set_option linter.unusedVariables false
set_option linter.unusedSimpArgs false

set_option maxRecDepth 100000 in
set_option maxHeartbeats 2000000 in
theorem mnamed_walk (s : ByteArray) (w : World) (hs : s.size ≤ 140737488351232) : Calls Try.prog 7 #[.string s] w fun e w' => e = .returned (.bool true) ∧ Below w.heap.size w w' := by
  have HF := Lib.hid (rnamed_any s)
  have HN := Lib.hid (fun w => named_any s w hs)
  have HH := Lib.hid mhead_any
  have e0 : (⟨0, 0, ⟨#[]⟩, ⟨#[]⟩⟩ : RowT) = row0 := rfl
  rw [e0] at HN
  generalize (nmD s).isSome = r at *
  generalize (nmD s).getD row0 = R at *
  clear hs e0
  obtain ⟨rc, ro, rn, rk⟩ := R
  unfold rowV at HF
  simp only [] at *
  go_enter Try.func7, Try.ntmps7
  go_wp2_with fail
  with_reducible refine (HF.out _).mono ?_
  rintro e w1 ⟨rfl, hb1⟩
  go_upto_region 2 with fail
  have hx : BoxW (w1.alloc (Obj.cells #[.int .u8 rc, .int .u8 ro, .string rn, .string rk] 65)) w1.heap.size ⟨rc, ro, rn, rk⟩ := heap_alloc_new w1 _
  have hB2 : Below w.heap.size w (w1.alloc (Obj.cells #[.int .u8 rc, .int .u8 ro, .string rn, .string rk] 65)) := hb1.alloc hb1.size _
  generalize w1.alloc (Obj.cells #[.int .u8 rc, .int .u8 ro, .string rn, .string rk] 65) = w2 at *
  go_wp2_with fail
  with_reducible refine (HN.out _).mono ?_
  rintro e w3 ⟨rfl, hb3⟩
  obtain ⟨c0, c1, c2, c3⟩ := (hx.kept hb3 (Nat.le_refl _)).cells
  have hB4 : Below w.heap.size w w3 := hB2.trans (hb3.mono hB2.size)
  clear hb3 hx hB2 hb1
  simp only [] at c0 c1 c2 c3
  go_wp2_with fail
  with_reducible refine (HH.out _).mono ?_
  rintro e w5 ⟨rfl, hb5⟩
  go_wp2_with fail
  go_ret
  exact ⟨rfl, hB4.trans (hb5.mono hB4.size)⟩

set_option maxRecDepth 100000 in
set_option maxHeartbeats 1000000 in
theorem mnamed_walk_lifted (os : Os) (started : os.Started) (H : Type) (enc : TypeId × Value → H) :
    ReturnsInHanded {} Try.checked os 7 .any (Rows.methodNamedSpec.pre6 enc Try.prog Try.f7 Rows.methodNamedRow.domain false) (Rows.methodNamedSpec.post enc Try.prog Try.f7 false true false false) := by
  refine returnsInHanded_of_change_sized (C := Try.checked) own started (by kernel_rfl) Try.func7
    (ChangeSpec.witness6 (enc := enc) (C := Try.checked) false ⟨#[], #[.string ⟨#[]⟩], []⟩ 8 (by kernel_rfl) (by kernel_rfl) (by kernel_rfl) (by kernel_rfl)) ?_
  intro W base args ds gs before hval0 hW hcnd hsz0 _
  have hval : ∀ (j : Nat) t v, Try.f7.params[j]? = some t → args[j]? = some v → Value.okWide Try.prog W .any base t v := hval0
  have hsz : (DataW.weightsEach Try.prog (Try.f7.params.toList ++ Rows.methodNamedSpec.plain.varTypes Try.prog) (ds ++ gs)).all (· ≤ reachBytes) = true := hsz0
  have hW' := hW
  obtain ⟨p, q, hA0, hV, rfl, hfz, hnd⟩ := hW
  have hA : DataW.TrodAll enc Try.prog W 0 (fun _ => true) true Try.f7.params.toList args.toList ds p := hA0
  rw [Try.params7] at hA hval hsz
  obtain ⟨v0, vs0, d0, ds0, p0, q0, hargs, rfl, rfl, h0, r0⟩ := trodAll_cons hA
  obtain ⟨rfl, rfl, rfl⟩ := trodAll_nil r0
  obtain rfl : args = #[v0] := by cases args; simp_all
  obtain ⟨rfl, rfl⟩ := trodVars_none hV
  have k0 := h0
  have lt0 : ∀ x ∈ p0, x.block < W.heap.size := by obtain ⟨m, hm⟩ := k0; exact DataW.trod_lt m _ _ _ hm
  obtain ⟨s0, rfl, rfl, rfl, _⟩ := open_string Try.underlying9 (hval 0 9 v0 rfl rfl) h0
  have zs0 := sized_string hsz (j := 0) (t := 9) rfl rfl
  have zt0 : s0.size ≤ 140737488351232 := by rw [← sb_length]; exact zs0
  clear hA0 hval0
  refine (mnamed_walk s0 W zt0).mono fun e W' ⟨he, bel⟩ => ?_
  subst he
  exact ⟨_, rfl, _, _, _, [], _, [], hW', trodAll_mk1 (shut_bool Try.underlying4 _), (trodAll_cons_mk (Below.trod laidOut (by kernel_rfl) (of_decide_eq_true (by kernel_rfl)) k0 bel lt0) trodAll_mk0), rfl, bel.frame _, fun h => by cases h⟩

theorem methodNamed_holds : Rows.MethodNamedSaid :=
  OpenClaim.holds_of_wide 7 Try.f7 rfl rfl rfl rfl rfl rfl rfl ⟨rfl, rfl, rfl, rfl, rfl⟩ rfl rfl rfl rfl rfl (by kernel_rfl) Try.func7 (by kernel_rfl)
    (of_decide_eq_true (by kernel_rfl)) (by unfold Func.isWrapper; first | (rw [if_pos (by decide +kernel)]; kernel_rfl) | (rw [if_neg (by decide +kernel)]; exact ⟨rfl, rfl⟩))
    (fun os started H enc _ => mnamed_walk_lifted os started H enc)
#print axioms methodNamed_holds
end Go.Proofs.Ythpiicdkihglpaa
