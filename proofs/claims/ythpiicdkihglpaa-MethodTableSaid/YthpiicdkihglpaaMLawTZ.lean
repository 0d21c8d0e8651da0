/-
  The laws MethodTable and MethodLeads.
  Conditions: none.
-/
import Derived.Test.YthpiicdkihglpaaMeYZ
import Derived.Test.YthpiicdkihglpaaMeXTZ
import Derived.Test.YthpiicdkihglpaaRowkitZ
namespace Go.Proofs.Ythpiicdkihglpaa
open Go.ChangeShapes Go.WideShapes Go.ChangeAt Go.RowKit
open Go.ChangeMaps (open_string shut_string)
set_option linter.unusedVariables false
set_option linter.unusedSimpArgs false

set_option maxRecDepth 100000 in
set_option maxHeartbeats 2000000 in
theorem mtable_walk (S0 S1 : Nat) (w : World) (h0 : S0 < 256) (h1 : S1 < 256) : Calls Try.prog 6 #[.int .u8 S0, .int .u8 S1] w fun e w' => e = .returned (.bool true) ∧ Below w.heap.size w w' := by
  have HF := Lib.hid (rfind_any table_any S0 S1)
  have HK := Lib.hid (kinds_any S0 S1)
  have HN := Lib.hid (name_any S0 S1)
  have HH := Lib.hid mhead_any
  obtain ⟨r, R, K, hr, h1, h2, h3, h4, h5⟩ : ∃ (r : Bool) (R : RowT) (K : Shape), r = (findD S0 S1).isSome ∧ ((findD S0 S1).map (rowOf S0 S1)).getD row0 = R ∧ (findD S0 S1).getD sh0 = K ∧ R.kinds = K.kinds ∧ R.name = (findD S0 S1).elim ⟨#[]⟩ (nameD S0) ∧ True := by
    refine ⟨_, _, _, rfl, rfl, rfl, ?_, ?_, trivial⟩ <;> cases findD S0 S1 <;> rfl
  rw [← hr] at HF HK HN
  rw [h1] at HF
  rw [h2] at HK
  rw [← h4] at HN
  rw [← h3] at HK
  clear hr h1 h2 h3 h4 h5 h0
  obtain ⟨rc, ro, rn, rk⟩ := R
  unfold rowV at HF
  simp only [] at *
  go_enter Try.func6, Try.ntmps6
  go_wp2_with fail
  with_reducible refine (HF.out _).mono ?_
  rintro e w1 ⟨rfl, hb1⟩
  go_upto_region 2 with fail
  have hx : BoxW (w1.alloc (Obj.cells #[.int .u8 rc, .int .u8 ro, .string rn, .string rk] 65)) w1.heap.size ⟨rc, ro, rn, rk⟩ := heap_alloc_new w1 _
  have hB2 : Below w.heap.size w (w1.alloc (Obj.cells #[.int .u8 rc, .int .u8 ro, .string rn, .string rk] 65)) := hb1.alloc hb1.size _
  generalize w1.alloc (Obj.cells #[.int .u8 rc, .int .u8 ro, .string rn, .string rk] 65) = w2 at *
  go_wp2_with fail
  with_reducible refine (HK.out _).mono ?_
  rintro e w3 ⟨rfl, hb3⟩
  go_wp2_with fail
  with_reducible refine (HN.out _).mono ?_
  rintro e w4 ⟨rfl, hb4⟩
  have hb24 : Below w2.heap.size w2 w4 := hb3.trans (hb4.mono hb3.size)
  obtain ⟨c0, c1, c2, c3⟩ := (hx.kept hb24 (Nat.le_refl _)).cells
  have hB4 : Below w.heap.size w w4 := hB2.trans (hb24.mono hB2.size)
  clear hb24 hb3 hb4 hx hB2 hb1
  simp only [] at c0 c1 c2 c3
  go_wp2_with fail
  with_reducible refine (HH.out _).mono ?_
  rintro e w5 ⟨rfl, hb5⟩
  go_wp2_with fail
  go_ret
  exact ⟨rfl, hB4.trans (hb5.mono hB4.size)⟩

set_option maxRecDepth 100000 in
set_option maxHeartbeats 1000000 in
theorem mtable_walk_lifted (os : Os) (started : os.Started) (H : Type) (enc : TypeId × Value → H) :
    ReturnsInHanded {} Try.checked os 6 .any (Rows.methodTableSpec.pre6 enc Try.prog Try.f6 Rows.methodTableRow.domain false) (Rows.methodTableSpec.post enc Try.prog Try.f6 false true false false) := by
  refine returnsInHanded_of_change_sized (C := Try.checked) own started (by kernel_rfl) Try.func6
    (ChangeSpec.witness6 (enc := enc) (C := Try.checked) false ⟨#[], #[.int .u8 0, .int .u8 0], []⟩ 8 (by kernel_rfl) (by kernel_rfl) (by kernel_rfl) (by kernel_rfl)) ?_
  intro W base args ds gs before hval0 hW hcnd hsz0 _
  have hval : ∀ (j : Nat) t v, Try.f6.params[j]? = some t → args[j]? = some v → Value.okWide Try.prog W .any base t v := hval0
  have hsz : (DataW.weightsEach Try.prog (Try.f6.params.toList ++ Rows.methodTableSpec.plain.varTypes Try.prog) (ds ++ gs)).all (· ≤ reachBytes) = true := hsz0
  have hW' := hW
  obtain ⟨p, q, hA0, hV, rfl, hfz, hnd⟩ := hW
  have hA : DataW.TrodAll enc Try.prog W 0 (fun _ => true) true Try.f6.params.toList args.toList ds p := hA0
  rw [Try.params6] at hA hval hsz
  obtain ⟨v0, vs0, d0, ds0, p0, q0, hargs, rfl, rfl, h0, r0⟩ := trodAll_cons hA
  obtain ⟨v1, vs1, d1, ds1, p1, q1, rfl, rfl, rfl, h1, r1⟩ := trodAll_cons r0
  obtain ⟨rfl, rfl, rfl⟩ := trodAll_nil r1
  obtain rfl : args = #[v0, v1] := by cases args; simp_all
  obtain ⟨rfl, rfl⟩ := trodVars_none hV
  have k0 := h0
  have lt0 : ∀ x ∈ p0, x.block < W.heap.size := by obtain ⟨m, hm⟩ := k0; exact DataW.trod_lt m _ _ _ hm
  have k1 := h1
  have lt1 : ∀ x ∈ p1, x.block < W.heap.size := by obtain ⟨m, hm⟩ := k1; exact DataW.trod_lt m _ _ _ hm
  obtain ⟨s0, rfl, rfl, rfl, ws0⟩ := open_int Try.underlying5 (hval 0 5 v0 rfl rfl) h0
  obtain ⟨s00, s01⟩ := u8_range ws0
  obtain ⟨S0, rfl⟩ := Int.eq_ofNat_of_zero_le s00
  obtain ⟨s1, rfl, rfl, rfl, ws1⟩ := open_int Try.underlying5 (hval 1 5 v1 rfl rfl) h1
  obtain ⟨s10, s11⟩ := u8_range ws1
  obtain ⟨S1, rfl⟩ := Int.eq_ofNat_of_zero_le s10
  clear hA0 hval0
  refine (mtable_walk S0 S1 W (by omega) (by omega)).mono fun e W' ⟨he, bel⟩ => ?_
  subst he
  exact ⟨_, rfl, _, _, _, [], _, [], hW', trodAll_mk1 (shut_bool Try.underlying4 _), (trodAll_cons_mk (Below.trod laidOut (by kernel_rfl) (of_decide_eq_true (by kernel_rfl)) k0 bel lt0) (trodAll_cons_mk (Below.trod laidOut (by kernel_rfl) (of_decide_eq_true (by kernel_rfl)) k1 bel lt1) trodAll_mk0)), rfl, bel.frame _, fun h => by cases h⟩

theorem methodTable_holds : Rows.MethodTableSaid :=
  OpenClaim.holds_of_wide 6 Try.f6 rfl rfl rfl rfl rfl rfl rfl ⟨rfl, rfl, rfl, rfl, rfl⟩ rfl rfl rfl rfl rfl (by kernel_rfl) Try.func6 (by kernel_rfl)
    (of_decide_eq_true (by kernel_rfl)) (by unfold Func.isWrapper; first | (rw [if_pos (by decide +kernel)]; kernel_rfl) | (rw [if_neg (by decide +kernel)]; exact ⟨rfl, rfl⟩))
    (fun os started H enc _ => mtable_walk_lifted os started H enc)
#print axioms methodTable_holds
end Go.Proofs.Ythpiicdkihglpaa
