/-
  The law MethodLeads.
  Conditions: none.
-/
import Derived.Test.YthpiicdkihglpaaMeZZ
import Derived.Test.YthpiicdkihglpaaMeWZ
import Derived.Test.YthpiicdkihglpaaRowkitZ
namespace Go.Proofs.Ythpiicdkihglpaa
open Go.ChangeShapes Go.WideShapes Go.ChangeAt Go.RowKit
open Go.ChangeMaps (open_string shut_string)
set_option linter.unusedVariables false
set_option linter.unusedSimpArgs false

theorem name_size {cl co : Nat} {s : Shape} (h : findD cl co = some s) : (nameD cl s).size ≤ 25 := by
  have h1 := word_size cl
  have h2 := find_word h
  unfold nameD
  simp only [ByteArray.size_append]
  have : (⟨#[46]⟩ : ByteArray).size = 1 := rfl
  omega
set_option maxRecDepth 100000 in
set_option maxHeartbeats 2000000 in
theorem mleads_walk (S0 S1 : Nat) (w : World) (h0 : S0 < 256) (h1 : S1 < 256) : Calls Try.prog 11 #[.int .u8 S0, .int .u8 S1] w fun e w' => e = .returned (.bool true) ∧ Below w.heap.size w w' := by
  have HK := Lib.hid (kinds_any S0 S1)
  have HN := Lib.hid (name_any S0 S1)
  have HH := Lib.hid mhead_any
  cases hf : findD S0 S1 with
  | none =>
    rw [hf] at HK HN
    simp only [Option.elim, Option.isSome, Option.getD] at HK HN
    clear hf h0 h1
    go_enter Try.func11, Try.ntmps11
    go_wp2_with fail
    with_reducible refine (HN.out _).mono ?_
    rintro e w1 ⟨rfl, hb1⟩
    go_wp2_with fail
    with_reducible refine (HK.out _).mono ?_
    rintro e w2 ⟨rfl, hb2⟩
    have hB2 : Below w.heap.size w w2 := hb1.trans (hb2.mono hb1.size)
    clear hb1 hb2
    go_wp2_with fail
    with_reducible refine (HH.out _).mono ?_
    rintro e w3 ⟨rfl, hb3⟩
    go_wp2_with fail
    go_ret
    exact ⟨rfl, hB2.trans (hb3.mono hB2.size)⟩
  | some s =>
    have hz := name_size hf
    obtain ⟨_, hc9, hco, hm, _⟩ := find_ok hf
    have hn := name_hit hc9 hm rfl
    rw [hco] at hn
    have HD := Lib.hid (fun w => named_any (nameD S0 s) w (by omega))
    have hn2 : nmD (nameD S0 s) = some (rowOf S0 S1 s) := hn
    rw [hn2] at HD
    unfold rowOf at HD
    rw [hf] at HK HN
    simp only [Option.elim, Option.isSome, Option.getD] at HK HN HD
    clear hf h0 h1 hz hm hc9 hco hn hn2
    generalize nameD S0 s = nm at *
    obtain ⟨sc, sw, sk⟩ := s
    simp only [] at *
    go_enter Try.func11, Try.ntmps11
    go_wp2_with fail
    with_reducible refine (HN.out _).mono ?_
    rintro e w1 ⟨rfl, hb1⟩
    go_wp2_with fail
    with_reducible refine (HK.out _).mono ?_
    rintro e w2 ⟨rfl, hb2⟩
    have hB2 : Below w.heap.size w w2 := hb1.trans (hb2.mono hb1.size)
    clear hb1 hb2
    go_wp2_with fail
    with_reducible refine (HD.out _).mono ?_
    rintro e w3 ⟨rfl, hb3⟩
    have hB3 : Below w.heap.size w w3 := hB2.trans (hb3.mono hB2.size)
    clear hb3 hB2
    go_wp2_with fail
    with_reducible refine (HH.out _).mono ?_
    rintro e w4 ⟨rfl, hb4⟩
    go_wp2_with fail
    go_ret
    exact ⟨rfl, hB3.trans (hb4.mono hB3.size)⟩

set_option maxRecDepth 100000 in
set_option maxHeartbeats 1000000 in
theorem mleads_walk_lifted (os : Os) (started : os.Started) (H : Type) (enc : TypeId × Value → H) :
    ReturnsInHanded {} Try.checked os 11 .any (Rows.methodLeadsSpec.pre6 enc Try.prog Try.f11 Rows.methodLeadsRow.domain false) (Rows.methodLeadsSpec.post enc Try.prog Try.f11 false true false false) := by
  refine returnsInHanded_of_change_sized (C := Try.checked) own started (by kernel_rfl) Try.func11
    (ChangeSpec.witness6 (enc := enc) (C := Try.checked) false ⟨#[], #[.int .u8 0, .int .u8 0], []⟩ 8 (by kernel_rfl) (by kernel_rfl) (by kernel_rfl) (by kernel_rfl)) ?_
  intro W base args ds gs before hval0 hW hcnd hsz0 _
  have hval : ∀ (j : Nat) t v, Try.f11.params[j]? = some t → args[j]? = some v → Value.okWide Try.prog W .any base t v := hval0
  have hsz : (DataW.weightsEach Try.prog (Try.f11.params.toList ++ Rows.methodLeadsSpec.plain.varTypes Try.prog) (ds ++ gs)).all (· ≤ reachBytes) = true := hsz0
  have hW' := hW
  obtain ⟨p, q, hA0, hV, rfl, hfz, hnd⟩ := hW
  have hA : DataW.TrodAll enc Try.prog W 0 (fun _ => true) true Try.f11.params.toList args.toList ds p := hA0
  rw [Try.params11] at hA hval hsz
  obtain ⟨v0, vs0, d0, ds0, p0, q0, hargs, rfl, rfl, h0, r0⟩ := trodAll_cons hA
  obtain ⟨v1, vs1, d1, ds1, p1, q1, rfl, rfl, rfl, h1, r1⟩ := trodAll_cons r0
  obtain ⟨rfl, rfl, rfl⟩ := trodAll_nil r1
  obtain rfl : args = #[v0, v1] := by cases args; simp_all
  obtain ⟨rfl, rfl⟩ := trodVars_none hV
  have k0 := h0
  have lt0 : ∀ x ∈ p0, x.block < W.heap.size := by obtain ⟨m, hm⟩ := k0; exact DataW.trod_lt m _ _ _ hm
  have k1 := h1
  have lt1 : ∀ x ∈ p1, x.block < W.heap.size := by obtain ⟨m, hm⟩ := k1; exact DataW.trod_lt m _ _ _ hm
  obtain ⟨s0, rfl, rfl, rfl, ws0⟩ := open_int Try.underlying5 (hval 0 5 v0 rfl rfl) h0
  obtain ⟨s00, s01⟩ := u8_range ws0
  obtain ⟨S0, rfl⟩ := Int.eq_ofNat_of_zero_le s00
  obtain ⟨s1, rfl, rfl, rfl, ws1⟩ := open_int Try.underlying5 (hval 1 5 v1 rfl rfl) h1
  obtain ⟨s10, s11⟩ := u8_range ws1
  obtain ⟨S1, rfl⟩ := Int.eq_ofNat_of_zero_le s10
  clear hA0 hval0
  refine (mleads_walk S0 S1 W (by omega) (by omega)).mono fun e W' ⟨he, bel⟩ => ?_
  subst he
  exact ⟨_, rfl, _, _, _, [], _, [], hW', trodAll_mk1 (shut_bool Try.underlying4 _), (trodAll_cons_mk (Below.trod laidOut (by kernel_rfl) (of_decide_eq_true (by kernel_rfl)) k0 bel lt0) (trodAll_cons_mk (Below.trod laidOut (by kernel_rfl) (of_decide_eq_true (by kernel_rfl)) k1 bel lt1) trodAll_mk0)), rfl, bel.frame _, fun h => by cases h⟩

theorem methodLeads_holds : Rows.MethodLeadsSaid :=
  OpenClaim.holds_of_wide 11 Try.f11 rfl rfl rfl rfl rfl rfl rfl ⟨rfl, rfl, rfl, rfl, rfl⟩ rfl rfl rfl rfl rfl (by kernel_rfl) Try.func11 (by kernel_rfl)
    (of_decide_eq_true (by kernel_rfl)) (by unfold Func.isWrapper; first | (rw [if_pos (by decide +kernel)]; kernel_rfl) | (rw [if_neg (by decide +kernel)]; exact ⟨rfl, rfl⟩))
    (fun os started H enc _ => mleads_walk_lifted os started H enc)
#print axioms methodLeads_holds
end Go.Proofs.Ythpiicdkihglpaa
