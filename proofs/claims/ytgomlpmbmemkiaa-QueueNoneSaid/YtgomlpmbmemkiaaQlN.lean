/-
  A queue that is none answers ErrNil, and has nothing.
  Conditions: none.
-/
import Derived.Test.YtgomlpmbmemkiaaQpN
import Derived.Test.YtgomlpmbmemkiaaQlD
import Derived.Test.YtgomlpmbmemkiaaRowkit
import Derived.Test.YtgomlpmbmemkiaaRows
namespace Go.Proofs.Ytgomlpmbmemkiaa
open Go.ChangeShapes Go.WideShapes Go.ChangeAt Go.RowKit Go.Shelf
set_option linter.unusedVariables false
set_option linter.unusedSimpArgs false
set_option maxRecDepth 100000

theorem below_two (w : World) (o p : Obj) : Below w.heap.size w ((w.alloc o).alloc p) := ((Below.refl _ _).alloc (Nat.le_refl _) _).alloc (by simp) _
set_option maxHeartbeats 8000000 in
theorem qnone_walk (a b : Nat) (n : Int) (w : World) (ha : a < 18446744073709551616) (hb : b < 18446744073709551616) (hn0 : -9223372036854775808 ≤ n) (hn1 : n ≤ 9223372036854775807) : Calls Try.prog 4 #[.int .u64 a, .int .u64 b, .int .i64 n] w fun e w' => e = .returned (.bool true) ∧ Below w.heap.size w w' := by
  obtain ⟨W2, hW2⟩ : ∃ W2, W2 = (w.alloc (Obj.cells #[.int .u64 0, .int .i64 0, .int .u64 0, .slice none 0 0, .map none] 40)).alloc (Obj.cells #[.pointer none, .pointer (some ⟨w.heap.size, 0, none⟩)] 25) := ⟨_, rfl⟩
  have hb2 : Below w.heap.size w W2 := by rw [hW2]; exact below_two _ _ _
  have hbox : W2.heap[w.heap.size]? = some (.cells #[.int .u64 0, .int .i64 0, .int .u64 0, .slice none 0 0, .map none] 40 (0, 0)) := by rw [hW2]; exact (heap_alloc_old _ _ (by simp)).trans (heap_alloc_new w _)
  have hrow : W2.heap[w.heap.size + 1]? = some (.cells #[.pointer none, .pointer (some ⟨w.heap.size, 0, none⟩)] 25 (0, 0)) := by
    rw [hW2, ← World.size_alloc w (Obj.cells #[.int .u64 0, .int .i64 0, .int .u64 0, .slice none 0 0, .map none] 40)]
    exact heap_alloc_new _ _
  have hs2 : W2.heap.size = w.heap.size + 1 + 1 := by rw [hW2]; simp
  have HW2 := Lib.hid hW2
  have HB2 := Lib.hid hb2
  have HFACT := Lib.hid (fun W (hb : Below W2.heap.size W2 W) => show DeadP W (.pointer none) ∧ DeadP W (.pointer (some ⟨w.heap.size, 0, none⟩)) ∧ W.cell? ⟨w.heap.size + 1, 0, none⟩ = some (.pointer none) ∧ W.cell? ⟨w.heap.size + 1, 1, none⟩ = some (.pointer (some ⟨w.heap.size, 0, none⟩)) from by
    have h1 := (hb.block w.heap.size (by omega)).trans hbox
    have h2 := (hb.block (w.heap.size + 1) (by omega)).trans hrow
    exact ⟨.inl rfl, .inr ⟨_, rfl, h1⟩, by rw [cell_of_row _ _ _ _ _ (0, 0) h2]; rfl, by rw [cell_of_row _ _ _ _ _ (0, 0) h2]; rfl⟩)
  have HH := Lib.hid (fun w' => qhead_any w')
  have HNX := Lib.hid (fun w' w'' (hb' : Below w'.heap.size w' w'') (hb : Below W2.heap.size W2 w') => hb.trans (hb'.mono hb.size))
  clear hW2 hb2 hbox hrow hs2
  go_enter Try.func4, Try.ntmps4
  go_wp2_with fail
  rw [← HW2.out]
  go_loopw [9] (fun i wr => ∃ j : Nat, j ≤ 2 ∧ i = .int .i64 j ∧ Below W2.heap.size W2 wr) (fun i _ => 2 - (intOf i).toNat)
  case atStart => exact ⟨0, by omega, rfl, Below.refl _ _⟩
  case round =>
    rename World => wr
    obtain ⟨j, hj, rfl, hbr⟩ := hrel
    have hj3 : j = 0 ∨ j = 1 ∨ j = 2 := by omega
    obtain ⟨f1, f2, f3, f4⟩ := HFACT.out wr hbr
    rcases hj3 with rfl | rfl | rfl
    case' inr.inr =>
      go_wp2_with (go_at_call 5; refine (HH.out _).mono ?_; rintro e w9 ⟨rfl, hb9⟩; have hb9' := HNX.out _ _ hb9 hbr)
      go_ret
      exact ⟨rfl, HB2.out.trans (hb9'.mono HB2.out.size)⟩
    case' inl =>
      have HX := Lib.hid (fun W (hb : Below W2.heap.size W2 W) => show DeadP W (.pointer none) from (HFACT.out W hb).1)
    case' inr.inl =>
      have HX := Lib.hid (fun W (hb : Below W2.heap.size W2 W) => show DeadP W (.pointer (some ⟨w.heap.size, 0, none⟩)) from (HFACT.out W hb).2.1)
    all_goals
      clear f1 f2
      go_wp2_with (first
        | (go_at_call 8; refine (next_dead (HX.out _ (by assumption)) _).mono ?_; rintro e w5 ⟨rfl, rfl⟩)
        | (go_at_call 9; refine (owner_dead (HX.out _ (by assumption)) _).mono ?_; rintro e w5 ⟨rfl, rfl⟩)
        | (go_at_call 7; refine (put_dead (HX.out _ (by assumption)) _).mono ?_; rintro e w5 ⟨rfl, rfl⟩)
        | (go_at_call 11; refine (keep_dead (HX.out _ (by assumption)) _).mono ?_; rintro e w5 ⟨rfl, rfl⟩)
        | (go_at_call 12; refine (give_dead (HX.out _ (by assumption)) _).mono ?_; rintro e w5 ⟨rfl, rfl⟩)
        | (go_at_call 13; refine (fill_dead (HX.out _ (by assumption)) _).mono ?_; rintro e w5 ⟨rfl, rfl⟩)
        | (go_at_call 14; refine (hold_dead (HX.out _ (by assumption)) _ _).mono ?_; rintro e w5 ⟨rfl, rfl⟩)
        | (go_at_call 15; refine (pass_dead (HX.out _ (by assumption)) _ _ _).mono ?_; rintro e w5 ⟨rfl, rfl⟩)
        | (go_at_call 16; refine (free_dead (HX.out _ (by assumption)) _ _).mono ?_; rintro e w5 ⟨rfl, hb5⟩; have hb5' := HNX.out _ _ hb5 (by assumption))
        | (go_at_call 17; refine (drop_dead (HX.out _ (by assumption)) _ _).mono ?_; rintro e w5 ⟨rfl, hb5⟩; have hb5' := HNX.out _ _ hb5 (by assumption))
        | (go_at_call 18; refine (purge_dead (HX.out _ (by assumption))).mono ?_; rintro e w5 ⟨rfl, rfl⟩)
        | (go_at_call 19; refine (of_dead (HX.out _ (by assumption)) _).mono ?_; rintro e w5 ⟨rfl, hb5⟩; have hb5' := HNX.out _ _ hb5 (by assumption))
        | (go_at_call 20; refine (all_dead (HX.out _ (by assumption))).mono ?_; rintro e w5 ⟨rfl, hb5⟩; have hb5' := HNX.out _ _ hb5 (by assumption))
        | (go_at_call 10; refine (ready_dead (HX.out _ (by assumption))).mono ?_; rintro e w5 ⟨rfl, rfl⟩)
        | (go_at_call 21; refine (kept_dead (HX.out _ (by assumption))).mono ?_; rintro e w5 ⟨rfl, rfl⟩)
        | (go_at_call 22; refine (room_dead (HX.out _ (by assumption))).mono ?_; rintro e w5 ⟨rfl, hb5⟩; have hb5' := HNX.out _ _ hb5 (by assumption)))
      go_roundw
      case rel => first | exact ⟨1, by omega, by go_num, by assumption⟩ | exact ⟨2, by omega, by go_num, by assumption⟩
      case measure => simp [intOf]

set_option maxRecDepth 100000 in
set_option maxHeartbeats 1000000 in
theorem qnone_walk_lifted (os : Os) (started : os.Started) (H : Type) (enc : TypeId × Value → H) :
    ReturnsInHanded {} Try.checked os 4 .any (Rows.queueNoneSpec.pre6 enc Try.prog Try.f4 Rows.queueNoneRow.domain false) (Rows.queueNoneSpec.post enc Try.prog Try.f4 false true false false) := by
  refine returnsInHanded_of_change_sized (C := Try.checked) own started (by kernel_rfl) Try.func4
    (ChangeSpec.witness6 (enc := enc) (C := Try.checked) false ⟨#[], #[.int .u64 0, .int .u64 0, .int .i64 0], []⟩ 8 (by kernel_rfl) (by kernel_rfl) (by kernel_rfl) (by kernel_rfl)) ?_
  intro W base args ds gs before hval0 hW hcnd hsz0 _
  have hval : ∀ (j : Nat) t v, Try.f4.params[j]? = some t → args[j]? = some v → Value.okWide Try.prog W .any base t v := hval0
  have hsz : (DataW.weightsEach Try.prog (Try.f4.params.toList ++ Rows.queueNoneSpec.plain.varTypes Try.prog) (ds ++ gs)).all (· ≤ reachBytes) = true := hsz0
  have hW' := hW
  obtain ⟨p, q, hA0, hV, rfl, hfz, hnd⟩ := hW
  have hA : DataW.TrodAll enc Try.prog W 0 (fun _ => true) true Try.f4.params.toList args.toList ds p := hA0
  rw [Try.params4] at hA hval hsz
  obtain ⟨v0, vs0, d0, ds0, p0, q0, hargs, rfl, rfl, h0, r0⟩ := trodAll_cons hA
  obtain ⟨v1, vs1, d1, ds1, p1, q1, rfl, rfl, rfl, h1, r1⟩ := trodAll_cons r0
  obtain ⟨v2, vs2, d2, ds2, p2, q2, rfl, rfl, rfl, h2, r2⟩ := trodAll_cons r1
  obtain ⟨rfl, rfl, rfl⟩ := trodAll_nil r2
  obtain rfl : args = #[v0, v1, v2] := by cases args; simp_all
  obtain ⟨rfl, rfl⟩ := trodVars_none hV
  have k0 := h0
  have lt0 : ∀ x ∈ p0, x.block < W.heap.size := by obtain ⟨m, hm⟩ := k0; exact DataW.trod_lt m _ _ _ hm
  have k1 := h1
  have lt1 : ∀ x ∈ p1, x.block < W.heap.size := by obtain ⟨m, hm⟩ := k1; exact DataW.trod_lt m _ _ _ hm
  have k2 := h2
  have lt2 : ∀ x ∈ p2, x.block < W.heap.size := by obtain ⟨m, hm⟩ := k2; exact DataW.trod_lt m _ _ _ hm
  obtain ⟨s0, rfl, rfl, rfl, ws0⟩ := open_int Try.underlying27 (hval 0 27 v0 rfl rfl) h0
  obtain ⟨s00, s01⟩ := u64_range ws0
  obtain ⟨S0, rfl⟩ := Int.eq_ofNat_of_zero_le s00
  obtain ⟨s1, rfl, rfl, rfl, ws1⟩ := open_int Try.underlying27 (hval 1 27 v1 rfl rfl) h1
  obtain ⟨s10, s11⟩ := u64_range ws1
  obtain ⟨S1, rfl⟩ := Int.eq_ofNat_of_zero_le s10
  obtain ⟨s2, rfl, rfl, rfl, ws2⟩ := open_int Try.underlying3 (hval 2 3 v2 rfl rfl) h2
  obtain ⟨s20, s21⟩ := i64_range ws2
  clear hA0 hval0
  refine (qnone_walk S0 S1 s2 W (by omega) (by omega) s20 s21).mono fun e W' ⟨he, bel⟩ => ?_
  subst he
  exact ⟨_, rfl, _, _, _, [], _, [], hW', trodAll_mk1 (shut_bool Try.underlying4 _), (trodAll_cons_mk (Below.trod laidOut (by kernel_rfl) (of_decide_eq_true (by kernel_rfl)) k0 bel lt0) (trodAll_cons_mk (Below.trod laidOut (by kernel_rfl) (of_decide_eq_true (by kernel_rfl)) k1 bel lt1) (trodAll_cons_mk (Below.trod laidOut (by kernel_rfl) (of_decide_eq_true (by kernel_rfl)) k2 bel lt2) trodAll_mk0))), rfl, bel.frame _, fun h => by cases h⟩

theorem queueNone_holds : Rows.QueueNoneSaid :=
  OpenClaim.holds_of_wide 4 Try.f4 rfl rfl rfl rfl rfl rfl rfl ⟨rfl, rfl, rfl, rfl, rfl⟩ rfl rfl rfl rfl rfl (by kernel_rfl) Try.func4 (by kernel_rfl)
    (of_decide_eq_true (by kernel_rfl)) (by unfold Func.isWrapper; first | (rw [if_pos (by decide +kernel)]; kernel_rfl) | (rw [if_neg (by decide +kernel)]; exact ⟨rfl, rfl⟩))
    (fun os started H enc _ => qnone_walk_lifted os started H enc)
#print axioms queueNone_holds
end Go.Proofs.Ytgomlpmbmemkiaa
