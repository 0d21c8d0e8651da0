/-
  A round that is none answers ErrNil, and has nothing.
  Conditions: none.
-/
import Derived.Test.YtknfiiacalfelaaCrN
import Derived.Test.YtknfiiacalfelaaCrX
import Derived.Test.YtknfiiacalfelaaRowkit
import Derived.Test.YtknfiiacalfelaaRows
import Derived.ChangeMaps5
namespace Go.Proofs.Ytknfiiacalfelaa
open Go.ChangeShapes Go.WideShapes Go.ChangeAt Go.RowKit Go.Shelf
open Go.ChangeMaps (open_string shut_string)
set_option linter.unusedVariables false
set_option linter.unusedSimpArgs false
set_option maxRecDepth 100000

theorem below_two (w : World) (o p : Obj) : Below w.heap.size w ((w.alloc o).alloc p) := ((Below.refl _ _).alloc (Nat.le_refl _) _).alloc (by simp) _
set_option maxHeartbeats 8000000 in
theorem cnone_walk (t : ByteArray) (n : Nat) (w : World) (ht : t.size ≤ 140737488351232) (hn : n < 4294967296) : Calls Try.prog 6 #[.string t, .int .u32 n] w fun e w' => e = .returned (.bool true) ∧ Below w.heap.size w w' := by
  obtain ⟨W2, hW2⟩ : ∃ W2, W2 = (w.alloc (Obj.cells #[.pointer none, .map none] 55)).alloc (Obj.cells #[.pointer none, .pointer (some ⟨w.heap.size, 0, none⟩)] 23) := ⟨_, rfl⟩
  have hb2 : Below w.heap.size w W2 := by rw [hW2]; exact below_two _ _ _
  have hbox : W2.heap[w.heap.size]? = some (.cells #[.pointer none, .map none] 55 (0, 0)) := by rw [hW2]; exact (heap_alloc_old _ _ (by simp)).trans (heap_alloc_new w _)
  have hrow : W2.heap[w.heap.size + 1]? = some (.cells #[.pointer none, .pointer (some ⟨w.heap.size, 0, none⟩)] 23 (0, 0)) := by
    rw [hW2, ← World.size_alloc w (Obj.cells #[.pointer none, .map none] 55)]
    exact heap_alloc_new _ _
  have hs2 : W2.heap.size = w.heap.size + 1 + 1 := by rw [hW2]; simp
  have HW2 := Lib.hid hW2
  have HB2 := Lib.hid hb2
  have HFACT := Lib.hid (fun W (hb : Below W2.heap.size W2 W) => show DeadC W (.pointer none) ∧ DeadC W (.pointer (some ⟨w.heap.size, 0, none⟩)) ∧ W.cell? ⟨w.heap.size + 1, 0, none⟩ = some (.pointer none) ∧ W.cell? ⟨w.heap.size + 1, 1, none⟩ = some (.pointer (some ⟨w.heap.size, 0, none⟩)) from by
    have h1 := (hb.block w.heap.size (by omega)).trans hbox
    have h2 := (hb.block (w.heap.size + 1) (by omega)).trans hrow
    exact ⟨.inl rfl, .inr ⟨_, rfl, h1⟩, by rw [cell_of_row _ _ _ _ _ (0, 0) h2]; rfl, by rw [cell_of_row _ _ _ _ _ (0, 0) h2]; rfl⟩)
  have HH := Lib.hid (fun w' => chead_any w')
  have HNX := Lib.hid (fun w' w'' (hb' : Below w'.heap.size w' w'') (hb : Below W2.heap.size W2 w') => hb.trans (hb'.mono hb.size))
  clear hW2 hb2 hbox hrow hs2
  go_enter Try.func6, Try.ntmps6
  go_wp2_with fail
  rw [← HW2.out]
  go_loopw [7] (fun i wr => ∃ j : Nat, j ≤ 2 ∧ i = .int .i64 j ∧ Below W2.heap.size W2 wr) (fun i _ => 2 - (intOf i).toNat)
  case atStart => exact ⟨0, by omega, rfl, Below.refl _ _⟩
  case round =>
    rename World => wr
    obtain ⟨j, hj, rfl, hbr⟩ := hrel
    have hj3 : j = 0 ∨ j = 1 ∨ j = 2 := by omega
    obtain ⟨f1, f2, f3, f4⟩ := HFACT.out wr hbr
    have hba : Below W2.heap.size W2 (wr.alloc (.cells #[.string t] 9)) := hbr.alloc hbr.size _
    rcases hj3 with rfl | rfl | rfl
    case' inr.inr =>
      clear hba
      go_wp2_with (go_at_call 8; refine (HH.out _).mono ?_; rintro e w9 ⟨rfl, hb9⟩; have hb9' := HNX.out _ _ hb9 hbr)
      go_ret
      exact ⟨rfl, HB2.out.trans (hb9'.mono HB2.out.size)⟩
    case' inl =>
      have HX := Lib.hid (fun W (hb : Below W2.heap.size W2 W) => show DeadC W (.pointer none) from (HFACT.out W hb).1)
    case' inr.inl =>
      have HX := Lib.hid (fun W (hb : Below W2.heap.size W2 W) => show DeadC W (.pointer (some ⟨w.heap.size, 0, none⟩)) from (HFACT.out W hb).2.1)
    all_goals
      clear f1 f2
      go_wp2_with (first
        | (go_at_call 20; refine (credit_dead (HX.out _ (by assumption)) _).mono ?_; rintro e w5 ⟨rfl, rfl⟩)
        | (go_at_call 15; refine (turn_dead (HX.out _ (by assumption)) _).mono ?_; rintro e w5 ⟨rfl, hb5⟩; have hb5' := HNX.out _ _ hb5 (by assumption))
        | (go_at_call 9; refine (add_dead (HX.out _ (by assumption)) _).mono ?_; rintro e w6 ⟨rfl, rfl⟩)
        | (go_at_call 11; refine (remove_dead (HX.out _ (by assumption)) _).mono ?_; rintro e w6 ⟨rfl, rfl⟩)
        | (go_at_call 17; refine (give_dead (HX.out _ (by assumption)) _ _).mono ?_; rintro e w6 ⟨rfl, rfl⟩)
        | (go_at_call 13; refine (stop_dead (HX.out _ (by assumption)) _).mono ?_; rintro e w6 ⟨rfl, rfl⟩)
        | (go_at_call 19; refine (tags_dead (HX.out _ (by assumption))).mono ?_; rintro e w6 ⟨rfl, rfl⟩))
      go_roundw
      case rel => first | exact ⟨1, by omega, by go_num, by assumption⟩ | exact ⟨2, by omega, by go_num, by assumption⟩
      case measure => simp [intOf]

set_option maxRecDepth 100000 in
set_option maxHeartbeats 1000000 in
theorem cnone_walk_lifted (os : Os) (started : os.Started) (H : Type) (enc : TypeId × Value → H) :
    ReturnsInHanded {} Try.checked os 6 .any (Rows.creditNoneSpec.pre6 enc Try.prog Try.f6 Rows.creditNoneRow.domain false) (Rows.creditNoneSpec.post enc Try.prog Try.f6 false true false false) := by
  refine returnsInHanded_of_change_sized (C := Try.checked) own started (by kernel_rfl) Try.func6
    (ChangeSpec.witness6 (enc := enc) (C := Try.checked) false ⟨#[], #[.string ⟨#[]⟩, .int .u32 0], []⟩ 8 (by kernel_rfl) (by kernel_rfl) (by kernel_rfl) (by kernel_rfl)) ?_
  intro W base args ds gs before hval0 hW hcnd hsz0 _
  have hval : ∀ (j : Nat) t v, Try.f6.params[j]? = some t → args[j]? = some v → Value.okWide Try.prog W .any base t v := hval0
  have hsz : (DataW.weightsEach Try.prog (Try.f6.params.toList ++ Rows.creditNoneSpec.plain.varTypes Try.prog) (ds ++ gs)).all (· ≤ reachBytes) = true := hsz0
  have hW' := hW
  obtain ⟨p, q, hA0, hV, rfl, hfz, hnd⟩ := hW
  have hA : DataW.TrodAll enc Try.prog W 0 (fun _ => true) true Try.f6.params.toList args.toList ds p := hA0
  rw [Try.params6] at hA hval hsz
  obtain ⟨v0, vs0, d0, ds0, p0, q0, hargs, rfl, rfl, h0, r0⟩ := trodAll_cons hA
  obtain ⟨v1, vs1, d1, ds1, p1, q1, rfl, rfl, rfl, h1, r1⟩ := trodAll_cons r0
  obtain ⟨rfl, rfl, rfl⟩ := trodAll_nil r1
  obtain rfl : args = #[v0, v1] := by cases args; simp_all
  obtain ⟨rfl, rfl⟩ := trodVars_none hV
  have k0 := h0
  have lt0 : ∀ x ∈ p0, x.block < W.heap.size := by obtain ⟨m, hm⟩ := k0; exact DataW.trod_lt m _ _ _ hm
  have k1 := h1
  have lt1 : ∀ x ∈ p1, x.block < W.heap.size := by obtain ⟨m, hm⟩ := k1; exact DataW.trod_lt m _ _ _ hm
  obtain ⟨s0, rfl, rfl, rfl, _⟩ := open_string Try.underlying9 (hval 0 9 v0 rfl rfl) h0
  have zs0 := sized_string hsz (j := 0) (t := 9) rfl rfl
  have zt0 : s0.size ≤ 140737488351232 := by rw [← sb_length]; exact zs0
  obtain ⟨s1, rfl, rfl, rfl, ws1⟩ := open_int Try.underlying29 (hval 1 29 v1 rfl rfl) h1
  obtain ⟨s10, s11⟩ := u32_range ws1
  obtain ⟨S1, rfl⟩ := Int.eq_ofNat_of_zero_le s10
  clear hA0 hval0
  refine (cnone_walk s0 S1 W zt0 (by omega)).mono fun e W' ⟨he, bel⟩ => ?_
  subst he
  exact ⟨_, rfl, _, _, _, [], _, [], hW', trodAll_mk1 (shut_bool Try.underlying4 _), (trodAll_cons_mk (Below.trod laidOut (by kernel_rfl) (of_decide_eq_true (by kernel_rfl)) k0 bel lt0) (trodAll_cons_mk (Below.trod laidOut (by kernel_rfl) (of_decide_eq_true (by kernel_rfl)) k1 bel lt1) trodAll_mk0)), rfl, bel.frame _, fun h => by cases h⟩

theorem creditNone_holds : Rows.CreditNoneSaid :=
  OpenClaim.holds_of_wide 6 Try.f6 rfl rfl rfl rfl rfl rfl rfl ⟨rfl, rfl, rfl, rfl, rfl⟩ rfl rfl rfl rfl rfl (by kernel_rfl) Try.func6 (by kernel_rfl)
    (of_decide_eq_true (by kernel_rfl)) (by unfold Func.isWrapper; first | (rw [if_pos (by decide +kernel)]; kernel_rfl) | (rw [if_neg (by decide +kernel)]; exact ⟨rfl, rfl⟩))
    (fun os started H enc _ => cnone_walk_lifted os started H enc)
#print axioms creditNone_holds
end Go.Proofs.Ytknfiiacalfelaa
