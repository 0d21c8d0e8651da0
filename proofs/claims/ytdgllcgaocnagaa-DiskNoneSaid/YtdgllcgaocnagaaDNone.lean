/-
  A disk that is none answers ErrNil, and has nothing.
  Conditions: none but sizes.
-/
import Derived.Test.YtdgllcgaocnagaaDiW
import Derived.Test.YtdgllcgaocnagaaRowkit
namespace Go.Proofs.Ytdgllcgaocnagaa
open Go.ChangeShapes Go.WideShapes Go.ChangeAt Go.RowKit Go.Shelf
open Go.ChangeMaps (open_string shut_string)
set_option linter.unusedVariables false
set_option linter.unusedSimpArgs false
set_option maxRecDepth 100000

theorem copy_dead {w : World} {d : Value} (h : DeadD w d) : Calls Try.prog 17 #[d] w fun e w' => e = .returned (.pointer none) ∧ w' = w := by
  have HC := Lib.hid (made_dead h)
  go_enter Try.func17, Try.ntmps17
  go_wp2_with (go_at_call 19; refine HC.out.mono ?_; rintro e w1 ⟨rfl, rfl⟩)
  go_ret
  exact ⟨rfl, rfl⟩

set_option maxHeartbeats 4000000 in
theorem dnone_walk (s : ByteArray) (n : Int) (w : World) (hs : s.size ≤ 140737488351232) (hn0 : -9223372036854775808 ≤ n) (hn1 : n ≤ 9223372036854775807) : Calls Try.prog 3 #[.string s, .int .i64 n] w fun e w' => e = .returned (.bool true) ∧ Below w.heap.size w w' := by
  obtain ⟨W2, hW2⟩ : ∃ W2, W2 = (w.alloc (Obj.cells #[.int .i64 0, .int .i64 0, .map none, .int .i64 0, .bool false] 25)).alloc (Obj.cells #[.pointer none, .pointer (some ⟨w.heap.size, 0, none⟩)] 22) := ⟨_, rfl⟩
  have hb2 : Below w.heap.size w W2 := by rw [hW2]; exact below_box2K _ _ _
  have hbox : W2.heap[w.heap.size]? = some (.cells #[.int .i64 0, .int .i64 0, .map none, .int .i64 0, .bool false] 25 (0, 0)) := by rw [hW2]; exact (heap_alloc_old _ _ (by simp)).trans (heap_alloc_new w _)
  have hrow : W2.heap[w.heap.size + 1]? = some (.cells #[.pointer none, .pointer (some ⟨w.heap.size, 0, none⟩)] 22 (0, 0)) := by
    rw [hW2, ← World.size_alloc w (Obj.cells #[.int .i64 0, .int .i64 0, .map none, .int .i64 0, .bool false] 25)]
    exact heap_alloc_new _ _
  have hs2 : W2.heap.size = w.heap.size + 1 + 1 := by rw [hW2]; simp
  have HW2 := Lib.hid hW2
  have HB2 := Lib.hid hb2
  have HFACT := Lib.hid (fun W (hb : Below W2.heap.size W2 W) => show DeadD W (.pointer none) ∧ DeadD W (.pointer (some ⟨w.heap.size, 0, none⟩)) ∧ W.cell? ⟨w.heap.size + 1, 0, none⟩ = some (.pointer none) ∧ W.cell? ⟨w.heap.size + 1, 1, none⟩ = some (.pointer (some ⟨w.heap.size, 0, none⟩)) from by
    have h1 := (hb.block w.heap.size (by omega)).trans hbox
    have h2 := (hb.block (w.heap.size + 1) (by omega)).trans hrow
    exact ⟨.inl rfl, .inr ⟨_, rfl, h1⟩, by rw [cell_of_row _ _ _ _ _ (0, 0) h2]; rfl, by rw [cell_of_row _ _ _ _ _ (0, 0) h2]; rfl⟩)
  have HH := Lib.hid (fun w' => head_any w')
  have HNX := Lib.hid (fun w' w'' (hb' : Below w'.heap.size w' w'') (hb : Below W2.heap.size W2 w') => hb.trans (hb'.mono hb.size))
  have hs' : s.size ≤ 140737488355328 := by omega
  have HS := Lib.hid hs'
  clear hW2 hb2 hbox hrow hs2 hs hs'
  go_enter Try.func3, Try.ntmps3
  go_wp2_with fail
  rw [← HW2.out]
  go_loopw [7] (fun i wr => ∃ j : Nat, j ≤ 2 ∧ i = .int .i64 j ∧ Below W2.heap.size W2 wr) (fun i _ => 2 - (intOf i).toNat)
  case atStart => exact ⟨0, by omega, rfl, Below.refl _ _⟩
  case round =>
    rename World => wr
    obtain ⟨j, hj, rfl, hbr⟩ := hrel
    have hj3 : j = 0 ∨ j = 1 ∨ j = 2 := by omega
    obtain ⟨f1, f2, f3, f4⟩ := HFACT.out wr hbr
    have hbA : Below W2.heap.size W2 (wr.alloc (Obj.cells #[.int .i64 n] 3)) := hbr.alloc hbr.size _
    rcases hj3 with rfl | rfl | rfl
    case' inr.inr =>
      go_wp2_with (go_at_call 18; refine (HH.out _).mono ?_; rintro e w9 ⟨rfl, hb9⟩; have hb9' := HNX.out _ _ hb9 hbr)
      go_ret
      exact ⟨rfl, HB2.out.trans (hb9'.mono HB2.out.size)⟩
    case' inl =>
      have HX := Lib.hid (fun W (hb : Below W2.heap.size W2 W) => show DeadD W (.pointer none) from (HFACT.out W hb).1)
    case' inr.inl =>
      have HX := Lib.hid (fun W (hb : Below W2.heap.size W2 W) => show DeadD W (.pointer (some ⟨w.heap.size, 0, none⟩)) from (HFACT.out W hb).2.1)
    all_goals
      clear f1 f2
      go_wp2_with (first
        | (go_at_call 4; refine (fuse_dead (HX.out _ (by assumption)) _).mono ?_; rintro e w5 ⟨rfl, rfl⟩)
        | (go_at_call 5; refine (crash_dead (HX.out _ (by assumption))).mono ?_; rintro e w5 ⟨rfl, rfl⟩)
        | (go_at_call 6; refine (wake_dead (HX.out _ (by assumption)) _).mono ?_; rintro e w5 ⟨rfl, rfl⟩)
        | (go_at_call 7; refine (read_dead (HX.out _ (by assumption)) _).mono ?_; rintro e w5 ⟨rfl, rfl⟩)
        | (go_at_call 8; refine (safe_dead (HX.out _ (by assumption)) _).mono ?_; rintro e w5 ⟨rfl, rfl⟩)
        | (go_at_call 9; refine (append_dead (HX.out _ (by assumption)) _ _ HS.out).mono ?_; rintro e w5 ⟨rfl, hb5⟩; have hb5' := HNX.out _ _ hb5 (by assumption))
        | (go_at_call 10; refine (sync_dead (HX.out _ (by assumption)) _).mono ?_; rintro e w5 ⟨rfl, hb5⟩; have hb5' := HNX.out _ _ hb5 (by assumption))
        | (go_at_call 11; refine (cut_dead (HX.out _ (by assumption)) _ _).mono ?_; rintro e w5 ⟨rfl, hb5⟩; have hb5' := HNX.out _ _ hb5 (by assumption))
        | (go_at_call 12; refine (rename_dead (HX.out _ (by assumption)) _ _ HS.out HS.out).mono ?_; rintro e w5 ⟨rfl, hb5⟩; have hb5' := HNX.out _ _ hb5 (by assumption))
        | (go_at_call 13; refine (remove_dead (HX.out _ (by assumption)) _).mono ?_; rintro e w5 ⟨rfl, hb5⟩; have hb5' := HNX.out _ _ hb5 (by assumption))
        | (go_at_call 14; refine (down_dead (HX.out _ (by assumption))).mono ?_; rintro e w5 ⟨rfl, rfl⟩)
        | (go_at_call 15; refine (used_dead (HX.out _ (by assumption))).mono ?_; rintro e w5 ⟨rfl, rfl⟩)
        | (go_at_call 16; refine (list_dead (HX.out _ (by assumption))).mono ?_; rintro e w5 ⟨rfl, rfl⟩)
        | (go_at_call 17; refine (copy_dead (HX.out _ (by assumption))).mono ?_; rintro e w5 ⟨rfl, rfl⟩))
      go_roundw
      case rel => first | exact ⟨1, by omega, by go_num, by assumption⟩ | exact ⟨2, by omega, by go_num, by assumption⟩
      case measure => simp [intOf]

set_option maxRecDepth 100000 in
set_option maxHeartbeats 1000000 in
theorem dnone_walk_lifted (os : Os) (started : os.Started) (H : Type) (enc : TypeId × Value → H) :
    ReturnsInHanded {} Try.checked os 3 .any (Rows.diskNoneSpec.pre6 enc Try.prog Try.f3 Rows.diskNoneRow.domain false) (Rows.diskNoneSpec.post enc Try.prog Try.f3 false true false false) := by
  refine returnsInHanded_of_change_sized (C := Try.checked) own started (by kernel_rfl) Try.func3
    (ChangeSpec.witness6 (enc := enc) (C := Try.checked) false ⟨#[], #[.string ⟨#[]⟩, .int .i64 0], []⟩ 8 (by kernel_rfl) (by kernel_rfl) (by kernel_rfl) (by kernel_rfl)) ?_
  intro W base args ds gs before hval0 hW hcnd hsz0 _
  have hval : ∀ (j : Nat) t v, Try.f3.params[j]? = some t → args[j]? = some v → Value.okWide Try.prog W .any base t v := hval0
  have hsz : (DataW.weightsEach Try.prog (Try.f3.params.toList ++ Rows.diskNoneSpec.plain.varTypes Try.prog) (ds ++ gs)).all (· ≤ reachBytes) = true := hsz0
  have hW' := hW
  obtain ⟨p, q, hA0, hV, rfl, hfz, hnd⟩ := hW
  have hA : DataW.TrodAll enc Try.prog W 0 (fun _ => true) true Try.f3.params.toList args.toList ds p := hA0
  rw [Try.params3] at hA hval hsz
  obtain ⟨v0, vs0, d0, ds0, p0, q0, hargs, rfl, rfl, h0, r0⟩ := trodAll_cons hA
  obtain ⟨v1, vs1, d1, ds1, p1, q1, rfl, rfl, rfl, h1, r1⟩ := trodAll_cons r0
  obtain ⟨rfl, rfl, rfl⟩ := trodAll_nil r1
  obtain rfl : args = #[v0, v1] := by cases args; simp_all
  obtain ⟨rfl, rfl⟩ := trodVars_none hV
  have k0 := h0
  have lt0 : ∀ x ∈ p0, x.block < W.heap.size := by obtain ⟨m, hm⟩ := k0; exact DataW.trod_lt m _ _ _ hm
  have k1 := h1
  have lt1 : ∀ x ∈ p1, x.block < W.heap.size := by obtain ⟨m, hm⟩ := k1; exact DataW.trod_lt m _ _ _ hm
  obtain ⟨s0, rfl, rfl, rfl, _⟩ := open_string Try.underlying9 (hval 0 9 v0 rfl rfl) h0
  have zs0 := sized_string hsz (j := 0) (t := 9) rfl rfl
  have zt0 : s0.size ≤ 140737488351232 := by rw [← sb_length]; exact zs0
  obtain ⟨s1, rfl, rfl, rfl, ws1⟩ := open_int Try.underlying3 (hval 1 3 v1 rfl rfl) h1
  obtain ⟨s10, s11⟩ := i64_range ws1
  clear hA0 hval0
  refine (dnone_walk s0 s1 W zt0 s10 s11).mono fun e W' ⟨he, bel⟩ => ?_
  subst he
  exact ⟨_, rfl, _, _, _, [], _, [], hW', trodAll_mk1 (shut_bool Try.underlying4 _), (trodAll_cons_mk (Below.trod laidOut (by kernel_rfl) (of_decide_eq_true (by kernel_rfl)) k0 bel lt0) (trodAll_cons_mk (Below.trod laidOut (by kernel_rfl) (of_decide_eq_true (by kernel_rfl)) k1 bel lt1) trodAll_mk0)), rfl, bel.frame _, fun h => by cases h⟩

theorem diskNone_holds : Rows.DiskNoneSaid :=
  OpenClaim.holds_of_wide 3 Try.f3 rfl rfl rfl rfl rfl rfl rfl ⟨rfl, rfl, rfl, rfl, rfl⟩ rfl rfl rfl rfl rfl (by kernel_rfl) Try.func3 (by kernel_rfl)
    (of_decide_eq_true (by kernel_rfl)) (by unfold Func.isWrapper; first | (rw [if_pos (by decide +kernel)]; kernel_rfl) | (rw [if_neg (by decide +kernel)]; exact ⟨rfl, rfl⟩))
    (fun os started H enc _ => dnone_walk_lifted os started H enc)
#print axioms diskNone_holds
end Go.Proofs.Ytdgllcgaocnagaa
