/-
  A queue that is none, or that nobody made: what its calls answer.
  Conditions: none.
-/
import Derived.Test.YtgomlpmbmemkiaaQuX
namespace Go.Proofs.Ytgomlpmbmemkiaa
open Go.RowKit
set_option linter.unusedVariables false
set_option linter.unusedSimpArgs false
set_option maxRecDepth 100000

/-- A queue that is none, or that nobody made. -/
def DeadP (w : World) (d : Value) : Prop := d = .pointer none ∨ ∃ k, d = .pointer (some ⟨k, 0, none⟩) ∧ w.heap[k]? = some (.cells #[.int .u64 0, .int .i64 0, .int .u64 0, .slice none 0 0, .map none] 40 (0, 0))
theorem DeadP.below {w w' : World} {d : Value} (h : DeadP w d) (hb : Below w.heap.size w w') : DeadP w' d := by
  rcases h with rfl | ⟨k, rfl, h⟩
  · exact .inl rfl
  · exact .inr ⟨k, rfl, (hb.block k (Array.getElem?_eq_some_iff.1 h).1).trans h⟩
theorem nilmap_len (w : World) (ty : TypeId) : (Builtin.len_ #[38] ty #[.map none]).run Try.prog w = .ok (.int .i64 0) w := by
  simp [Builtin.len_, run_underlying Try.underlying38]
  rfl
section
variable {w w' : World} {d : Value}
theorem made_dead (h : DeadP w d) : Calls Try.prog 26 #[d] w fun e w' => e = .returned (.bool false) ∧ w' = w := by
  rcases h with rfl | ⟨k, rfl, hb⟩
  · go_enter Try.func26, Try.ntmps26
    go_wp2_with fail
    go_ret
    exact ⟨rfl, rfl⟩
  · have c4 : w.cell? ⟨k, 4, none⟩ = some (.map none) := by rw [cell_of_row _ _ _ _ _ (0, 0) hb]; rfl
    have hm := pmap_ne w none
    clear hb
    go_enter Try.func26, Try.ntmps26
    go_wp2_with fail
    go_ret
    exact ⟨rfl, rfl⟩
theorem ready_dead (h : DeadP w d) : Calls Try.prog 10 #[d] w fun e w' => e = .returned (.int .i64 0) ∧ w' = w := by
  rcases h with rfl | ⟨k, rfl, hb⟩
  · go_enter Try.func10, Try.ntmps10
    go_wp2_with fail
    go_ret
    exact ⟨rfl, rfl⟩
  · have c3 : w.cell? ⟨k, 3, none⟩ = some (.slice none 0 0) := by rw [cell_of_row _ _ _ _ _ (0, 0) hb]; rfl
    clear hb
    go_enter Try.func10, Try.ntmps10
    go_wp2_with fail
    go_ret
    exact ⟨rfl, rfl⟩
theorem kept_dead (h : DeadP w d) : Calls Try.prog 21 #[d] w fun e w' => e = .returned (.int .i64 0) ∧ w' = w := by
  rcases h with rfl | ⟨k, rfl, hb⟩
  · go_enter Try.func21, Try.ntmps21
    go_wp2_with fail
    go_ret
    exact ⟨rfl, rfl⟩
  · have c3 : w.cell? ⟨k, 1, none⟩ = some (.int .i64 0) := by rw [cell_of_row _ _ _ _ _ (0, 0) hb]; rfl
    clear hb
    go_enter Try.func21, Try.ntmps21
    go_wp2_with fail
    go_ret
    exact ⟨rfl, rfl⟩
theorem room_dead (h : DeadP w d) : Calls Try.prog 22 #[d] w fun e w' => e = .returned (.int .u64 0) ∧ Below w.heap.size w w' := by
  rcases h with rfl | ⟨k, rfl, hb⟩
  · go_enter Try.func22, Try.ntmps22
    go_wp2_with fail
    go_ret
    exact ⟨rfl, Below.refl _ _⟩
  · have c0 : w.cell? ⟨k, 0, none⟩ = some (.int .u64 0) := by rw [cell_of_row _ _ _ _ _ (0, 0) hb]; rfl
    have c1 : w.cell? ⟨k, 1, none⟩ = some (.int .i64 0) := by rw [cell_of_row _ _ _ _ _ (0, 0) hb]; rfl
    have c3 : w.cell? ⟨k, 3, none⟩ = some (.slice none 0 0) := by rw [cell_of_row _ _ _ _ _ (0, 0) hb]; rfl
    have c4 : w.cell? ⟨k, 4, none⟩ = some (.map none) := by rw [cell_of_row _ _ _ _ _ (0, 0) hb]; rfl
    have hlen := fun ty => nilmap_len w.drew ty
    have w0 : IntKind.u64.wrap 0 = 0 := by decide
    clear hb
    go_enter Try.func22, Try.ntmps22
    go_wp2_with fail
    go_region
    go_wp2_with fail
    go_region
    go_wp2_with fail
    go_ret
    exact ⟨rfl, below_drewN (Below.refl _ _) 2⟩
theorem refused_dead (h : DeadP w d) (id : Nat) : Calls Try.prog 23 #[d, .int .u64 id] w fun e w' => e = .returned (.int .i64 1) ∧ w' = w := by
  have HC := Lib.hid (made_dead h)
  clear h
  go_enter Try.func23, Try.ntmps23
  go_wp2_with (go_at_call 26; refine HC.out.mono ?_; rintro e w1 ⟨rfl, rfl⟩)
  go_ret
  exact ⟨rfl, rfl⟩
theorem put_dead (h : DeadP w d) (id : Nat) : Calls Try.prog 7 #[d, .int .u64 id] w fun e w' => e = .returned (.int .i64 1) ∧ w' = w := by
  have HC := Lib.hid (refused_dead h id)
  clear h
  go_enter Try.func7, Try.ntmps7
  go_wp2_with (go_at_call 23; refine HC.out.mono ?_; rintro e w1 ⟨rfl, rfl⟩)
  go_ret
  exact ⟨rfl, rfl⟩
theorem fill_dead (h : DeadP w d) (id : Nat) : Calls Try.prog 13 #[d, .int .u64 id] w fun e w' => e = .returned (.int .i64 1) ∧ w' = w := by
  have HC := Lib.hid (refused_dead h id)
  clear h
  go_enter Try.func13, Try.ntmps13
  go_wp2_with (go_at_call 23; refine HC.out.mono ?_; rintro e w1 ⟨rfl, rfl⟩)
  go_ret
  exact ⟨rfl, rfl⟩
theorem keep_dead (h : DeadP w d) (n : Int) : Calls Try.prog 11 #[d, .int .i64 n] w fun e w' => e = .returned (.int .i64 1) ∧ w' = w := by
  have HC := Lib.hid (made_dead h)
  clear h
  go_enter Try.func11, Try.ntmps11
  go_wp2_with (go_at_call 26; refine HC.out.mono ?_; rintro e w1 ⟨rfl, rfl⟩)
  go_ret
  exact ⟨rfl, rfl⟩
theorem give_dead (h : DeadP w d) (n : Int) : Calls Try.prog 12 #[d, .int .i64 n] w fun e w' => e = .returned (.int .i64 1) ∧ w' = w := by
  have HC := Lib.hid (made_dead h)
  clear h
  go_enter Try.func12, Try.ntmps12
  go_wp2_with (go_at_call 26; refine HC.out.mono ?_; rintro e w1 ⟨rfl, rfl⟩)
  go_ret
  exact ⟨rfl, rfl⟩
theorem hold_dead (h : DeadP w d) (a b : Nat) : Calls Try.prog 14 #[d, .int .u64 a, .int .u64 b] w fun e w' => e = .returned (.int .i64 1) ∧ w' = w := by
  have HC := Lib.hid (made_dead h)
  clear h
  go_enter Try.func14, Try.ntmps14
  go_wp2_with (go_at_call 26; refine HC.out.mono ?_; rintro e w1 ⟨rfl, rfl⟩)
  go_ret
  exact ⟨rfl, rfl⟩
theorem pass_dead (h : DeadP w d) (a b c : Nat) : Calls Try.prog 15 #[d, .int .u64 a, .int .u64 b, .int .u64 c] w fun e w' => e = .returned (.int .i64 1) ∧ w' = w := by
  have HC := Lib.hid (made_dead h)
  clear h
  go_enter Try.func15, Try.ntmps15
  go_wp2_with (go_at_call 26; refine HC.out.mono ?_; rintro e w1 ⟨rfl, rfl⟩)
  go_ret
  exact ⟨rfl, rfl⟩
theorem next_dead (h : DeadP w d) (a : Nat) : Calls Try.prog 8 #[d, .int .u64 a] w fun e w' => e = .returned (.tuple #[.int .u64 0, .bool false]) ∧ w' = w := by
  have HC := Lib.hid (ready_dead h)
  clear h
  go_enter Try.func8, Try.ntmps8
  go_wp2_with (go_at_call 10; refine HC.out.mono ?_; rintro e w1 ⟨rfl, rfl⟩)
  go_ret2
  exact ⟨rfl, rfl⟩
theorem purge_dead (h : DeadP w d) : Calls Try.prog 18 #[d] w fun e w' => e = .returned (.slice none 0 0) ∧ w' = w := by
  have HC := Lib.hid (ready_dead h)
  clear h
  go_enter Try.func18, Try.ntmps18
  go_wp2_with (go_at_call 10; refine HC.out.mono ?_; rintro e w1 ⟨rfl, rfl⟩)
  go_ret
  exact ⟨rfl, rfl⟩
theorem owner_dead (h : DeadP w d) (a : Nat) : Calls Try.prog 9 #[d, .int .u64 a] w fun e w' => e = .returned (.tuple #[.int .u64 0, .int .i64 1]) ∧ w' = w := by
  have HC := Lib.hid (made_dead h)
  clear h
  go_enter Try.func9, Try.ntmps9
  go_wp2_with (go_at_call 26; refine HC.out.mono ?_; rintro e w1 ⟨rfl, rfl⟩)
  go_ret2
  exact ⟨rfl, rfl⟩
theorem lacks_dead (h : DeadP w d) (a : Nat) (f : Value) : Calls Try.prog 28 #[d, .int .u64 a, f] w fun e w' => e = .returned (.int .i64 1) ∧ w' = w := by
  have HC := Lib.hid (owner_dead h a)
  clear h
  go_enter Try.func28, Try.ntmps28
  go_wp2_with (go_at_call 9; refine HC.out.mono ?_; rintro e w1 ⟨rfl, rfl⟩)
  go_ret
  exact ⟨rfl, rfl⟩
theorem drop_dead (h : DeadP w d) (a b : Nat) : Calls Try.prog 17 #[d, .int .u64 a, .int .u64 b] w fun e w' => e = .returned (.int .i64 1) ∧ Below w.heap.size w w' := by
  have hbA : Below w.heap.size w (w.alloc (.cells #[.int .u64 b] 27)) := (Below.refl _ _).alloc (Nat.le_refl _) _
  have HL := Lib.hid (fun f => lacks_dead (h.below hbA) a f)
  have HB := Lib.hid hbA
  have HH := Lib.hid (pheld_any b w)
  clear h hbA
  go_enter Try.func17, Try.ntmps17
  go_wp2_with fail
  refine HH.out.mono ?_
  rintro e w1 ⟨rfl, rfl⟩
  go_wp2_with fail
  refine (HL.out _).mono ?_
  rintro e w2 ⟨rfl, rfl⟩
  go_wp2_with fail
  go_ret
  exact ⟨rfl, HB.out⟩
theorem free_dead (h : DeadP w d) (a b : Nat) : Calls Try.prog 16 #[d, .int .u64 a, .int .u64 b] w fun e w' => e = .returned (.int .i64 1) ∧ Below w.heap.size w w' := by
  have HL := Lib.hid (drop_dead h a b)
  clear h
  go_enter Try.func16, Try.ntmps16
  go_wp2_with fail
  refine HL.out.mono ?_
  rintro e w2 ⟨rfl, hb⟩
  go_wp2_with fail
  go_ret
  exact ⟨rfl, hb⟩
end
/-- An empty row is sorted at once. -/
theorem insertion_none (w : World) : Calls Try.prog 43 #[.slice none 0 0, .int .i64 0, .int .i64 0] w fun e w' => e = .returned (.tuple #[]) ∧ w' = w := by
  go_enter Try.func43, Try.ntmps43
  go_wp2_with fail
  go_loopw [6] (fun i wr => i = .int .i64 1 ∧ wr = w) (fun _ _ => 0)
  case atStart => exact ⟨rfl, rfl⟩
  case round =>
    obtain ⟨rfl, rfl⟩ := hrel
    go_wp2_with fail
    first | go_end0 | refine bodyPost_ret (results_none rfl _ _ _) rfl ?_
    exact ⟨rfl, rfl⟩
theorem len64_none (w : World) : Calls Try.prog 53 #[.int .u64 0] w fun e w' => e = .returned (.int .i64 0) ∧ w' = w := by
  go_enter Try.func53, Try.ntmps53
  go_wp2_with fail
  go_ret
  exact ⟨congrArg Ending.returned (congrArg (Value.int .i64) (by kernel_rfl)), rfl⟩
theorem len_none (w : World) : Calls Try.prog 41 #[.int .u64 0] w fun e w' => e = .returned (.int .i64 0) ∧ w' = w := by
  have HL := Lib.hid (len64_none w)
  go_enter Try.func41, Try.ntmps41
  go_wp2_with (refine HL.out.mono ?_; rintro e w2 ⟨rfl, rfl⟩)
  go_ret
  exact ⟨rfl, rfl⟩
theorem pdq_none (w : World) : Calls Try.prog 40 #[.slice none 0 0, .int .i64 0, .int .i64 0, .int .i64 0] w fun e w' => e = .returned (.tuple #[]) ∧ w' = w := by
  have HI := Lib.hid (insertion_none w)
  go_enter Try.func40, Try.ntmps40
  go_wp2_with fail
  go_loopw [1, 2, 3, 8, 9] (fun a b l x y wr => a = .int .i64 0 ∧ b = .int .i64 0 ∧ l = .int .i64 0 ∧ x = .bool true ∧ y = .bool true ∧ wr = w) (fun _ _ _ _ _ _ => 0)
  case atStart => exact ⟨rfl, rfl, rfl, rfl, rfl, rfl⟩
  case round =>
    obtain ⟨rfl, rfl, rfl, rfl, rfl, rfl⟩ := hrel
    go_wp2_with (refine HI.out.mono ?_; rintro e w2 ⟨rfl, rfl⟩)
    first | go_end0 | refine bodyPost_ret (results_none rfl _ _ _) rfl ?_
    exact ⟨rfl, rfl⟩
theorem sort_none (w : World) : Calls Try.prog 34 #[.slice none 0 0] w fun e w' => e = .returned (.tuple #[]) ∧ w' = w := by
  have HL := Lib.hid (len_none w)
  have HP := Lib.hid (pdq_none w)
  go_enter Try.func34, Try.ntmps34
  go_wp2_with (first | (refine HL.out.mono ?_; rintro e w2 ⟨rfl, rfl⟩) | (refine HP.out.mono ?_; rintro e w2 ⟨rfl, rfl⟩))
  first | go_end0 | refine bodyPost_ret (results_none rfl _ _ _) rfl ?_
  exact ⟨rfl, rfl⟩
theorem nilmap_range (w : World) : (Instr.range 38 (.map none)).run Try.prog w = .ok (.pointer (some ⟨w.heap.size, 0, none⟩)) (w.alloc (.mapIter none 0 #[] 0)) := by
  simp [Instr.range, run_underlying Try.underlying38, Result.andThen]
theorem nilmap_next (w : World) (r : Nat) (h : w.heap[r]? = some (.mapIter none 0 #[] 0)) (ty : TypeId) : (Instr.next (.pointer (some ⟨r, 0, none⟩)) false ty).run Try.prog w = .ok (.tuple #[.bool false]) w := by
  have hg : (getObj r).run Try.prog w = .ok (.mapIter none 0 #[] 0) w := by simp [getObj, Sem.run, h]
  simp [Instr.next, hg, Result.andThen]
theorem held_dead (d : Value) (f : Value) (w : World) (h : DeadP w d) : Calls Try.prog 32 #[d, f] w fun e w' => e = .returned (.slice none 0 0) ∧ Below w.heap.size w w' := by
  rcases h with rfl | ⟨k, rfl, hb⟩
  · go_enter Try.func32, Try.ntmps32
    go_wp2_with fail
    go_ret
    exact ⟨rfl, Below.refl _ _⟩
  · have c4 : w.cell? ⟨k, 4, none⟩ = some (.map none) := by rw [cell_of_row _ _ _ _ _ (0, 0) hb]; rfl
    have hr := nilmap_range w
    have hn := fun ty => nilmap_next (w.alloc (.mapIter none 0 #[] 0)) w.heap.size (heap_alloc_new w _) ty
    have HS := Lib.hid (sort_none (w.alloc (.mapIter none 0 #[] 0)))
    clear hb
    go_enter Try.func32, Try.ntmps32
    go_wp2_with fail
    go_loopw [5] (fun v wr => v = .slice none 0 0 ∧ wr = w.alloc (.mapIter none 0 #[] 0)) (fun _ _ => 0)
    case atStart => exact ⟨rfl, rfl⟩
    case round =>
      obtain ⟨rfl, rfl⟩ := hrel
      go_wp2_with (refine HS.out.mono ?_; rintro e w2 ⟨rfl, rfl⟩)
      go_ret
      exact ⟨rfl, (Below.refl _ _).alloc (Nat.le_refl _) _⟩
theorem of_dead {w : World} {d : Value} (h : DeadP w d) (a : Nat) : Calls Try.prog 19 #[d, .int .u64 a] w fun e w' => e = .returned (.slice none 0 0) ∧ Below w.heap.size w w' := by
  have hbA : Below w.heap.size w (w.alloc (.cells #[.int .u64 a] 27)) := (Below.refl _ _).alloc (Nat.le_refl _) _
  have HL := Lib.hid (fun f => (held_dead d f _ (h.below hbA)).mono fun e w' hx => (show e = .returned (.slice none 0 0) ∧ Below w.heap.size w w' from ⟨hx.1, hbA.trans (hx.2.mono hbA.size)⟩))
  have HH := Lib.hid (pheld_any a w)
  clear h hbA
  go_enter Try.func19, Try.ntmps19
  go_wp2_with fail
  refine HH.out.mono ?_
  rintro e w1 ⟨rfl, rfl⟩
  go_wp2_with fail
  refine (HL.out _).mono ?_
  rintro e w2 ⟨rfl, hb⟩
  go_wp2_with fail
  go_ret
  exact ⟨rfl, hb⟩
theorem all_dead {w : World} {d : Value} (h : DeadP w d) : Calls Try.prog 20 #[d] w fun e w' => e = .returned (.slice none 0 0) ∧ Below w.heap.size w w' := by
  have HL := Lib.hid (fun f => held_dead d f _ h)
  have HS := Lib.hid (fun w' => sort_none w')
  have HN := Lib.hid (fun ty w' => show (Builtin.append_ #[28, 28] ty #[.slice none 0 0, .slice none 0 0]).run Try.prog w' = .ok (.slice none 0 0) w' from by
    obtain ⟨i, hi, hz, hs, hb⟩ := info_parts infoN
    simp [Builtin.append_, run_underlying Try.underlying28, sizeOf, typeInfo, hi, hs, Builtin.lenOf, Builtin.firstCells])
  rcases h with rfl | ⟨k, rfl, hb⟩
  · go_enter Try.func20, Try.ntmps20
    go_wp2_with fail
    refine (HL.out _).mono ?_
    rintro e w2 ⟨rfl, hb⟩
    go_wp2_with fail
    go_ret
    exact ⟨rfl, hb⟩
  · have HC := Lib.hid (fun w' (hbw : Below w.heap.size w w') => show w'.cell? ⟨k, 3, none⟩ = some (.slice none 0 0) from by rw [cell_of_row _ _ _ _ _ (0, 0) ((hbw.block k (Array.getElem?_eq_some_iff.1 hb).1).trans hb)]; rfl)
    clear hb
    go_enter Try.func20, Try.ntmps20
    go_wp2_with fail
    refine (HL.out _).mono ?_
    rintro e w2 ⟨rfl, hb⟩
    have c3 := HC.out _ hb
    go_wp2_with (first
      | (at_builtin; refine Lib.wpList_append_run _ rfl (.tmp 8) (.tmp 12) 28 28 rfl _ _ rfl rfl _ _ (HN.out _ _) ?_)
      | (refine (HS.out _).mono ?_; rintro e w5 ⟨rfl, rfl⟩))
    go_ret
    exact ⟨rfl, hb⟩

end Go.Proofs.Ytgomlpmbmemkiaa
