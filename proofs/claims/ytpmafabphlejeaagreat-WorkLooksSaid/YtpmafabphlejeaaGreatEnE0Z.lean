/-
  Texts, together: EnE0, EnE1, EnE2, EnE3, EnE.
  Conditions: none but sizes.
-/
import Derived.Test.YtpmafabphlejeaaGreatEnBZ
import Derived.Test.YtpmafabphlejeaaGreatXiAZ
/-
  What entry.Check asks, test by test.
  Conditions: none but sizes.
-/
namespace Go.Proofs.YtpmafabphlejeaaGreat
open Go.RowKit
set_option linter.unusedVariables false
set_option linter.unusedSimpArgs false
set_option maxRecDepth 100000

open Classical in
noncomputable def mayXB (g h : ByteArray) : Bool := decide (mayX g h)
noncomputable def errX (g h : ByteArray) : Nat := if mayXB g h = true then 0 else 40
theorem xcheck_any (f : Nat) (g h : ByteArray) (w : World) (hg : g.size ≤ 140737488355328) (hh : h.size ≤ 140737488355328) :
    Calls Tryz.prog 48 #[xidV f g h] w fun e w' => e = .returned (.int .i64 (errX g h)) ∧ Below w.heap.size w w' := by
  unfold errX mayXB
  by_cases hm : mayX g h
  · rw [if_pos (decide_eq_true hm)]; exact x_check_ok f g h w hm
  · rw [if_neg (by simp [hm])]; exact check_no f g h w hm hg hh
/-- The four tests of an entry. -/
def tstName (e : EntE) : Bool := rightD (uName e.k) e.name.toList.isEmpty (qnOK e.name)
def tstNum (e : EntE) : Bool := rightD (uNum e.k) (decide (e.n = 0)) (msgOK e.n)
noncomputable def tstX (e : EntE) : Bool := rightD (uX e.k) (decide ((e.xf, e.xg, e.xh) = (0, ⟨#[]⟩, ⟨#[]⟩))) (mayXB e.xg e.xh)
noncomputable def tstWork (e : EntE) : Bool := rightD (uWork e.k) (decide (e.puts.length + e.takes.length = 0)) (wrkB e)
theorem nil_list (s : ByteArray) : s.toList.isEmpty = true ↔ s = ⟨#[]⟩ := by
  rw [sb_toList]
  constructor
  · intro h
    have h2 : sb s = [] := by simpa using h
    exact empty_size (by have := congrArg List.length h2; rw [sb_length] at this; exact Nat.le_of_eq this)
  · rintro rfl; rfl
theorem tests_eq (e : EntE) : validE e ↔ (kindOK e.k = true ∧ tstName e = true ∧ tstNum e = true ∧ tstX e = true ∧ tstWork e = true) := by
  unfold validE
  refine and_congr Iff.rfl (and_congr ?_ (and_congr ?_ (and_congr ?_ ?_)))
  · unfold nameIs tstName rightD
    split
    · exact Iff.rfl
    · exact (nil_list _).symm
  · unfold numIs tstNum rightD
    split
    · exact Iff.rfl
    · simp
  · unfold xidIs tstX rightD mayXB
    split
    · simp
    · rw [decide_eq_true_eq, Prod.mk.injEq, Prod.mk.injEq]
  · unfold workIs tstWork rightD wrkB
    split
    · simp
    · rw [decide_eq_true_eq]
      constructor
      · rintro ⟨h1, h2⟩; rw [h1, h2]; rfl
      · intro h
        exact ⟨List.eq_nil_of_length_eq_zero (by omega), List.eq_nil_of_length_eq_zero (by omega)⟩

end Go.Proofs.YtpmafabphlejeaaGreat
/-
  entry.Check, where the kind, the name or the number is not right.
  Conditions: none but sizes.
-/
namespace Go.Proofs.YtpmafabphlejeaaGreat
open Go.RowKit
set_option linter.unusedVariables false
set_option linter.unusedSimpArgs false
set_option maxRecDepth 100000

set_option maxHeartbeats 8000000 in
theorem echeck_1 (x : EntC) (w : World) (h : ShowsE w x) (hc : Few x.cs) (hq : kindOK x.k = false ∨ tstName x.e = false ∨ tstNum x.e = false) :
    Calls Tryz.prog 31 #[entV x] w fun e w' => e = .returned (.int .i64 (errE x.e)) ∧ Below w.heap.size w w' := by
  have hok : (kindOK x.k = true ∧ tstName x.e = true ∧ tstNum x.e = true ∧ tstX x.e = true ∧ tstWork x.e = true) → errE x.e = 0 := fun ht => errE_ok ((tests_eq x.e).2 ht)
  have hno : ¬ (kindOK x.k = true ∧ tstName x.e = true ∧ tstNum x.e = true ∧ tstX x.e = true ∧ tstWork x.e = true) → errE x.e = 130 := fun ht => errE_no (fun hv => ht ((tests_eq x.e).1 hv))
  have HF := Lib.hid (fun w' => fields_any x.k w')
  have HN := Lib.hid (fun w' => has_name x.k w')
  have HU := Lib.hid (fun w' => has_num x.k w')
  have HX := Lib.hid (fun w' => has_x x.k w')
  have HW := Lib.hid (fun w' => has_work x.k w')
  have HQ := Lib.hid (fun w' => qname_any x.name w' (by have := h.name; omega))
  have HM := Lib.hid (fun w' => isMsg_any x.n w')
  have HC := Lib.hid (fun w' => xcheck_any x.xf x.xg x.xh w' (by have := h.xg; omega) (by have := h.xh; omega))
  have HWK := Lib.hid (fun w' (hb : Below w.heap.size w w') => isWork_any x w' (h.kept hb (Nat.le_refl _)) hc)
  have HR1 := Lib.hid (fun w' => right_any (uName x.k) x.name.toList.isEmpty (qnOK x.name) w')
  have HR2 := Lib.hid (fun w' => right_any (uNum x.k) (decide (x.n = 0)) (msgOK x.n) w')
  have HR3 := Lib.hid (fun w' => right_any (uX x.k) (decide ((x.xf, x.xg, x.xh) = (0, ⟨#[]⟩, ⟨#[]⟩))) (mayXB x.xg x.xh) w')
  have HR4 := Lib.hid (fun w' => right_any (uWork x.k) (decide (x.cs.length + x.rs.length = 0)) (wrkB x.e) w')
  have hk := (flD_bits x.k).2.2.2.2
  have hkn : ((flD x.k : Int) != 0) = kindOK x.k := by
    rw [← hk, Bool.eq_iff_iff]; simp
  have d1 : tstName x.e = rightD (uName x.k) x.name.toList.isEmpty (qnOK x.name) := rfl
  have d2 : tstNum x.e = rightD (uNum x.k) (decide (x.n = 0)) (msgOK x.n) := rfl
  have d3 : tstX x.e = rightD (uX x.k) (decide ((x.xf, x.xg, x.xh) = (0, ⟨#[]⟩, ⟨#[]⟩))) (mayXB x.xg x.xh) := rfl
  have d4 : tstWork x.e = rightD (uWork x.k) (decide (x.cs.length + x.rs.length = 0)) (wrkB x.e) := by
    unfold tstWork
    show rightD (uWork x.k) (decide ((esOf x.cs).length + x.rs.length = 0)) (wrkB x.e) = _
    rw [esOf_len]
  rw [← d1] at HR1
  rw [← d2] at HR2
  rw [← d3] at HR3
  rw [← d4] at HR4
  have t1 : ((x.n : Int) == 0) = decide (x.n = 0) := by rw [Bool.eq_iff_iff]; simp
  have hG := xidGuard
  have hEq := fun w => run_eq_xid0 x.xf x.xg x.xh w
  have t3 : ((x.cs.length : Int) + (x.rs.length : Int) == 0) = decide (x.cs.length + x.rs.length = 0) := by rw [Bool.eq_iff_iff]; simp only [beq_iff_eq, decide_eq_true_eq]; omega
  have t4 : IntKind.i64.wrap ((x.cs.length : Int) + (x.rs.length : Int)) = (x.cs.length : Int) + (x.rs.length : Int) := i64_id _ (by omega) (by have := h.puts.lm; have := h.takes.lm; omega)
  have hE : ((errX x.xg x.xh : Int) == 0) = mayXB x.xg x.xh := by
    unfold errX
    cases mayXB x.xg x.xh <;> rfl
  generalize errX x.xg x.xh = EX at *
  generalize errE x.e = E at *
  generalize tstName x.e = g1 at *
  generalize tstNum x.e = g2 at *
  generalize tstX x.e = g3 at *
  generalize tstWork x.e = g4 at *
  generalize wrkB x.e = wb at *
  generalize decide (x.cs.length + x.rs.length = 0) = z4 at *
  generalize decide (x.n = 0) = z2 at *
  generalize decide ((x.xf, x.xg, x.xh) = (0, ⟨#[]⟩, ⟨#[]⟩)) = z3 at *
  obtain ⟨k, name, n, xf, xg, xh, A1, c1, cs, A2, c2, rs⟩ := x
  unfold entV at HWK ⊢
  unfold xidV at HC
  simp only [] at *
  have hB := below_boxV w (Obj.cells #[.int .u8 k, .string name, .int .u64 n, .int .u32 xf, .string xg, .string xh, .slice A1 cs.length c1, .slice A2 rs.length c2] 57)
  have hBX := BoxE.new (x := ⟨k, name, n, xf, xg, xh, A1, c1, cs, A2, c2, rs⟩) w
  obtain ⟨⟨e0, e1, e2⟩, ⟨e3, e4, e5⟩, e6, e7⟩ := hBX.cells
  simp only [] at e0 e1 e2 e3 e4 e5 e6 e7
  have HB := Lib.hid hB
  have HBX := Lib.hid hBX
  have HOK := Lib.hid hok
  have HKEEP := Lib.hid (show ∀ w', Below (w.alloc (Obj.cells #[.int .u8 k, .string name, .int .u64 n, .int .u32 xf, .string xg, .string xh, .slice A1 cs.length c1, .slice A2 rs.length c2] 57)).heap.size (w.alloc (Obj.cells #[.int .u8 k, .string name, .int .u64 n, .int .u32 xf, .string xg, .string xh, .slice A1 cs.length c1, .slice A2 rs.length c2] 57)) w' → w'.cell? ⟨w.heap.size, 0, none⟩ = some (.int .u8 k) ∧ w'.cell? ⟨w.heap.size, 1, none⟩ = some (.string name) ∧ w'.cell? ⟨w.heap.size, 2, none⟩ = some (.int .u64 n) ∧ w'.cell? ⟨w.heap.size, 3, none⟩ = some (.int .u32 xf) ∧ w'.cell? ⟨w.heap.size, 4, none⟩ = some (.string xg) ∧ w'.cell? ⟨w.heap.size, 5, none⟩ = some (.string xh) ∧ w'.cell? ⟨w.heap.size, 6, none⟩ = some (.slice A1 cs.length c1) ∧ w'.cell? ⟨w.heap.size, 7, none⟩ = some (.slice A2 rs.length c2) from fun w' hb' => by
    obtain ⟨⟨e0, e1, e2⟩, ⟨e3, e4, e5⟩, e6, e7⟩ := (hBX.kept hb' (Nat.le_refl _)).cells
    exact ⟨e0, e1, e2, e3, e4, e5, e6, e7⟩)
  have HNO := Lib.hid hno
  clear hok hno d1 d2 d3 d4 hk h hc hB hBX
  generalize uName k = u1 at *
  generalize uNum k = u2 at *
  generalize uX k = u3 at *
  generalize uWork k = u4 at *
  generalize kindOK k = kb at *
  generalize flD k = F at *
  generalize qnOK name = q1 at *
  generalize msgOK n = q2 at *
  generalize mayXB xg xh = q3 at *
  cases kb with
  | false =>
    obtain rfl : E = 130 := HNO.out (fun c => by cases c.1)
    go_enter Tryz.func31, Tryz.ntmps31
    go_wp2_with fail
    refine (HF.out _).mono ?_
    rintro e w1 ⟨rfl, rfl⟩
    go_wp2_with fail
    go_quiet (fail)
    go_wp2_with fail
    go_ret
    exact ⟨rfl, below_drewN HB.out _⟩
  | true =>
  cases g1 with
  | false =>
    obtain rfl : E = 130 := HNO.out (fun c => by cases c.2.1)
    go_enter Tryz.func31, Tryz.ntmps31
    go_wp2_with fail
    refine (HF.out _).mono ?_
    rintro e w1 ⟨rfl, rfl⟩
    go_wp2_with fail
    go_quiet (first | (go_at_call 55; first | with_reducible exact Calls.quiet_of_same (HN.out _) | with_reducible exact Calls.quiet_of_same (HU.out _) | with_reducible exact Calls.quiet_of_same (HX.out _) | with_reducible exact Calls.quiet_of_same (HW.out _)) | (go_at_call 54; first | with_reducible exact Calls.quiet_of_same (HR1.out _) | with_reducible exact Calls.quiet_of_same (HR2.out _)) | (go_at_call 56; with_reducible exact Calls.quiet_of_same (HQ.out _)) | (go_at_call 57; with_reducible exact Calls.quiet_of_same (HM.out _)))
    go_wp2_with fail
    go_ret
    exact ⟨rfl, below_drewN HB.out _⟩
  | true =>
  cases g2 with
  | false =>
    obtain rfl : E = 130 := HNO.out (fun c => by cases c.2.2.1)
    go_enter Tryz.func31, Tryz.ntmps31
    go_wp2_with fail
    refine (HF.out _).mono ?_
    rintro e w1 ⟨rfl, rfl⟩
    go_wp2_with fail
    go_quiet (first | (go_at_call 55; first | with_reducible exact Calls.quiet_of_same (HN.out _) | with_reducible exact Calls.quiet_of_same (HU.out _) | with_reducible exact Calls.quiet_of_same (HX.out _) | with_reducible exact Calls.quiet_of_same (HW.out _)) | (go_at_call 54; first | with_reducible exact Calls.quiet_of_same (HR1.out _) | with_reducible exact Calls.quiet_of_same (HR2.out _)) | (go_at_call 56; with_reducible exact Calls.quiet_of_same (HQ.out _)) | (go_at_call 57; with_reducible exact Calls.quiet_of_same (HM.out _)))
    go_wp2_with fail
    go_ret
    exact ⟨rfl, below_drewN HB.out _⟩
  | true =>
  rcases hq with h | h | h <;> cases h

end Go.Proofs.YtpmafabphlejeaaGreat
/-
  entry.Check, where all but the work is right.
  Conditions: none but sizes.
-/
namespace Go.Proofs.YtpmafabphlejeaaGreat
open Go.RowKit
set_option linter.unusedVariables false
set_option linter.unusedSimpArgs false
set_option maxRecDepth 100000

set_option maxHeartbeats 8000000 in
theorem echeck_2 (x : EntC) (w : World) (h : ShowsE w x) (hc : Few x.cs) (hk1 : kindOK x.k = true) (hn1 : tstName x.e = true) (hn2 : tstNum x.e = true) (hx1 : tstX x.e = true) :
    Calls Tryz.prog 31 #[entV x] w fun e w' => e = .returned (.int .i64 (errE x.e)) ∧ Below w.heap.size w w' := by
  have hok : (kindOK x.k = true ∧ tstName x.e = true ∧ tstNum x.e = true ∧ tstX x.e = true ∧ tstWork x.e = true) → errE x.e = 0 := fun ht => errE_ok ((tests_eq x.e).2 ht)
  have hno : ¬ (kindOK x.k = true ∧ tstName x.e = true ∧ tstNum x.e = true ∧ tstX x.e = true ∧ tstWork x.e = true) → errE x.e = 130 := fun ht => errE_no (fun hv => ht ((tests_eq x.e).1 hv))
  have HF := Lib.hid (fun w' => fields_any x.k w')
  have HN := Lib.hid (fun w' => has_name x.k w')
  have HU := Lib.hid (fun w' => has_num x.k w')
  have HX := Lib.hid (fun w' => has_x x.k w')
  have HW := Lib.hid (fun w' => has_work x.k w')
  have HQ := Lib.hid (fun w' => qname_any x.name w' (by have := h.name; omega))
  have HM := Lib.hid (fun w' => isMsg_any x.n w')
  have HC := Lib.hid (fun w' => xcheck_any x.xf x.xg x.xh w' (by have := h.xg; omega) (by have := h.xh; omega))
  have HWK := Lib.hid (fun w' (hb : Below w.heap.size w w') => isWork_any x w' (h.kept hb (Nat.le_refl _)) hc)
  have HR1 := Lib.hid (fun w' => right_any (uName x.k) x.name.toList.isEmpty (qnOK x.name) w')
  have HR2 := Lib.hid (fun w' => right_any (uNum x.k) (decide (x.n = 0)) (msgOK x.n) w')
  have HR3 := Lib.hid (fun w' => right_any (uX x.k) (decide ((x.xf, x.xg, x.xh) = (0, ⟨#[]⟩, ⟨#[]⟩))) (mayXB x.xg x.xh) w')
  have HR4 := Lib.hid (fun w' => right_any (uWork x.k) (decide (x.cs.length + x.rs.length = 0)) (wrkB x.e) w')
  have hk := (flD_bits x.k).2.2.2.2
  have hkn : ((flD x.k : Int) != 0) = kindOK x.k := by
    rw [← hk, Bool.eq_iff_iff]; simp
  have d1 : tstName x.e = rightD (uName x.k) x.name.toList.isEmpty (qnOK x.name) := rfl
  have d2 : tstNum x.e = rightD (uNum x.k) (decide (x.n = 0)) (msgOK x.n) := rfl
  have d3 : tstX x.e = rightD (uX x.k) (decide ((x.xf, x.xg, x.xh) = (0, ⟨#[]⟩, ⟨#[]⟩))) (mayXB x.xg x.xh) := rfl
  have d4 : tstWork x.e = rightD (uWork x.k) (decide (x.cs.length + x.rs.length = 0)) (wrkB x.e) := by
    unfold tstWork
    show rightD (uWork x.k) (decide ((esOf x.cs).length + x.rs.length = 0)) (wrkB x.e) = _
    rw [esOf_len]
  rw [← d1] at HR1
  rw [← d2] at HR2
  rw [← d3] at HR3
  rw [← d4] at HR4
  have t1 : ((x.n : Int) == 0) = decide (x.n = 0) := by rw [Bool.eq_iff_iff]; simp
  have hG := xidGuard
  have hEq := fun w => run_eq_xid0 x.xf x.xg x.xh w
  have t3 : ((x.cs.length : Int) + (x.rs.length : Int) == 0) = decide (x.cs.length + x.rs.length = 0) := by rw [Bool.eq_iff_iff]; simp only [beq_iff_eq, decide_eq_true_eq]; omega
  have t4 : IntKind.i64.wrap ((x.cs.length : Int) + (x.rs.length : Int)) = (x.cs.length : Int) + (x.rs.length : Int) := i64_id _ (by omega) (by have := h.puts.lm; have := h.takes.lm; omega)
  have hE : ((errX x.xg x.xh : Int) == 0) = mayXB x.xg x.xh := by
    unfold errX
    cases mayXB x.xg x.xh <;> rfl
  generalize errX x.xg x.xh = EX at *
  generalize errE x.e = E at *
  generalize tstName x.e = g1 at *
  generalize tstNum x.e = g2 at *
  generalize tstX x.e = g3 at *
  generalize tstWork x.e = g4 at *
  generalize wrkB x.e = wb at *
  generalize decide (x.cs.length + x.rs.length = 0) = z4 at *
  generalize decide (x.n = 0) = z2 at *
  generalize decide ((x.xf, x.xg, x.xh) = (0, ⟨#[]⟩, ⟨#[]⟩)) = z3 at *
  obtain ⟨k, name, n, xf, xg, xh, A1, c1, cs, A2, c2, rs⟩ := x
  unfold entV at HWK ⊢
  unfold xidV at HC
  simp only [] at *
  have hB := below_boxV w (Obj.cells #[.int .u8 k, .string name, .int .u64 n, .int .u32 xf, .string xg, .string xh, .slice A1 cs.length c1, .slice A2 rs.length c2] 57)
  have hBX := BoxE.new (x := ⟨k, name, n, xf, xg, xh, A1, c1, cs, A2, c2, rs⟩) w
  obtain ⟨⟨e0, e1, e2⟩, ⟨e3, e4, e5⟩, e6, e7⟩ := hBX.cells
  simp only [] at e0 e1 e2 e3 e4 e5 e6 e7
  have HB := Lib.hid hB
  have HBX := Lib.hid hBX
  have HOK := Lib.hid hok
  have HKEEP := Lib.hid (show ∀ w', Below (w.alloc (Obj.cells #[.int .u8 k, .string name, .int .u64 n, .int .u32 xf, .string xg, .string xh, .slice A1 cs.length c1, .slice A2 rs.length c2] 57)).heap.size (w.alloc (Obj.cells #[.int .u8 k, .string name, .int .u64 n, .int .u32 xf, .string xg, .string xh, .slice A1 cs.length c1, .slice A2 rs.length c2] 57)) w' → w'.cell? ⟨w.heap.size, 0, none⟩ = some (.int .u8 k) ∧ w'.cell? ⟨w.heap.size, 1, none⟩ = some (.string name) ∧ w'.cell? ⟨w.heap.size, 2, none⟩ = some (.int .u64 n) ∧ w'.cell? ⟨w.heap.size, 3, none⟩ = some (.int .u32 xf) ∧ w'.cell? ⟨w.heap.size, 4, none⟩ = some (.string xg) ∧ w'.cell? ⟨w.heap.size, 5, none⟩ = some (.string xh) ∧ w'.cell? ⟨w.heap.size, 6, none⟩ = some (.slice A1 cs.length c1) ∧ w'.cell? ⟨w.heap.size, 7, none⟩ = some (.slice A2 rs.length c2) from fun w' hb' => by
    obtain ⟨⟨e0, e1, e2⟩, ⟨e3, e4, e5⟩, e6, e7⟩ := (hBX.kept hb' (Nat.le_refl _)).cells
    exact ⟨e0, e1, e2, e3, e4, e5, e6, e7⟩)
  have HNO := Lib.hid hno
  clear hok hno d1 d2 d3 d4 hk h hc hB hBX
  generalize uName k = u1 at *
  generalize uNum k = u2 at *
  generalize uX k = u3 at *
  generalize uWork k = u4 at *
  generalize kindOK k = kb at *
  generalize flD k = F at *
  generalize qnOK name = q1 at *
  generalize msgOK n = q2 at *
  generalize mayXB xg xh = q3 at *
  subst hk1
  subst hn1
  subst hn2
  subst hx1
  cases g4
  case' false => obtain rfl : E = 130 := HNO.out (fun c => by cases c.2.2.2.2)
  case' true => obtain rfl : E = 0 := HOK.out ⟨rfl, rfl, rfl, rfl, rfl⟩
  all_goals
    go_enter Tryz.func31, Tryz.ntmps31
    go_wp2_with fail
    refine (HF.out _).mono ?_
    rintro e w1 ⟨rfl, rfl⟩
    go_wp2_with fail
    go_region_held3 (fun w' => w'.cell? ⟨w.heap.size, 0, none⟩ = some (.int .u8 k) ∧ w'.cell? ⟨w.heap.size, 1, none⟩ = some (.string name) ∧ w'.cell? ⟨w.heap.size, 2, none⟩ = some (.int .u64 n) ∧ w'.cell? ⟨w.heap.size, 3, none⟩ = some (.int .u32 xf) ∧ w'.cell? ⟨w.heap.size, 4, none⟩ = some (.string xg) ∧ w'.cell? ⟨w.heap.size, 5, none⟩ = some (.string xh) ∧ w'.cell? ⟨w.heap.size, 6, none⟩ = some (.slice A1 cs.length c1) ∧ w'.cell? ⟨w.heap.size, 7, none⟩ = some (.slice A2 rs.length c2)) (first | exact HKEEP.out _ (Below.refl _ _) | exact HKEEP.out _ (below_drew1 (Below.refl _ _)) | exact HKEEP.out _ ((below_drew1 (Below.refl _ _)).trans hb5) | exact HKEEP.out _ (((below_drew1 (Below.refl _ _)).trans hb5).trans (hb6.mono hb5.size)))
      (first
        | (go_at_call 55
           first
             | (with_reducible refine (HN.out _).mono ?_
                rintro e w11 ⟨rfl, rfl⟩)
             | (with_reducible refine (HU.out _).mono ?_
                rintro e w11 ⟨rfl, rfl⟩)
             | (with_reducible refine (HX.out _).mono ?_
                rintro e w11 ⟨rfl, rfl⟩)
             | (with_reducible refine (HW.out _).mono ?_
                rintro e w11 ⟨rfl, rfl⟩))
        | (go_at_call 54
           first
             | (with_reducible refine (HR1.out _).mono ?_
                rintro e w11 ⟨rfl, rfl⟩)
             | (with_reducible refine (HR2.out _).mono ?_
                rintro e w11 ⟨rfl, rfl⟩)
             | (with_reducible refine (HR3.out _).mono ?_
                rintro e w11 ⟨rfl, rfl⟩)
             | (with_reducible refine (HR4.out _).mono ?_
                rintro e w11 ⟨rfl, rfl⟩))
        | (go_at_call 56
           refine (HQ.out _).mono ?_
           rintro e w11 ⟨rfl, rfl⟩)
        | (go_at_call 57
           refine (HM.out _).mono ?_
           rintro e w11 ⟨rfl, rfl⟩)
        | (go_at_call 48
           refine (HC.out _).mono ?_
           rintro e w5 ⟨rfl, hb5⟩)
        | (go_at_call 58
           refine (HWK.out _ ((below_drew1 HB.out).trans (hb5.mono (below_drew1 HB.out).size))).mono ?_
           rintro e w6 ⟨rfl, hb6⟩))
    all_goals
      go_wp2_with fail
      go_ret
      exact ⟨rfl, ((below_drew1 HB.out).trans (hb5.mono (below_drew1 HB.out).size)).trans (hb6.mono ((below_drew1 HB.out).trans (hb5.mono (below_drew1 HB.out).size)).size)⟩

end Go.Proofs.YtpmafabphlejeaaGreat
/-
  entry.Check, where the name of a branch is not right.
  Conditions: none but sizes.
-/
namespace Go.Proofs.YtpmafabphlejeaaGreat
open Go.RowKit
set_option linter.unusedVariables false
set_option linter.unusedSimpArgs false
set_option maxRecDepth 100000

set_option maxHeartbeats 60000000 in
theorem echeck_3 (x : EntC) (w : World) (h : ShowsE w x) (hc : Few x.cs) (hk1 : kindOK x.k = true) (hn1 : tstName x.e = true) (hn2 : tstNum x.e = true) (hx1 : tstX x.e = false) :
    Calls Tryz.prog 31 #[entV x] w fun e w' => e = .returned (.int .i64 (errE x.e)) ∧ Below w.heap.size w w' := by
  have hok : (kindOK x.k = true ∧ tstName x.e = true ∧ tstNum x.e = true ∧ tstX x.e = true ∧ tstWork x.e = true) → errE x.e = 0 := fun ht => errE_ok ((tests_eq x.e).2 ht)
  have hno : ¬ (kindOK x.k = true ∧ tstName x.e = true ∧ tstNum x.e = true ∧ tstX x.e = true ∧ tstWork x.e = true) → errE x.e = 130 := fun ht => errE_no (fun hv => ht ((tests_eq x.e).1 hv))
  have HF := Lib.hid (fun w' => fields_any x.k w')
  have HN := Lib.hid (fun w' => has_name x.k w')
  have HU := Lib.hid (fun w' => has_num x.k w')
  have HX := Lib.hid (fun w' => has_x x.k w')
  have HW := Lib.hid (fun w' => has_work x.k w')
  have HQ := Lib.hid (fun w' => qname_any x.name w' (by have := h.name; omega))
  have HM := Lib.hid (fun w' => isMsg_any x.n w')
  have HC := Lib.hid (fun w' => xcheck_any x.xf x.xg x.xh w' (by have := h.xg; omega) (by have := h.xh; omega))
  have HWK := Lib.hid (fun w' (hb : Below w.heap.size w w') => isWork_any x w' (h.kept hb (Nat.le_refl _)) hc)
  have HR1 := Lib.hid (fun w' => right_any (uName x.k) x.name.toList.isEmpty (qnOK x.name) w')
  have HR2 := Lib.hid (fun w' => right_any (uNum x.k) (decide (x.n = 0)) (msgOK x.n) w')
  have HR3 := Lib.hid (fun w' => right_any (uX x.k) (decide ((x.xf, x.xg, x.xh) = (0, ⟨#[]⟩, ⟨#[]⟩))) (mayXB x.xg x.xh) w')
  have HR4 := Lib.hid (fun w' => right_any (uWork x.k) (decide (x.cs.length + x.rs.length = 0)) (wrkB x.e) w')
  have hk := (flD_bits x.k).2.2.2.2
  have hkn : ((flD x.k : Int) != 0) = kindOK x.k := by
    rw [← hk, Bool.eq_iff_iff]; simp
  have d1 : tstName x.e = rightD (uName x.k) x.name.toList.isEmpty (qnOK x.name) := rfl
  have d2 : tstNum x.e = rightD (uNum x.k) (decide (x.n = 0)) (msgOK x.n) := rfl
  have d3 : tstX x.e = rightD (uX x.k) (decide ((x.xf, x.xg, x.xh) = (0, ⟨#[]⟩, ⟨#[]⟩))) (mayXB x.xg x.xh) := rfl
  have d4 : tstWork x.e = rightD (uWork x.k) (decide (x.cs.length + x.rs.length = 0)) (wrkB x.e) := by
    unfold tstWork
    show rightD (uWork x.k) (decide ((esOf x.cs).length + x.rs.length = 0)) (wrkB x.e) = _
    rw [esOf_len]
  rw [← d1] at HR1
  rw [← d2] at HR2
  rw [← d3] at HR3
  rw [← d4] at HR4
  have t1 : ((x.n : Int) == 0) = decide (x.n = 0) := by rw [Bool.eq_iff_iff]; simp
  have hG := xidGuard
  have hEq := fun w => run_eq_xid0 x.xf x.xg x.xh w
  have t3 : ((x.cs.length : Int) + (x.rs.length : Int) == 0) = decide (x.cs.length + x.rs.length = 0) := by rw [Bool.eq_iff_iff]; simp only [beq_iff_eq, decide_eq_true_eq]; omega
  have t4 : IntKind.i64.wrap ((x.cs.length : Int) + (x.rs.length : Int)) = (x.cs.length : Int) + (x.rs.length : Int) := i64_id _ (by omega) (by have := h.puts.lm; have := h.takes.lm; omega)
  have hE : ((errX x.xg x.xh : Int) == 0) = mayXB x.xg x.xh := by
    unfold errX
    cases mayXB x.xg x.xh <;> rfl
  generalize errX x.xg x.xh = EX at *
  generalize errE x.e = E at *
  generalize tstName x.e = g1 at *
  generalize tstNum x.e = g2 at *
  generalize tstX x.e = g3 at *
  generalize tstWork x.e = g4 at *
  generalize wrkB x.e = wb at *
  generalize decide (x.cs.length + x.rs.length = 0) = z4 at *
  generalize decide (x.n = 0) = z2 at *
  generalize decide ((x.xf, x.xg, x.xh) = (0, ⟨#[]⟩, ⟨#[]⟩)) = z3 at *
  obtain ⟨k, name, n, xf, xg, xh, A1, c1, cs, A2, c2, rs⟩ := x
  unfold entV at HWK ⊢
  unfold xidV at HC
  simp only [] at *
  have hB := below_boxV w (Obj.cells #[.int .u8 k, .string name, .int .u64 n, .int .u32 xf, .string xg, .string xh, .slice A1 cs.length c1, .slice A2 rs.length c2] 57)
  have hBX := BoxE.new (x := ⟨k, name, n, xf, xg, xh, A1, c1, cs, A2, c2, rs⟩) w
  obtain ⟨⟨e0, e1, e2⟩, ⟨e3, e4, e5⟩, e6, e7⟩ := hBX.cells
  simp only [] at e0 e1 e2 e3 e4 e5 e6 e7
  have HB := Lib.hid hB
  have HBX := Lib.hid hBX
  have HOK := Lib.hid hok
  have HKEEP := Lib.hid (show ∀ w', Below (w.alloc (Obj.cells #[.int .u8 k, .string name, .int .u64 n, .int .u32 xf, .string xg, .string xh, .slice A1 cs.length c1, .slice A2 rs.length c2] 57)).heap.size (w.alloc (Obj.cells #[.int .u8 k, .string name, .int .u64 n, .int .u32 xf, .string xg, .string xh, .slice A1 cs.length c1, .slice A2 rs.length c2] 57)) w' → w'.cell? ⟨w.heap.size, 0, none⟩ = some (.int .u8 k) ∧ w'.cell? ⟨w.heap.size, 1, none⟩ = some (.string name) ∧ w'.cell? ⟨w.heap.size, 2, none⟩ = some (.int .u64 n) ∧ w'.cell? ⟨w.heap.size, 3, none⟩ = some (.int .u32 xf) ∧ w'.cell? ⟨w.heap.size, 4, none⟩ = some (.string xg) ∧ w'.cell? ⟨w.heap.size, 5, none⟩ = some (.string xh) ∧ w'.cell? ⟨w.heap.size, 6, none⟩ = some (.slice A1 cs.length c1) ∧ w'.cell? ⟨w.heap.size, 7, none⟩ = some (.slice A2 rs.length c2) from fun w' hb' => by
    obtain ⟨⟨e0, e1, e2⟩, ⟨e3, e4, e5⟩, e6, e7⟩ := (hBX.kept hb' (Nat.le_refl _)).cells
    exact ⟨e0, e1, e2, e3, e4, e5, e6, e7⟩)
  have HNO := Lib.hid hno
  clear hok hno d1 d2 d3 d4 hk h hc hB hBX
  generalize uName k = u1 at *
  generalize uNum k = u2 at *
  generalize uX k = u3 at *
  generalize uWork k = u4 at *
  generalize kindOK k = kb at *
  generalize flD k = F at *
  generalize qnOK name = q1 at *
  generalize msgOK n = q2 at *
  generalize mayXB xg xh = q3 at *
  subst hk1
  subst hn1
  subst hn2
  subst hx1
  obtain rfl : E = 130 := HNO.out (fun c => by cases c.2.2.2.1)
  go_enter Tryz.func31, Tryz.ntmps31
  go_wp2_with fail
  refine (HF.out _).mono ?_
  rintro e w1 ⟨rfl, rfl⟩
  go_wp2_with fail
  have hSW := HKEEP.out _ (below_drew1 (Below.refl _ _))
  clear e0 e1 e2 e3 e4 e5 e6 e7
  refine wp_region_held_drew (S := fun w' => w'.cell? ⟨w.heap.size, 0, none⟩ = some (.int .u8 k) ∧ w'.cell? ⟨w.heap.size, 1, none⟩ = some (.string name) ∧ w'.cell? ⟨w.heap.size, 2, none⟩ = some (.int .u64 n) ∧ w'.cell? ⟨w.heap.size, 3, none⟩ = some (.int .u32 xf) ∧ w'.cell? ⟨w.heap.size, 4, none⟩ = some (.string xg) ∧ w'.cell? ⟨w.heap.size, 5, none⟩ = some (.string xh) ∧ w'.cell? ⟨w.heap.size, 6, none⟩ = some (.slice A1 cs.length c1) ∧ w'.cell? ⟨w.heap.size, 7, none⟩ = some (.slice A2 rs.length c2)) (by kernel_rfl) hSW (fun hHeld => ?_)
  clear hSW
  refine wpAnyH_take (i := 0) (oi := { dst := some 8, op := Op.move (Operand.tmp 3), type := 97, pos := "entry.go:56", after := #[], guard := none }) (v := ?_) rfl (by kernel_rfl) (by kernel_rfl) (by kernel_rfl) (fun _ _ _ h => h) (Or.inl ⟨by rfl, ?_⟩) (by assumption) ?_
  rotate_left
  · intro w9 hSw
    obtain ⟨s0, s1, s2, s3, s4, s5, s6, s7⟩ := hSw
    go_simp
    try with_reducible rfl
  try simp only [Act.put, List.setIfInBounds_toArray, List.set_cons_zero, List.set_cons_succ]
  refine wpAnyH_take (i := 1) (oi := { dst := some 9, op := Op.binOp BinOp.neq 97 (Operand.tmp 8) (Operand.const (Value.int IntKind.u8 0)) 97, type := 4, pos := "entry.go:56", after := #[{ on := 0, ground := Ground.data }], guard := none }) (v := ?_) rfl (by kernel_rfl) (by kernel_rfl) (by kernel_rfl) (fun _ _ _ h => h) (Or.inl ⟨by rfl, ?_⟩) (by assumption) ?_
  rotate_left
  · intro w9 hSw
    obtain ⟨s0, s1, s2, s3, s4, s5, s6, s7⟩ := hSw
    go_simp
    try with_reducible rfl
  try simp only [Act.put, List.setIfInBounds_toArray, List.set_cons_zero, List.set_cons_succ]
  refine wpAnyH_take (i := 2) (oi := { dst := some 10, op := Op.move (Operand.tmp 9), type := 4, pos := "entry.go:56", after := #[{ on := 1, ground := Ground.data }], guard := none }) (v := ?_) rfl (by kernel_rfl) (by kernel_rfl) (by kernel_rfl) (fun _ _ _ h => h) (Or.inl ⟨by rfl, ?_⟩) (by assumption) ?_
  rotate_left
  · intro w9 hSw
    obtain ⟨s0, s1, s2, s3, s4, s5, s6, s7⟩ := hSw
    go_simp
    try with_reducible rfl
  try simp only [Act.put, List.setIfInBounds_toArray, List.set_cons_zero, List.set_cons_succ]
  refine wpAnyH_take (i := 3) (oi := { dst := some 11, op := Op.move (Operand.tmp 3), type := 97, pos := "entry.go:56", after := #[{ on := 2, ground := Ground.guard }], guard := some (2, true) }) (v := ?_) rfl (by kernel_rfl) (by kernel_rfl) (by kernel_rfl) (fun _ _ _ h => h) (Or.inl ⟨by rfl, ?_⟩) (by assumption) ?_
  rotate_left
  · intro w9 hSw
    obtain ⟨s0, s1, s2, s3, s4, s5, s6, s7⟩ := hSw
    go_simp
    try with_reducible rfl
  try simp only [Act.put, List.setIfInBounds_toArray, List.set_cons_zero, List.set_cons_succ]
  refine wpAnyH_take (i := 5) (oi := { dst := some 13, op := Op.fieldAddr 57 (Operand.tmp 1) 1, type := 0, pos := "entry.go:56", after := #[{ on := 2, ground := Ground.guard }], guard := some (2, true) }) (v := ?_) rfl (by kernel_rfl) (by kernel_rfl) (by kernel_rfl) (fun _ _ _ h => h) (Or.inl ⟨by rfl, ?_⟩) (by assumption) ?_
  rotate_left
  · intro w9 hSw
    obtain ⟨s0, s1, s2, s3, s4, s5, s6, s7⟩ := hSw
    go_simp
    try with_reducible rfl
  try simp only [Act.put, List.setIfInBounds_toArray, List.set_cons_zero, List.set_cons_succ]
  refine wpAnyH_take (i := 6) (oi := { dst := some 14, op := Op.load 9 (Operand.tmp 13), type := 9, pos := "entry.go:56", after := #[{ on := 5, ground := Ground.data }, { on := 2, ground := Ground.guard }], guard := some (2, true) }) (v := ?_) rfl (by kernel_rfl) (by kernel_rfl) (by kernel_rfl) (fun _ _ _ h => h) (Or.inl ⟨by rfl, ?_⟩) (by assumption) ?_
  rotate_left
  · intro w9 hSw
    obtain ⟨s0, s1, s2, s3, s4, s5, s6, s7⟩ := hSw
    go_simp
    try with_reducible rfl
  try simp only [Act.put, List.setIfInBounds_toArray, List.set_cons_zero, List.set_cons_succ]
  refine wpAnyH_take (i := 7) (oi := { dst := some 15, op := Op.binOp BinOp.eql 9 (Operand.tmp 14) (Operand.const (Value.string { data := #[] })) 9, type := 4, pos := "entry.go:56", after := #[{ on := 6, ground := Ground.data }, { on := 2, ground := Ground.guard }], guard := some (2, true) }) (v := ?_) rfl (by kernel_rfl) (by kernel_rfl) (by kernel_rfl) (fun _ _ _ h => h) (Or.inl ⟨by rfl, ?_⟩) (by assumption) ?_
  rotate_left
  · intro w9 hSw
    obtain ⟨s0, s1, s2, s3, s4, s5, s6, s7⟩ := hSw
    go_simp
    try with_reducible rfl
  try simp only [Act.put, List.setIfInBounds_toArray, List.set_cons_zero, List.set_cons_succ]
  refine wpAnyH_take (i := 8) (oi := { dst := some 16, op := Op.fieldAddr 57 (Operand.tmp 1) 1, type := 0, pos := "entry.go:56", after := #[{ on := 2, ground := Ground.guard }], guard := some (2, true) }) (v := ?_) rfl (by kernel_rfl) (by kernel_rfl) (by kernel_rfl) (fun _ _ _ h => h) (Or.inl ⟨by rfl, ?_⟩) (by assumption) ?_
  rotate_left
  · intro w9 hSw
    obtain ⟨s0, s1, s2, s3, s4, s5, s6, s7⟩ := hSw
    go_simp
    try with_reducible rfl
  try simp only [Act.put, List.setIfInBounds_toArray, List.set_cons_zero, List.set_cons_succ]
  refine wpAnyH_take (i := 9) (oi := { dst := some 17, op := Op.load 9 (Operand.tmp 16), type := 9, pos := "entry.go:56", after := #[{ on := 8, ground := Ground.data }, { on := 2, ground := Ground.guard }], guard := some (2, true) }) (v := ?_) rfl (by kernel_rfl) (by kernel_rfl) (by kernel_rfl) (fun _ _ _ h => h) (Or.inl ⟨by rfl, ?_⟩) (by assumption) ?_
  rotate_left
  · intro w9 hSw
    obtain ⟨s0, s1, s2, s3, s4, s5, s6, s7⟩ := hSw
    go_simp
    try with_reducible rfl
  try simp only [Act.put, List.setIfInBounds_toArray, List.set_cons_zero, List.set_cons_succ]
  refine wpAnyH_ready (rs := [4]) (by kernel_rfl) (by simp) ?_
  refine AllReadyH.cons (o := { dst := some 12, op := Op.call { callee := Callee.value (Operand.func 55), args := #[Operand.tmp 11, Operand.const (Value.int IntKind.u8 1)], argTypes := #[97, 97] }, type := 4, pos := "entry.go:57", after := #[{ on := 3, ground := Ground.data }, { on := 2, ground := Ground.chain }, { on := 2, ground := Ground.guard }], guard := some (2, true) }) rfl (fun K hK => ?_) AllReadyH.nil
  go_simp
  with_reducible refine (HN.out _).mono ?_
  rintro e11 w11 ⟨rfl, rfl⟩
  refine hK.out _ _ (by assumption) (fun _ => ?_)
  clear hK K
  try simp only [Act.put, List.setIfInBounds_toArray, List.set_cons_zero, List.set_cons_succ]
  refine wpAnyH_ready (rs := [10]) (by kernel_rfl) (by simp) ?_
  refine AllReadyH.cons (o := { dst := some 18, op := Op.call { callee := Callee.value (Operand.func 56), args := #[Operand.tmp 17], argTypes := #[9] }, type := 4, pos := "entry.go:57", after := #[{ on := 9, ground := Ground.data }, { on := 4, ground := Ground.chain }, { on := 2, ground := Ground.guard }], guard := some (2, true) }) rfl (fun K hK => ?_) AllReadyH.nil
  go_simp
  with_reducible refine (HQ.out _).mono ?_
  rintro e11 w11 ⟨rfl, rfl⟩
  refine hK.out _ _ (by assumption) (fun _ => ?_)
  clear hK K
  try simp only [Act.put, List.setIfInBounds_toArray, List.set_cons_zero, List.set_cons_succ]
  refine wpAnyH_ready (rs := [11]) (by kernel_rfl) (by simp) ?_
  refine AllReadyH.cons (o := { dst := some 19, op := Op.call { callee := Callee.value (Operand.func 54), args := #[Operand.tmp 12, Operand.tmp 15, Operand.tmp 18], argTypes := #[4, 4, 4] }, type := 4, pos := "entry.go:57", after := #[{ on := 4, ground := Ground.data }, { on := 7, ground := Ground.data }, { on := 10, ground := Ground.data }, { on := 10, ground := Ground.chain }, { on := 2, ground := Ground.guard }], guard := some (2, true) }) rfl (fun K hK => ?_) AllReadyH.nil
  go_simp
  with_reducible refine (HR1.out _).mono ?_
  rintro e11 w11 ⟨rfl, rfl⟩
  refine hK.out _ _ (by assumption) (fun _ => ?_)
  clear hK K
  try simp only [Act.put, List.setIfInBounds_toArray, List.set_cons_zero, List.set_cons_succ]
  refine wpAnyH_take (i := 12) (oi := { dst := some 20, op := Op.pick (Operand.tmp 10) (Operand.tmp 19) (Operand.const (Value.bool false)), type := 4, pos := "entry.go:56", after := #[{ on := 2, ground := Ground.data }, { on := 11, ground := Ground.data }], guard := none }) (v := ?_) rfl (by kernel_rfl) (by kernel_rfl) (by kernel_rfl) (fun _ _ _ h => h) (Or.inl ⟨by rfl, ?_⟩) (by assumption) ?_
  rotate_left
  · intro w9 hSw
    obtain ⟨s0, s1, s2, s3, s4, s5, s6, s7⟩ := hSw
    go_simp
    try with_reducible rfl
  try simp only [Act.put, List.setIfInBounds_toArray, List.set_cons_zero, List.set_cons_succ]
  refine wpAnyH_take (i := 13) (oi := { dst := some 21, op := Op.move (Operand.tmp 20), type := 4, pos := "entry.go:56", after := #[{ on := 12, ground := Ground.data }, { on := 11, ground := Ground.chain }], guard := none }) (v := ?_) rfl (by kernel_rfl) (by kernel_rfl) (by kernel_rfl) (fun _ _ _ h => h) (Or.inl ⟨by rfl, ?_⟩) (by assumption) ?_
  rotate_left
  · intro w9 hSw
    obtain ⟨s0, s1, s2, s3, s4, s5, s6, s7⟩ := hSw
    go_simp
    try with_reducible rfl
  try simp only [Act.put, List.setIfInBounds_toArray, List.set_cons_zero, List.set_cons_succ]
  refine wpAnyH_take (i := 14) (oi := { dst := some 22, op := Op.move (Operand.tmp 3), type := 97, pos := "entry.go:56", after := #[{ on := 13, ground := Ground.guard }], guard := some (13, true) }) (v := ?_) rfl (by kernel_rfl) (by kernel_rfl) (by kernel_rfl) (fun _ _ _ h => h) (Or.inl ⟨by rfl, ?_⟩) (by assumption) ?_
  rotate_left
  · intro w9 hSw
    obtain ⟨s0, s1, s2, s3, s4, s5, s6, s7⟩ := hSw
    go_simp
    try with_reducible rfl
  try simp only [Act.put, List.setIfInBounds_toArray, List.set_cons_zero, List.set_cons_succ]
  refine wpAnyH_take (i := 16) (oi := { dst := some 24, op := Op.fieldAddr 57 (Operand.tmp 1) 2, type := 0, pos := "entry.go:56", after := #[{ on := 13, ground := Ground.guard }], guard := some (13, true) }) (v := ?_) rfl (by kernel_rfl) (by kernel_rfl) (by kernel_rfl) (fun _ _ _ h => h) (Or.inl ⟨by rfl, ?_⟩) (by assumption) ?_
  rotate_left
  · intro w9 hSw
    obtain ⟨s0, s1, s2, s3, s4, s5, s6, s7⟩ := hSw
    go_simp
    try with_reducible rfl
  try simp only [Act.put, List.setIfInBounds_toArray, List.set_cons_zero, List.set_cons_succ]
  refine wpAnyH_take (i := 17) (oi := { dst := some 25, op := Op.load 26 (Operand.tmp 24), type := 26, pos := "entry.go:56", after := #[{ on := 16, ground := Ground.data }, { on := 13, ground := Ground.guard }], guard := some (13, true) }) (v := ?_) rfl (by kernel_rfl) (by kernel_rfl) (by kernel_rfl) (fun _ _ _ h => h) (Or.inl ⟨by rfl, ?_⟩) (by assumption) ?_
  rotate_left
  · intro w9 hSw
    obtain ⟨s0, s1, s2, s3, s4, s5, s6, s7⟩ := hSw
    go_simp
    try with_reducible rfl
  try simp only [Act.put, List.setIfInBounds_toArray, List.set_cons_zero, List.set_cons_succ]
  refine wpAnyH_take (i := 18) (oi := { dst := some 26, op := Op.binOp BinOp.eql 26 (Operand.tmp 25) (Operand.const (Value.int IntKind.u64 0)) 26, type := 4, pos := "entry.go:56", after := #[{ on := 17, ground := Ground.data }, { on := 13, ground := Ground.guard }], guard := some (13, true) }) (v := ?_) rfl (by kernel_rfl) (by kernel_rfl) (by kernel_rfl) (fun _ _ _ h => h) (Or.inl ⟨by rfl, ?_⟩) (by assumption) ?_
  rotate_left
  · intro w9 hSw
    obtain ⟨s0, s1, s2, s3, s4, s5, s6, s7⟩ := hSw
    go_simp
    try with_reducible rfl
  try simp only [Act.put, List.setIfInBounds_toArray, List.set_cons_zero, List.set_cons_succ]
  refine wpAnyH_take (i := 19) (oi := { dst := some 27, op := Op.fieldAddr 57 (Operand.tmp 1) 2, type := 0, pos := "entry.go:56", after := #[{ on := 13, ground := Ground.guard }], guard := some (13, true) }) (v := ?_) rfl (by kernel_rfl) (by kernel_rfl) (by kernel_rfl) (fun _ _ _ h => h) (Or.inl ⟨by rfl, ?_⟩) (by assumption) ?_
  rotate_left
  · intro w9 hSw
    obtain ⟨s0, s1, s2, s3, s4, s5, s6, s7⟩ := hSw
    go_simp
    try with_reducible rfl
  try simp only [Act.put, List.setIfInBounds_toArray, List.set_cons_zero, List.set_cons_succ]
  refine wpAnyH_take (i := 20) (oi := { dst := some 28, op := Op.load 26 (Operand.tmp 27), type := 26, pos := "entry.go:56", after := #[{ on := 19, ground := Ground.data }, { on := 13, ground := Ground.guard }], guard := some (13, true) }) (v := ?_) rfl (by kernel_rfl) (by kernel_rfl) (by kernel_rfl) (fun _ _ _ h => h) (Or.inl ⟨by rfl, ?_⟩) (by assumption) ?_
  rotate_left
  · intro w9 hSw
    obtain ⟨s0, s1, s2, s3, s4, s5, s6, s7⟩ := hSw
    go_simp
    try with_reducible rfl
  try simp only [Act.put, List.setIfInBounds_toArray, List.set_cons_zero, List.set_cons_succ]
  refine wpAnyH_ready (rs := [15]) (by kernel_rfl) (by simp) ?_
  refine AllReadyH.cons (o := { dst := some 23, op := Op.call { callee := Callee.value (Operand.func 55), args := #[Operand.tmp 22, Operand.const (Value.int IntKind.u8 2)], argTypes := #[97, 97] }, type := 4, pos := "entry.go:58", after := #[{ on := 14, ground := Ground.data }, { on := 13, ground := Ground.chain }, { on := 13, ground := Ground.guard }], guard := some (13, true) }) rfl (fun K hK => ?_) AllReadyH.nil
  go_simp
  with_reducible refine (HU.out _).mono ?_
  rintro e11 w11 ⟨rfl, rfl⟩
  refine hK.out _ _ (by assumption) (fun _ => ?_)
  clear hK K
  try simp only [Act.put, List.setIfInBounds_toArray, List.set_cons_zero, List.set_cons_succ]
  refine wpAnyH_ready (rs := [21]) (by kernel_rfl) (by simp) ?_
  refine AllReadyH.cons (o := { dst := some 29, op := Op.call { callee := Callee.value (Operand.func 57), args := #[Operand.tmp 28], argTypes := #[26] }, type := 4, pos := "entry.go:58", after := #[{ on := 20, ground := Ground.data }, { on := 15, ground := Ground.chain }, { on := 13, ground := Ground.guard }], guard := some (13, true) }) rfl (fun K hK => ?_) AllReadyH.nil
  go_simp
  with_reducible refine (HM.out _).mono ?_
  rintro e11 w11 ⟨rfl, rfl⟩
  refine hK.out _ _ (by assumption) (fun _ => ?_)
  clear hK K
  try simp only [Act.put, List.setIfInBounds_toArray, List.set_cons_zero, List.set_cons_succ]
  refine wpAnyH_ready (rs := [22]) (by kernel_rfl) (by simp) ?_
  refine AllReadyH.cons (o := { dst := some 30, op := Op.call { callee := Callee.value (Operand.func 54), args := #[Operand.tmp 23, Operand.tmp 26, Operand.tmp 29], argTypes := #[4, 4, 4] }, type := 4, pos := "entry.go:58", after := #[{ on := 15, ground := Ground.data }, { on := 18, ground := Ground.data }, { on := 21, ground := Ground.data }, { on := 21, ground := Ground.chain }, { on := 13, ground := Ground.guard }], guard := some (13, true) }) rfl (fun K hK => ?_) AllReadyH.nil
  go_simp
  with_reducible refine (HR2.out _).mono ?_
  rintro e11 w11 ⟨rfl, rfl⟩
  refine hK.out _ _ (by assumption) (fun _ => ?_)
  clear hK K
  try simp only [Act.put, List.setIfInBounds_toArray, List.set_cons_zero, List.set_cons_succ]
  refine wpAnyH_take (i := 23) (oi := { dst := some 31, op := Op.pick (Operand.tmp 21) (Operand.tmp 30) (Operand.const (Value.bool false)), type := 4, pos := "entry.go:56", after := #[{ on := 13, ground := Ground.data }, { on := 22, ground := Ground.data }], guard := none }) (v := ?_) rfl (by kernel_rfl) (by kernel_rfl) (by kernel_rfl) (fun _ _ _ h => h) (Or.inl ⟨by rfl, ?_⟩) (by assumption) ?_
  rotate_left
  · intro w9 hSw
    obtain ⟨s0, s1, s2, s3, s4, s5, s6, s7⟩ := hSw
    go_simp
    try with_reducible rfl
  try simp only [Act.put, List.setIfInBounds_toArray, List.set_cons_zero, List.set_cons_succ]
  refine wpAnyH_take (i := 24) (oi := { dst := some 32, op := Op.move (Operand.tmp 31), type := 4, pos := "entry.go:56", after := #[{ on := 23, ground := Ground.data }, { on := 22, ground := Ground.chain }], guard := none }) (v := ?_) rfl (by kernel_rfl) (by kernel_rfl) (by kernel_rfl) (fun _ _ _ h => h) (Or.inl ⟨by rfl, ?_⟩) (by assumption) ?_
  rotate_left
  · intro w9 hSw
    obtain ⟨s0, s1, s2, s3, s4, s5, s6, s7⟩ := hSw
    go_simp
    try with_reducible rfl
  try simp only [Act.put, List.setIfInBounds_toArray, List.set_cons_zero, List.set_cons_succ]
  refine wpAnyH_take (i := 25) (oi := { dst := some 33, op := Op.move (Operand.tmp 3), type := 97, pos := "entry.go:56", after := #[{ on := 24, ground := Ground.guard }], guard := some (24, true) }) (v := ?_) rfl (by kernel_rfl) (by kernel_rfl) (by kernel_rfl) (fun _ _ _ h => h) (Or.inl ⟨by rfl, ?_⟩) (by assumption) ?_
  rotate_left
  · intro w9 hSw
    obtain ⟨s0, s1, s2, s3, s4, s5, s6, s7⟩ := hSw
    go_simp
    try with_reducible rfl
  try simp only [Act.put, List.setIfInBounds_toArray, List.set_cons_zero, List.set_cons_succ]
  refine wpAnyH_take (i := 27) (oi := { dst := some 35, op := Op.fieldAddr 57 (Operand.tmp 1) 3, type := 0, pos := "entry.go:56", after := #[{ on := 24, ground := Ground.guard }], guard := some (24, true) }) (v := ?_) rfl (by kernel_rfl) (by kernel_rfl) (by kernel_rfl) (fun _ _ _ h => h) (Or.inl ⟨by rfl, ?_⟩) (by assumption) ?_
  rotate_left
  · intro w9 hSw
    obtain ⟨s0, s1, s2, s3, s4, s5, s6, s7⟩ := hSw
    go_simp
    try with_reducible rfl
  try simp only [Act.put, List.setIfInBounds_toArray, List.set_cons_zero, List.set_cons_succ]
  refine wpAnyH_take (i := 28) (oi := { dst := some 36, op := Op.load 55 (Operand.tmp 35), type := 55, pos := "entry.go:56", after := #[{ on := 27, ground := Ground.data }, { on := 24, ground := Ground.guard }], guard := some (24, true) }) (v := ?_) rfl (by kernel_rfl) (by kernel_rfl) (by kernel_rfl) (fun _ _ _ h => h) (Or.inl ⟨by rfl, ?_⟩) (by assumption) ?_
  rotate_left
  · intro w9 hSw
    obtain ⟨s0, s1, s2, s3, s4, s5, s6, s7⟩ := hSw
    go_simp
    try with_reducible rfl
  try simp only [Act.put, List.setIfInBounds_toArray, List.set_cons_zero, List.set_cons_succ]
  refine wpAnyH_take (i := 29) (oi := { dst := some 37, op := Op.build 55 #[], type := 55, pos := "entry.go:56", after := #[{ on := 24, ground := Ground.guard }], guard := some (24, true) }) (v := ?_) rfl (by kernel_rfl) (by kernel_rfl) (by kernel_rfl) (fun _ _ _ h => h) (Or.inl ⟨by rfl, ?_⟩) (by assumption) ?_
  rotate_left
  · intro w9 hSw
    obtain ⟨s0, s1, s2, s3, s4, s5, s6, s7⟩ := hSw
    go_simp
    try with_reducible rfl
  try simp only [Act.put, List.setIfInBounds_toArray, List.set_cons_zero, List.set_cons_succ]
  refine wpAnyH_take (i := 30) (oi := { dst := some 38, op := Op.binOp BinOp.eql 55 (Operand.tmp 36) (Operand.tmp 37) 55, type := 4, pos := "entry.go:56", after := #[{ on := 28, ground := Ground.data }, { on := 29, ground := Ground.data }, { on := 24, ground := Ground.guard }], guard := some (24, true) }) (v := ?_) rfl (by kernel_rfl) (by kernel_rfl) (by kernel_rfl) (fun _ _ _ h => h) (Or.inl ⟨by rfl, ?_⟩) (by assumption) ?_
  rotate_left
  · intro w9 hSw
    obtain ⟨s0, s1, s2, s3, s4, s5, s6, s7⟩ := hSw
    go_simp
    try with_reducible rfl
  try simp only [Act.put, List.setIfInBounds_toArray, List.set_cons_zero, List.set_cons_succ]
  refine wpAnyH_take (i := 31) (oi := { dst := some 39, op := Op.fieldAddr 57 (Operand.tmp 1) 3, type := 0, pos := "entry.go:56", after := #[{ on := 24, ground := Ground.guard }], guard := some (24, true) }) (v := ?_) rfl (by kernel_rfl) (by kernel_rfl) (by kernel_rfl) (fun _ _ _ h => h) (Or.inl ⟨by rfl, ?_⟩) (by assumption) ?_
  rotate_left
  · intro w9 hSw
    obtain ⟨s0, s1, s2, s3, s4, s5, s6, s7⟩ := hSw
    go_simp
    try with_reducible rfl
  try simp only [Act.put, List.setIfInBounds_toArray, List.set_cons_zero, List.set_cons_succ]
  refine wpAnyH_take (i := 32) (oi := { dst := some 40, op := Op.load 55 (Operand.tmp 39), type := 55, pos := "entry.go:56", after := #[{ on := 31, ground := Ground.data }, { on := 24, ground := Ground.guard }], guard := some (24, true) }) (v := ?_) rfl (by kernel_rfl) (by kernel_rfl) (by kernel_rfl) (fun _ _ _ h => h) (Or.inl ⟨by rfl, ?_⟩) (by assumption) ?_
  rotate_left
  · intro w9 hSw
    obtain ⟨s0, s1, s2, s3, s4, s5, s6, s7⟩ := hSw
    go_simp
    try with_reducible rfl
  try simp only [Act.put, List.setIfInBounds_toArray, List.set_cons_zero, List.set_cons_succ]
  refine wpAnyH_ready (rs := [26]) (by kernel_rfl) (by simp) ?_
  refine AllReadyH.cons (o := { dst := some 34, op := Op.call { callee := Callee.value (Operand.func 55), args := #[Operand.tmp 33, Operand.const (Value.int IntKind.u8 4)], argTypes := #[97, 97] }, type := 4, pos := "entry.go:59", after := #[{ on := 25, ground := Ground.data }, { on := 24, ground := Ground.chain }, { on := 24, ground := Ground.guard }], guard := some (24, true) }) rfl (fun K hK => ?_) AllReadyH.nil
  go_simp
  with_reducible refine (HX.out _).mono ?_
  rintro e11 w11 ⟨rfl, rfl⟩
  refine hK.out _ _ (by assumption) (fun _ => ?_)
  clear hK K
  try simp only [Act.put, List.setIfInBounds_toArray, List.set_cons_zero, List.set_cons_succ]
  refine wpAnyH_ready (rs := [33]) (by kernel_rfl) (by simp) ?_
  refine AllReadyH.cons (o := { dst := some 41, op := Op.call { callee := Callee.value (Operand.func 48), args := #[Operand.tmp 40], argTypes := #[55] }, type := 42, pos := "entry.go:59", after := #[{ on := 32, ground := Ground.data }, { on := 26, ground := Ground.chain }, { on := 24, ground := Ground.guard }], guard := some (24, true) }) rfl (fun K hK => ?_) AllReadyH.nil
  go_simp
  with_reducible refine (HC.out _).mono ?_
  rintro e5 w5 ⟨rfl, hb5⟩
  have hS5 := HKEEP.out _ ((below_drew1 (Below.refl _ _)).trans hb5)
  refine hK.out _ _ (by assumption) (fun _ => ?_)
  clear hK K
  try simp only [Act.put, List.setIfInBounds_toArray, List.set_cons_zero, List.set_cons_succ]
  refine wpAnyH_take (i := 34) (oi := { dst := some 42, op := Op.binOp BinOp.eql 42 (Operand.tmp 41) (Operand.const (Value.int IntKind.i64 0)) 42, type := 4, pos := "entry.go:56", after := #[{ on := 33, ground := Ground.data }, { on := 24, ground := Ground.guard }], guard := some (24, true) }) (v := ?_) rfl (by kernel_rfl) (by kernel_rfl) (by kernel_rfl) (fun _ _ _ h => h) (Or.inl ⟨by rfl, ?_⟩) (by assumption) ?_
  rotate_left
  · intro w9 hSw
    obtain ⟨s0, s1, s2, s3, s4, s5, s6, s7⟩ := hSw
    go_simp
    try with_reducible rfl
  try simp only [Act.put, List.setIfInBounds_toArray, List.set_cons_zero, List.set_cons_succ]
  refine wpAnyH_ready (rs := [35]) (by kernel_rfl) (by simp) ?_
  refine AllReadyH.cons (o := { dst := some 43, op := Op.call { callee := Callee.value (Operand.func 54), args := #[Operand.tmp 34, Operand.tmp 38, Operand.tmp 42], argTypes := #[4, 4, 4] }, type := 4, pos := "entry.go:59", after := #[{ on := 26, ground := Ground.data }, { on := 30, ground := Ground.data }, { on := 34, ground := Ground.data }, { on := 33, ground := Ground.chain }, { on := 24, ground := Ground.guard }], guard := some (24, true) }) rfl (fun K hK => ?_) AllReadyH.nil
  go_simp
  with_reducible refine (HR3.out _).mono ?_
  rintro e11 w11 ⟨rfl, rfl⟩
  refine hK.out _ _ (by assumption) (fun _ => ?_)
  clear hK K
  try simp only [Act.put, List.setIfInBounds_toArray, List.set_cons_zero, List.set_cons_succ]
  refine wpAnyH_take (i := 36) (oi := { dst := some 44, op := Op.pick (Operand.tmp 32) (Operand.tmp 43) (Operand.const (Value.bool false)), type := 4, pos := "entry.go:56", after := #[{ on := 24, ground := Ground.data }, { on := 35, ground := Ground.data }], guard := none }) (v := ?_) rfl (by kernel_rfl) (by kernel_rfl) (by kernel_rfl) (fun _ _ _ h => h) (Or.inl ⟨by rfl, ?_⟩) (by assumption) ?_
  rotate_left
  · intro w9 hSw
    obtain ⟨s0, s1, s2, s3, s4, s5, s6, s7⟩ := hSw
    go_simp
    try with_reducible rfl
  try simp only [Act.put, List.setIfInBounds_toArray, List.set_cons_zero, List.set_cons_succ]
  refine wpAnyH_take (i := 37) (oi := { dst := some 45, op := Op.move (Operand.tmp 44), type := 4, pos := "entry.go:56", after := #[{ on := 36, ground := Ground.data }, { on := 35, ground := Ground.chain }], guard := none }) (v := ?_) rfl (by kernel_rfl) (by kernel_rfl) (by kernel_rfl) (fun _ _ _ h => h) (Or.inl ⟨by rfl, ?_⟩) (by assumption) ?_
  rotate_left
  · intro w9 hSw
    obtain ⟨s0, s1, s2, s3, s4, s5, s6, s7⟩ := hSw
    go_simp
    try with_reducible rfl
  try simp only [Act.put, List.setIfInBounds_toArray, List.set_cons_zero, List.set_cons_succ]
  refine wpAnyH_take (i := 38) (oi := { dst := some 46, op := Op.move (Operand.tmp 3), type := 97, pos := "entry.go:56", after := #[{ on := 37, ground := Ground.guard }], guard := some (37, true) }) (v := _) rfl (by kernel_rfl) (by kernel_rfl) (by kernel_rfl) (fun _ _ _ h => h) (Or.inr ⟨by rfl, rfl⟩) (by assumption) ?_
  try simp only [Act.put, List.setIfInBounds_toArray, List.set_cons_zero, List.set_cons_succ]
  refine wpAnyH_take (i := 39) (oi := { dst := some 47, op := Op.call { callee := Callee.value (Operand.func 55), args := #[Operand.tmp 46, Operand.const (Value.int IntKind.u8 8)], argTypes := #[97, 97] }, type := 4, pos := "entry.go:60", after := #[{ on := 38, ground := Ground.data }, { on := 37, ground := Ground.chain }, { on := 37, ground := Ground.guard }], guard := some (37, true) }) (v := _) rfl (by kernel_rfl) (by kernel_rfl) (by kernel_rfl) (fun _ _ _ h => h) (Or.inr ⟨by rfl, rfl⟩) (by assumption) ?_
  try simp only [Act.put, List.setIfInBounds_toArray, List.set_cons_zero, List.set_cons_succ]
  refine wpAnyH_take (i := 40) (oi := { dst := some 48, op := Op.fieldAddr 57 (Operand.tmp 1) 4, type := 0, pos := "entry.go:56", after := #[{ on := 37, ground := Ground.guard }], guard := some (37, true) }) (v := _) rfl (by kernel_rfl) (by kernel_rfl) (by kernel_rfl) (fun _ _ _ h => h) (Or.inr ⟨by rfl, rfl⟩) (by assumption) ?_
  try simp only [Act.put, List.setIfInBounds_toArray, List.set_cons_zero, List.set_cons_succ]
  refine wpAnyH_take (i := 41) (oi := { dst := some 49, op := Op.load 22 (Operand.tmp 48), type := 22, pos := "entry.go:56", after := #[{ on := 40, ground := Ground.data }, { on := 37, ground := Ground.guard }], guard := some (37, true) }) (v := _) rfl (by kernel_rfl) (by kernel_rfl) (by kernel_rfl) (fun _ _ _ h => h) (Or.inr ⟨by rfl, rfl⟩) (by assumption) ?_
  try simp only [Act.put, List.setIfInBounds_toArray, List.set_cons_zero, List.set_cons_succ]
  refine wpAnyH_take (i := 42) (oi := { dst := some 50, op := Op.call { callee := Callee.builtin Builtin.len, args := #[Operand.tmp 49], argTypes := #[22] }, type := 3, pos := "entry.go:56", after := #[{ on := 41, ground := Ground.data }, { on := 37, ground := Ground.guard }], guard := some (37, true) }) (v := _) rfl (by kernel_rfl) (by kernel_rfl) (by kernel_rfl) (fun _ _ _ h => h) (Or.inr ⟨by rfl, rfl⟩) (by assumption) ?_
  try simp only [Act.put, List.setIfInBounds_toArray, List.set_cons_zero, List.set_cons_succ]
  refine wpAnyH_take (i := 43) (oi := { dst := some 51, op := Op.fieldAddr 57 (Operand.tmp 1) 5, type := 0, pos := "entry.go:56", after := #[{ on := 37, ground := Ground.guard }], guard := some (37, true) }) (v := _) rfl (by kernel_rfl) (by kernel_rfl) (by kernel_rfl) (fun _ _ _ h => h) (Or.inr ⟨by rfl, rfl⟩) (by assumption) ?_
  try simp only [Act.put, List.setIfInBounds_toArray, List.set_cons_zero, List.set_cons_succ]
  refine wpAnyH_take (i := 44) (oi := { dst := some 52, op := Op.load 23 (Operand.tmp 51), type := 23, pos := "entry.go:56", after := #[{ on := 43, ground := Ground.data }, { on := 37, ground := Ground.guard }], guard := some (37, true) }) (v := _) rfl (by kernel_rfl) (by kernel_rfl) (by kernel_rfl) (fun _ _ _ h => h) (Or.inr ⟨by rfl, rfl⟩) (by assumption) ?_
  try simp only [Act.put, List.setIfInBounds_toArray, List.set_cons_zero, List.set_cons_succ]
  refine wpAnyH_take (i := 45) (oi := { dst := some 53, op := Op.call { callee := Callee.builtin Builtin.len, args := #[Operand.tmp 52], argTypes := #[23] }, type := 3, pos := "entry.go:56", after := #[{ on := 44, ground := Ground.data }, { on := 37, ground := Ground.guard }], guard := some (37, true) }) (v := _) rfl (by kernel_rfl) (by kernel_rfl) (by kernel_rfl) (fun _ _ _ h => h) (Or.inr ⟨by rfl, rfl⟩) (by assumption) ?_
  try simp only [Act.put, List.setIfInBounds_toArray, List.set_cons_zero, List.set_cons_succ]
  refine wpAnyH_take (i := 46) (oi := { dst := some 54, op := Op.binOp BinOp.add 3 (Operand.tmp 50) (Operand.tmp 53) 3, type := 3, pos := "entry.go:56", after := #[{ on := 42, ground := Ground.data }, { on := 45, ground := Ground.data }, { on := 37, ground := Ground.guard }], guard := some (37, true) }) (v := _) rfl (by kernel_rfl) (by kernel_rfl) (by kernel_rfl) (fun _ _ _ h => h) (Or.inr ⟨by rfl, rfl⟩) (by assumption) ?_
  try simp only [Act.put, List.setIfInBounds_toArray, List.set_cons_zero, List.set_cons_succ]
  refine wpAnyH_take (i := 47) (oi := { dst := some 55, op := Op.binOp BinOp.eql 3 (Operand.tmp 54) (Operand.const (Value.int IntKind.i64 0)) 3, type := 4, pos := "entry.go:56", after := #[{ on := 46, ground := Ground.data }, { on := 37, ground := Ground.guard }], guard := some (37, true) }) (v := _) rfl (by kernel_rfl) (by kernel_rfl) (by kernel_rfl) (fun _ _ _ h => h) (Or.inr ⟨by rfl, rfl⟩) (by assumption) ?_
  try simp only [Act.put, List.setIfInBounds_toArray, List.set_cons_zero, List.set_cons_succ]
  refine wpAnyH_take (i := 48) (oi := { dst := some 56, op := Op.load 57 (Operand.tmp 1), type := 57, pos := "entry.go:56", after := #[{ on := 37, ground := Ground.guard }], guard := some (37, true) }) (v := _) rfl (by kernel_rfl) (by kernel_rfl) (by kernel_rfl) (fun _ _ _ h => h) (Or.inr ⟨by rfl, rfl⟩) (by assumption) ?_
  try simp only [Act.put, List.setIfInBounds_toArray, List.set_cons_zero, List.set_cons_succ]
  refine wpAnyH_take (i := 49) (oi := { dst := some 57, op := Op.call { callee := Callee.value (Operand.func 58), args := #[Operand.tmp 56], argTypes := #[57] }, type := 4, pos := "entry.go:60", after := #[{ on := 48, ground := Ground.data }, { on := 39, ground := Ground.chain }, { on := 37, ground := Ground.guard }], guard := some (37, true) }) (v := _) rfl (by kernel_rfl) (by kernel_rfl) (by kernel_rfl) (fun _ _ _ h => h) (Or.inr ⟨by rfl, rfl⟩) (by assumption) ?_
  try simp only [Act.put, List.setIfInBounds_toArray, List.set_cons_zero, List.set_cons_succ]
  refine wpAnyH_take (i := 50) (oi := { dst := some 58, op := Op.call { callee := Callee.value (Operand.func 54), args := #[Operand.tmp 47, Operand.tmp 55, Operand.tmp 57], argTypes := #[4, 4, 4] }, type := 4, pos := "entry.go:60", after := #[{ on := 39, ground := Ground.data }, { on := 47, ground := Ground.data }, { on := 49, ground := Ground.data }, { on := 49, ground := Ground.chain }, { on := 37, ground := Ground.guard }], guard := some (37, true) }) (v := _) rfl (by kernel_rfl) (by kernel_rfl) (by kernel_rfl) (fun _ _ _ h => h) (Or.inr ⟨by rfl, rfl⟩) (by assumption) ?_
  try simp only [Act.put, List.setIfInBounds_toArray, List.set_cons_zero, List.set_cons_succ]
  refine wpAnyH_take (i := 51) (oi := { dst := some 59, op := Op.pick (Operand.tmp 45) (Operand.tmp 58) (Operand.const (Value.bool false)), type := 4, pos := "entry.go:56", after := #[{ on := 37, ground := Ground.data }, { on := 50, ground := Ground.data }], guard := none }) (v := ?_) rfl (by kernel_rfl) (by kernel_rfl) (by kernel_rfl) (fun _ _ _ h => h) (Or.inl ⟨by rfl, ?_⟩) (by assumption) ?_
  rotate_left
  · intro w9 hSw
    obtain ⟨s0, s1, s2, s3, s4, s5, s6, s7⟩ := hSw
    go_simp
    try with_reducible rfl
  try simp only [Act.put, List.setIfInBounds_toArray, List.set_cons_zero, List.set_cons_succ]
  refine wpAnyH_take (i := 52) (oi := { dst := some 4, op := Op.assign (Operand.tmp 59), type := 4, pos := "entry.go:56", after := #[{ on := 51, ground := Ground.data }, { on := 50, ground := Ground.chain }, { on := 0, ground := Ground.phase }, { on := 1, ground := Ground.phase }, { on := 2, ground := Ground.phase }, { on := 3, ground := Ground.phase }, { on := 4, ground := Ground.phase }, { on := 5, ground := Ground.phase }, { on := 6, ground := Ground.phase }, { on := 7, ground := Ground.phase }, { on := 8, ground := Ground.phase }, { on := 9, ground := Ground.phase }, { on := 10, ground := Ground.phase }, { on := 11, ground := Ground.phase }, { on := 12, ground := Ground.phase }, { on := 13, ground := Ground.phase }, { on := 14, ground := Ground.phase }, { on := 15, ground := Ground.phase }, { on := 16, ground := Ground.phase }, { on := 17, ground := Ground.phase }, { on := 18, ground := Ground.phase }, { on := 19, ground := Ground.phase }, { on := 20, ground := Ground.phase }, { on := 21, ground := Ground.phase }, { on := 22, ground := Ground.phase }, { on := 23, ground := Ground.phase }, { on := 24, ground := Ground.phase }, { on := 25, ground := Ground.phase }, { on := 26, ground := Ground.phase }, { on := 27, ground := Ground.phase }, { on := 28, ground := Ground.phase }, { on := 29, ground := Ground.phase }, { on := 30, ground := Ground.phase }, { on := 31, ground := Ground.phase }, { on := 32, ground := Ground.phase }, { on := 33, ground := Ground.phase }, { on := 34, ground := Ground.phase }, { on := 35, ground := Ground.phase }, { on := 36, ground := Ground.phase }, { on := 37, ground := Ground.phase }, { on := 38, ground := Ground.phase }, { on := 39, ground := Ground.phase }, { on := 40, ground := Ground.phase }, { on := 41, ground := Ground.phase }, { on := 42, ground := Ground.phase }, { on := 43, ground := Ground.phase }, { on := 44, ground := Ground.phase }, { on := 45, ground := Ground.phase }, { on := 46, ground := Ground.phase }, { on := 47, ground := Ground.phase }, { on := 48, ground := Ground.phase }, { on := 49, ground := Ground.phase }, { on := 50, ground := Ground.phase }, { on := 51, ground := Ground.phase }], guard := none }) (v := ?_) rfl (by kernel_rfl) (by kernel_rfl) (by kernel_rfl) (fun _ _ _ h => h) (Or.inl ⟨by rfl, ?_⟩) (by assumption) ?_
  rotate_left
  · intro w9 hSw
    obtain ⟨s0, s1, s2, s3, s4, s5, s6, s7⟩ := hSw
    go_simp
    try with_reducible rfl
  try simp only [Act.put, List.setIfInBounds_toArray, List.set_cons_zero, List.set_cons_succ]
  refine wpAnyH_done (by kernel_rfl) ?_ _
  go_wp2_with fail
  go_ret
  exact ⟨rfl, (below_drew1 HB.out).trans (hb5.mono (below_drew1 HB.out).size)⟩

end Go.Proofs.YtpmafabphlejeaaGreat
/-
  The contract of entry.Check.
  Conditions: none but sizes.
-/
namespace Go.Proofs.YtpmafabphlejeaaGreat
open Go.RowKit
set_option linter.unusedVariables false

theorem echeck_any (x : EntC) (w : World) (h : ShowsE w x) (hc : Few x.cs) :
    Calls Tryz.prog 31 #[entV x] w fun e w' => e = .returned (.int .i64 (errE x.e)) ∧ Below w.heap.size w w' := by
  cases h0 : kindOK x.k with
  | false => exact echeck_1 x w h hc (.inl h0)
  | true =>
  cases h1 : tstName x.e with
  | false => exact echeck_1 x w h hc (.inr (.inl h1))
  | true =>
  cases h2 : tstNum x.e with
  | false => exact echeck_1 x w h hc (.inr (.inr h2))
  | true =>
  cases h3 : tstX x.e with
  | false => exact echeck_3 x w h hc h0 h1 h2 h3
  | true => exact echeck_2 x w h hc h0 h1 h2 h3

end Go.Proofs.YtpmafabphlejeaaGreat
