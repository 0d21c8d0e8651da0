/-
  The contract of xid's Put.
  Conditions: none but sizes.
-/
import Derived.Test.YtalcfglcbpkebaaDoorXiN
import Derived.Test.YtalcfglcbpkebaaDoorOctB
namespace Go.Proofs.YtalcfglcbpkebaaDoor
open Go.RowKit
set_option linter.unusedVariables false
set_option linter.unusedSimpArgs false

theorem be1 (n : Nat) : be 1 n = [UInt8.ofNat n] := by simp [be]

theorem put_no (f : Nat) (g h : ByteArray) (w : World) (hm : ¬ mayX g h) (hg : g.size ≤ 140737488355328) (hh : h.size ≤ 140737488355328) :
    Calls Tryd.prog 17 #[xidV f g h] w fun e w' => e = .returned (.tuple #[.slice none 0 0, .int .i64 40]) ∧ Below w.heap.size w w' := by
  have hck := Lib.hid (fun w => check_no f g h w hm hg hh)
  unfold xidV at *
  clear hm
  go_enter Tryd.func17, Tryd.ntmps17
  go_wp2_with fail
  refine (hck.out _).mono ?_
  rintro e w1 ⟨rfl, hb1⟩
  go_wp2_with fail
  go_ret2
  exact ⟨rfl, (below_box w _).trans (hb1.mono (by simp))⟩

set_option maxHeartbeats 2000000 in
set_option maxRecDepth 100000 in
theorem put_ok (f : Nat) (g h : ByteArray) (w : World) (hm : mayX g h) (hf : f < 4294967296) :
    Calls Tryd.prog 17 #[xidV f g h] w fun e w' => ∃ v, e = .returned (.tuple #[v, .int .i64 0]) ∧ Own 5 w' w.heap.size v (encX f g h) ∧ Below w.heap.size w w' := by
  have hck := Lib.hid (fun w => check_ok f g h w hm)
  obtain ⟨m1, m2, m3⟩ := hm
  have hput0 := fun w => put_any (.slice none 0 0) [] 0 f 4 w (Shows.nil_ _ _) (by simp)
  rw [List.nil_append, show wd 4 = 4 from rfl] at hput0
  have sF := be_length 4 f
  have hx1 := Lib.hid (fun v l d w (hv : Shows w d v l) (hl : l.length ≤ 1000) => putText_ok1 v l d g w hv (by omega) (by omega))
  have hx2 := Lib.hid (fun v l d w (hv : Shows w d v l) (hl : l.length ≤ 1000) => putText_ok1 v l d h w hv (by omega) (by omega))
  have HE := Lib.hid (show encX f g h = be 4 f ++ (be 1 g.size ++ sb g) ++ (be 1 h.size ++ sb h) by rw [be1, be1]; unfold encX; simp)
  have wf : IntKind.u64.wrap (f : Int) = (f : Int) := by rw [IntKind.wrap_u64]; omega
  unfold xidV at *
  generalize encX f g h = T at *
  generalize be 4 f = F at *
  have sG : (be 1 g.size ++ sb g).length ≤ 65 := by rw [be1]; simp [sb_length]; omega
  generalize be 1 g.size ++ sb g = G at *
  generalize be 1 h.size ++ sb h = H at *
  have HP := Lib.hid hput0
  have SF := Lib.hid sF
  clear hput0 sF
  go_enter Tryd.func17, Tryd.ntmps17
  go_wp2_with fail
  refine (hck.out _).mono ?_
  rintro e w1 ⟨rfl, hb1⟩
  have hbx1 : Boxed w1 w.heap.size f g h := (Boxed.new w).below hb1 (by simp)
  have hw1 : Below w.heap.size w w1 := (below_box w _).trans (hb1.mono (by simp))
  have hz1 : w.heap.size < w1.heap.size := hbx1.lt
  have k0 : w1.drew.cell? ⟨w.heap.size, 0, none⟩ = _ := hbx1.c0
  have k1 : w1.drew.cell? ⟨w.heap.size, 1, none⟩ = _ := hbx1.c1
  have k0' : w1.cell? ⟨w.heap.size, 0, none⟩ = _ := hbx1.c0
  have k1' : w1.cell? ⟨w.heap.size, 1, none⟩ = _ := hbx1.c1
  clear hb1
  go_wp2_with fail
  go_region_law (first
    | (go_simp; go_at_call 33
       with_reducible refine (HP.out _).mono ?_
       rintro e w2 ⟨v2, rfl, ho2, hb2⟩
       have hb2' : Below w1.heap.size w1 w2 := (below_drew1 (Below.refl _ _)).trans hb2
       have hbx2 : Boxed w2 w.heap.size f g h := hbx1.below hb2' hz1
       have k21 := hbx2.c1
       have hw2 : Below w.heap.size w w2 := hw1.trans (hb2'.mono hw1.size)
       obtain ⟨q2, _, sh2⟩ := ho2.shows)
    | (go_simp; go_at_call 32
       with_reducible refine (hx1.out _ _ _ _ sh2 (by rw [SF.out]; omega)).mono ?_
       rintro e w3 ⟨v3, rfl, ho3, hb3⟩
       have hbx3 : Boxed w3 w.heap.size f g h := hbx2.below hb3 hbx2.lt
       have k32 := hbx3.c2
       have hw3 : Below w.heap.size w w3 := hw2.trans (hb3.mono hw2.size)
       obtain ⟨q3, _, sh3⟩ := ho3.shows))
  all_goals
    go_wp2_with fail
    refine (hx2.out _ _ _ _ sh3 (by rw [List.length_append, SF.out]; omega)).mono ?_
    rintro e w4 ⟨v4, rfl, ho4, hb4⟩
    have hw4 : Below w.heap.size w w4 := hw3.trans (hb4.mono hw3.size)
    go_wp2_with fail
    go_ret2
    exact ⟨_, rfl, by rw [HE.out]; exact ho4.mono hw3.size, hw4⟩

end Go.Proofs.YtalcfglcbpkebaaDoor
