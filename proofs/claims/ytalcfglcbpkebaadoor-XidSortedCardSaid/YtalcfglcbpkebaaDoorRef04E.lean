/-
  The contract of the document's Text of names.
  Conditions: none but sizes.
-/
import Derived.Test.YtalcfglcbpkebaaDoorRef04D
import Derived.Deep.RegionLaw
import Derived.Laws.BitsAllLaws
namespace Go.Proofs.YtalcfglcbpkebaaDoor
open Go.RowKit
set_option linter.unusedVariables false
set_option linter.unusedSimpArgs false

/-- A name's text. -/
def textX (f : Nat) (g h : ByteArray) : List UInt8 := digD f ++ [46] ++ hexD (sb g) ++ [46] ++ hexD (sb h)

theorem qtextX_no (f : Nat) (g h : ByteArray) (w : World) (hm : ¬ mayX g h) (hg : g.size ≤ 140737488355328) (hh : h.size ≤ 140737488355328) :
    Calls Tryd.prog 20 #[xidV f g h] w fun e w' => e = .returned (.tuple #[.string ByteArray.empty, .int .i64 40]) ∧ Below w.heap.size w w' := by
  have hck := Lib.hid (fun w => qcheck_no f g h w hm hg hh)
  unfold xidV at *
  clear hm
  go_enter Tryd.func20, Tryd.ntmps20
  go_wp2_with fail
  refine (hck.out _).mono ?_
  rintro e w1 ⟨rfl, hb1⟩
  go_wp2_with fail
  go_ret2
  exact ⟨rfl, (below_box w _).trans (hb1.mono (by simp))⟩

set_option maxHeartbeats 2000000 in
theorem qtextX_ok (f : Nat) (g h : ByteArray) (w : World) (hm : mayX g h) (hf : f < 4294967296) :
    Calls Tryd.prog 20 #[xidV f g h] w fun e w' => e = .returned (.tuple #[.string (str8 (textX f g h)), .int .i64 0]) ∧ Below w.heap.size w w' := by
  have hck := Lib.hid (fun w => qcheck_ok f g h w hm)
  have hdig : ∀ w, Calls Tryd.prog 37 #[.int .u64 (IntKind.u64.wrap (f : Int))] w fun e w' => e = .returned (.string (str8 (digD f))) ∧ Below w.heap.size w w' := fun w => by
    rw [show IntKind.u64.wrap (f : Int) = (f : Int) by rw [IntKind.wrap_u64]; omega]
    exact qdigits_any f w (by omega)
  obtain ⟨m1, m2, m3⟩ := hm
  have hxg := fun w => qhex_any g w (by omega)
  have hxh := fun w => qhex_any h w (by omega)
  have sD : (str8 (digD f)).size ≤ 20 := by rw [str8_size]; exact digD_length 19 f (by simp; omega)
  have sG : (str8 (hexD (sb g))).size ≤ 128 := by rw [str8_size, hexD_length, sb_length]; omega
  have sH : (str8 (hexD (sb h))).size ≤ 128 := by rw [str8_size, hexD_length, sb_length]; omega
  have hE : str8 (textX f g h) = str8 (digD f) ++ { data := #[46] } ++ str8 (hexD (sb g)) ++ { data := #[46] } ++ str8 (hexD (sb h)) := by
    unfold textX
    rw [← str8_append, ← str8_append, ← str8_append, ← str8_append]
    rfl
  have HE := Lib.hid hE
  clear hE
  unfold xidV at *
  generalize str8 (digD f) = D at *
  generalize str8 (hexD (sb g)) = G at *
  generalize str8 (hexD (sb h)) = H at *
  have z1 : ¬ 9223372036854775807 < D.size + 1 := by omega
  have z2 : ¬ 9223372036854775807 < D.size + 1 + G.size := by omega
  have z3 : ¬ 9223372036854775807 < D.size + 1 + G.size + 1 := by omega
  have z4 : ¬ 9223372036854775807 < D.size + 1 + G.size + 1 + H.size := by omega
  have HD := Lib.hid hdig
  have HG := Lib.hid hxg
  have HH := Lib.hid hxh
  clear hdig hxg hxh
  go_enter Tryd.func20, Tryd.ntmps20
  go_wp2_with fail
  refine (hck.out _).mono ?_
  rintro e w1 ⟨rfl, hb1⟩
  have hbx1 : Boxed w1 w.heap.size f g h := (Boxed.new w).below hb1 (by simp)
  have hw1 : Below w.heap.size w w1 := (below_box w _).trans (hb1.mono (by simp))
  have k0 : w1.drew.cell? ⟨w.heap.size, 0, none⟩ = _ := hbx1.c0
  have k1 : w1.drew.cell? ⟨w.heap.size, 1, none⟩ = _ := hbx1.c1
  have k2 : w1.drew.cell? ⟨w.heap.size, 2, none⟩ = _ := hbx1.c2
  have hz1 : w.heap.size < w1.heap.size := hbx1.lt
  clear hb1
  go_wp2_with fail
  go_region_law (first
    | (go_simp; go_at_call 37
       with_reducible refine (HD.out _).mono ?_
       rintro e wa ⟨rfl, hba⟩
       have hba' : Below w1.heap.size w1 wa := (below_drew1 (Below.refl _ _)).trans hba
       have hbxa : Boxed wa w.heap.size f g h := hbx1.below hba' hz1
       have ka1 := hbxa.c1
       have ka2 := hbxa.c2
       have hwa : Below w.heap.size w wa := hw1.trans (hba'.mono hw1.size))
    | (go_simp; go_at_call 38
       with_reducible refine (HG.out _).mono ?_
       rintro e wb ⟨rfl, hbb⟩
       have hbxb : Boxed wb w.heap.size f g h := hbxa.below hbb hbxa.lt
       have kb2 := hbxb.c2
       have hwb : Below w.heap.size w wb := hwa.trans (hbb.mono hwa.size))
    | (go_simp; go_at_call 38
       with_reducible refine (HH.out _).mono ?_
       rintro e wc ⟨rfl, hbc⟩
       have hwc : Below w.heap.size w wc := hwb.trans (hbc.mono hwb.size)))
  all_goals
    go_wp2_with fail
    go_ret2
    exact ⟨by rw [HE.out]; rfl, hwc⟩

end Go.Proofs.YtalcfglcbpkebaaDoor
