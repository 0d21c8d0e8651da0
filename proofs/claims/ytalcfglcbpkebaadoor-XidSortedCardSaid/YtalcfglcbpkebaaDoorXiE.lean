/-
  The contract of xid's Text.
  Conditions: none but sizes; the table of powers of ten reads as the library's own text lays it.
-/
import Derived.Test.YtalcfglcbpkebaaDoorXiD
namespace Go.Proofs.YtalcfglcbpkebaaDoor
open Go.RowKit
set_option linter.unusedVariables false
set_option linter.unusedSimpArgs false

theorem text_no (f : Nat) (g h : ByteArray) (w : World) (hm : ¬ mayX g h) (hg : g.size ≤ 140737488355328) (hh : h.size ≤ 140737488355328) :
    Calls Tryd.prog 19 #[xidV f g h] w fun e w' => e = .returned (.tuple #[.string ByteArray.empty, .int .i64 40]) ∧ Below w.heap.size w w' := by
  have hck := Lib.hid (fun w => check_no f g h w hm hg hh)
  unfold xidV at *
  clear hm
  go_enter Tryd.func19, Tryd.ntmps19
  go_wp2_with fail
  refine (hck.out _).mono ?_
  rintro e w1 ⟨rfl, hb1⟩
  go_wp2_with fail
  go_ret2
  exact ⟨rfl, (below_box w _).trans (hb1.mono (by simp))⟩

set_option maxHeartbeats 2000000 in
set_option maxRecDepth 100000 in
theorem text_ok (f : Nat) (g h : ByteArray) (w : World) (hm : mayX g h) (hf : f < 4294967296) (hT : Tab w) :
    Calls Tryd.prog 19 #[xidV f g h] w fun e w' => e = .returned (.tuple #[.string (str8 (textX f g h)), .int .i64 0]) ∧ Below w.heap.size w w' := by
  have hck := Lib.hid (fun w => check_ok f g h w hm)
  have hnum := Lib.hid (fun w (hT : Tab w) => appendUint_any f w (by omega) hT)
  obtain ⟨m1, m2, m3⟩ := hm
  have sD : (digD f).length ≤ 20 := digD_length 19 f (by simp; omega)
  have sG : (hexD (sb g)).length = 2 * g.size := by rw [hexD_length, sb_length]
  have hx1 := Lib.hid (fun base v l w (ho : Own 5 w base v l) (hl : l.length ≤ 1000) (hb : base ≤ w.heap.size) => appendHex_any base v l g w ho (by omega) hl hb)
  have hx2 := Lib.hid (fun base v l w (ho : Own 5 w base v l) (hl : l.length ≤ 1000) (hb : base ≤ w.heap.size) => appendHex_any base v l h w ho (by omega) hl hb)
  have HE := Lib.hid (show textX f g h = digD f ++ [46] ++ hexD (sb g) ++ [46] ++ hexD (sb h) from rfl)
  have wf : IntKind.u64.wrap (f : Int) = (f : Int) := by rw [IntKind.wrap_u64]; omega
  unfold xidV at *
  generalize textX f g h = T at *
  generalize digD f = D at *
  generalize hexD (sb g) = G at *
  generalize hexD (sb h) = H at *
  have SG := Lib.hid sG
  clear sG
  have HT := Lib.hid hT
  clear hT
  have HW := Lib.hid wf
  clear wf
  go_enter Tryd.func19, Tryd.ntmps19
  go_wp2_with fail
  refine (hck.out _).mono ?_
  rintro e w1 ⟨rfl, hb1⟩
  have hbx1 : Boxed w1 w.heap.size f g h := (Boxed.new w).below hb1 (by simp)
  have hw1 : Below w.heap.size w w1 := (below_box w _).trans (hb1.mono (by simp))
  have k0 := hbx1.c0
  have hT1 := Lib.hid (HT.out.below hw1)
  have wf := HW.out
  go_wp2_with fail
  refine (hnum.out _ hT1.out).mono ?_
  rintro e w2 ⟨v2, rfl, ho2, hb2⟩
  have hbx2 := hbx1.below hb2 hbx1.lt
  have hw2 := hw1.trans (hb2.mono hw1.size)
  have hlt : w.heap.size < w1.heap.size := hbx1.lt
  have hz2 := hb2.size
  generalize w1.heap.size = B at *
  clear hb2 hbx1 k0 hb1 wf hT1
  have k1 : w2.cell? ⟨w.heap.size, 1, none⟩ = _ := hbx2.c1
  have k1' : w2.drew.cell? ⟨w.heap.size, 1, none⟩ = _ := hbx2.c1
  have k1a : (w2.alloc (Obj.cells #[.int .u8 46] 5)).cell? ⟨w.heap.size, 1, none⟩ = _ := (hbx2.keep (w' := w2.alloc (Obj.cells #[.int .u8 46] 5)) (Below.heap_alloc w2 _ _ hbx2.lt)).c1
  have HO2 := Lib.hid (show ∀ o, Own 5 (w2.drew.alloc o) B v2 D from fun o => ho2.alloc8 o)
  go_wp2_with fail
  go_region_law (first
    | (refine step_append8 _ rfl (.tmp 15) (.tmp 16) 31 rfl B 5 Tryd.underlying31 info5 v2 D rfl (HO2.out _) w2.heap.size _ [46] rfl (Shows.lit (w := w2.drew) [46] (lit1 46 (by omega)) (by simp [maxLen])) (by simp; omega) (by simp; omega) ?_
       intro v3 w3 ho3 hg3
       have hbx3 : Boxed w3 w.heap.size f g h := hbx2.keep ((hg3.block _ (by simp; have := hbx2.lt; omega) (fun e => by have := (ho2.block _ e.symm).1; omega)).trans (Below.heap_alloc w2.drew _ _ hbx2.lt))
       have hz3 : w2.heap.size < w3.heap.size := by have := hg3.size; simp at this; omega
       have hw3 : Below w.heap.size w w3 := ((below_drew1 hw2).alloc hw2.size _).grown hg3 (by simp; omega) (fun q hq => by have := (ho2.block q hq).1; omega)
       have k3 := hbx3.c1)
    | (go_simp; go_at_call 36
       with_reducible refine (hx1.out B _ _ _ ho3 (by simp; omega) (by omega)).mono ?_
       rintro e w4 ⟨v4, rfl, ho4, hb4⟩
       have hbx4 : Boxed w4 w.heap.size f g h := hbx3.below hb4 (by omega)
       have hz4 := hb4.size
       have hw4 : Below w.heap.size w w4 := hw3.trans (hb4.mono (by omega))))
  all_goals
    clear HO2 k3 k1a k1' k1 hbx3 hbx2 hw3 hb4 hg3 ho3
    have hlt4 : w.heap.size < w4.heap.size := hbx4.lt
    have k2 : w4.cell? ⟨w.heap.size, 2, none⟩ = _ := hbx4.c2
    have k2' : w4.drew.cell? ⟨w.heap.size, 2, none⟩ = _ := hbx4.c2
    have k2a : (w4.alloc (Obj.cells #[.int .u8 46] 5)).cell? ⟨w.heap.size, 2, none⟩ = _ := (hbx4.keep (w' := w4.alloc (Obj.cells #[.int .u8 46] 5)) (Below.heap_alloc w4 _ _ hbx4.lt)).c2
    have HO4 := Lib.hid (show ∀ o, Own 5 (w4.drew.alloc o) B v4 (D ++ [46] ++ G) from fun o => ho4.alloc8 o)
    have hB4 : B ≤ w4.heap.size := by omega
    clear hz4 hz2
    go_wp2_with fail
    go_region_law (first
      | (refine step_append8 _ rfl (.tmp 21) (.tmp 22) 31 rfl B 5 Tryd.underlying31 info5 v4 (D ++ [46] ++ G) rfl (HO4.out _) w4.heap.size _ [46] rfl (Shows.lit (w := w4.drew) [46] (lit1 46 (by omega)) (by simp [maxLen])) (by have := SG.out; simp; omega) (by simp; omega) ?_
         intro v5 w5 ho5 hg5
         have hbx5 : Boxed w5 w.heap.size f g h := hbx4.keep ((hg5.block _ (by simp; omega) (fun e => by have := (ho4.block _ e.symm).1; omega)).trans (Below.heap_alloc w4.drew _ _ hbx4.lt))
         have hz5 : w4.heap.size < w5.heap.size := by have := hg5.size; simp at this; omega
         have hw5 : Below w.heap.size w w5 := ((below_drew1 hw4).alloc hw4.size _).grown hg5 (by simp; omega) (fun q hq => by have := (ho4.block q hq).1; omega)
         have k5 := hbx5.c2)
      | (go_simp; go_at_call 36
         with_reducible refine (hx2.out B _ _ _ ho5 (by have := SG.out; simp; omega) (by omega)).mono ?_
         rintro e w6 ⟨v6, rfl, ho6, hb6⟩
         have hz6 := hb6.size
         have hw6 : Below w.heap.size w w6 := hw5.trans (hb6.mono (by omega))))
    all_goals
      clear HO4 k5 k2a k2' k2 hbx5 hbx4 hw5 hb6 hg5 ho5 hz5
      rw [← HE.out] at ho6
      obtain ⟨gg, _, hsh⟩ := ho6.shows
      have hcv := conv_at hsh
      go_wp2_with fail
      go_ret2
      exact ⟨rfl, hw6⟩

end Go.Proofs.YtalcfglcbpkebaaDoor
