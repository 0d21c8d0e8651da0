/-
  The contracts of a reading's takeHex.
  Conditions: none but sizes.
-/
import Derived.Test.YtalcfglcbpkebaaDoorXiH
namespace Go.Proofs.YtalcfglcbpkebaaDoor
open Go.RowKit
set_option linter.unusedVariables false
set_option linter.unusedSimpArgs false

theorem hex_no {w : World} {b p s f h : Nat} {gv bv : Value} (hb : Rd w b p s f h gv bv) (r i : Nat) (hr : r ≤ 2147483647) (hn : ¬ numD r < 16) :
    Calls Tryd.prog 77 #[.pointer (some ⟨b, 0, none⟩), .int .i32 r, .pointer (some ⟨b, i, none⟩)] w fun e w' => e = .returned (.bool false) ∧ Below w.heap.size w w' := by
  have hi0 := indexHex_any r w hr
  rw [show hexI r = -1 by unfold hexI; rw [if_neg hn]] at hi0
  have hi := Lib.hid hi0
  clear hi0 hn
  go_enter Tryd.func77, Tryd.ntmps77
  go_wp2_with fail
  refine hi.out.mono ?_
  rintro e w1 ⟨rfl, hb1⟩
  go_wp2_with fail
  go_ret
  exact ⟨rfl, hb1⟩

theorem hex_first {w : World} {b p s f h : Nat} {gv bv : Value} (hb : Rd w b p s f h gv bv) (r i : Nat) (hr : r ≤ 2147483647) (hs : s < 140737488355328) (hn : numD r < 16) (hh : halfB p (s + 1) = true) :
    Calls Tryd.prog 77 #[.pointer (some ⟨b, 0, none⟩), .int .i32 r, .pointer (some ⟨b, i, none⟩)] w fun e w' => e = .returned (.bool true) ∧
      ∃ w1, Below w.heap.size w w1 ∧ w' = (w1.setCell ⟨b, 1, none⟩ (.int .i64 (s + 1 : Nat))).setCell ⟨b, 3, none⟩ (.int .u8 (numD r)) := by
  have hi0 := indexHex_any r w hr
  rw [show hexI r = (numD r : Nat) by unfold hexI; rw [if_pos hn]] at hi0
  generalize numD r = v at *
  have hi := Lib.hid hi0
  have HH := Lib.hid hh
  have hvi : (v : Int) < 16 := by omega
  have w1' : IntKind.u8.wrap (v : Int) = (v : Int) := by rw [IntKind.wrap_u8]; omega
  clear hi0 hh
  go_enter Tryd.func77, Tryd.ntmps77
  go_wp2_with fail
  refine hi.out.mono ?_
  rintro e w1 ⟨rfl, hb1⟩
  have hR := hb.keep (hb1.block b hb.lt)
  have k1 := hR.c1
  have f1 := hR.froz 1
  go_wp2_with fail
  obtain ⟨W, hW⟩ : ∃ W, W = w1.setCell ⟨b, 1, none⟩ (.int .i64 (s + 1 : Nat)) := ⟨_, rfl⟩
  have hR2 : Rd W b p (s + 1) f h gv bv := by rw [hW]; exact hR.set1 (s + 1)
  have hh0 := half_any hR2 (by omega)
  rw [HH.out] at hh0
  have hh := Lib.hid hh0
  have f3 := hR2.froz 3
  have k3 := hR2.c3
  have hcast : ((s + 1 : Nat) : Int) = (s : Int) + 1 := by omega
  rw [hcast] at hW
  rw [← hW]
  have HW := Lib.hid hW
  clear hh0 hcast hW
  refine hh.out.mono ?_
  rintro e w2 ⟨rfl, rfl⟩
  go_wp2_with fail
  go_ret
  exact ⟨rfl, w1, hb1, by rw [HW.out]; rfl⟩

theorem Rd.at_ {w : World} {b p s f h i : Nat} {gv bv v : Value} (hb : Rd w b p s f h gv bv) (hi : i = 4 ∧ v = gv ∨ i = 5 ∧ v = bv) : w.cell? ⟨b, i, none⟩ = some v := by
  rcases hi with ⟨rfl, rfl⟩ | ⟨rfl, rfl⟩
  · exact hb.c4
  · exact hb.c5

/-- What a call leaves of the world that writes block b and a row of its own. -/
structure Chg (b : Nat) (row : Option Nat) (w w' : World) : Prop where
  os : w'.os = w.os
  tape : w'.tape = w.tape
  output : w'.output = w.output
  size : w.heap.size ≤ w'.heap.size
  block : ∀ k, k < w.heap.size → k ≠ b → row ≠ some k → w'.heap[k]? = w.heap[k]?

set_option maxRecDepth 100000 in
set_option maxHeartbeats 1000000 in
theorem hex_second {w : World} {b p s f h : Nat} {gv bv : Value} (hb : Rd w b p s f h gv bv) (r i B0 : Nat) (v : Value) (l : List UInt8) (hr : r ≤ 2147483647) (hs : s < 140737488355328) (hh16 : h < 16) (hn : numD r < 16) (hh : halfB p (s + 1) = false)
    (hi : i = 4 ∧ v = gv ∨ i = 5 ∧ v = bv) (ho : Own 5 w B0 v l) (hl : l.length ≤ 1000) (hbB : b < B0) (hBw : B0 ≤ w.heap.size) :
    Calls Tryd.prog 77 #[.pointer (some ⟨b, 0, none⟩), .int .i32 r, .pointer (some ⟨b, i, none⟩)] w fun e w' => e = .returned (.bool (decide (l.length + 1 ≤ 64))) ∧
      ∃ v', Own 5 w' B0 v' (l ++ [UInt8.ofNat (h * 16 + numD r)]) ∧ (i = 4 → Rd w' b p (s + 1) f h v' bv) ∧ (i = 5 → Rd w' b p (s + 1) f h gv v') ∧ Chg b v.ownBlock w w' := by
  have hi0 := indexHex_any r w hr
  rw [show hexI r = (numD r : Nat) by unfold hexI; rw [if_pos hn]] at hi0
  generalize numD r = x at *
  have hir := Lib.hid hi0
  have HH := Lib.hid hh
  have hvi : (x : Int) < 16 := by omega
  have q1 : IntKind.u8.wrap (x : Int) = (x : Int) := by rw [IntKind.wrap_u8]; omega
  clear hi0 hh
  go_enter Tryd.func77, Tryd.ntmps77
  go_wp2_with fail
  refine hir.out.mono ?_
  rintro e w1 ⟨rfl, hb1⟩
  have hR := hb.keep (hb1.block b hb.lt)
  have ho1 : Own 5 w1 B0 v l := ho.keep fun g hg => hb1.block g (ho.block g hg).2
  have k1 := hR.c1
  have f1 := hR.froz 1
  go_wp2_with fail
  obtain ⟨W, hW⟩ : ∃ W, W = w1.setCell ⟨b, 1, none⟩ (.int .i64 (s + 1 : Nat)) := ⟨_, rfl⟩
  have hR2 : Rd W b p (s + 1) f h gv bv := by rw [hW]; exact hR.set1 (s + 1)
  have ho2 : Own 5 W B0 v l := ho1.keep fun g hg => by rw [hW]; exact heap_setCell_other w1 ⟨b, 1, none⟩ g _ (by have := (ho1.block g hg).1; simp; omega)
  have hc2 : Chg b none w W := by
    rw [hW]
    exact ⟨hb1.os, hb1.tape, hb1.output, by simpa using hb1.size, fun k hk hn _ => (heap_setCell_other w1 ⟨b, 1, none⟩ k _ hn).trans (hb1.block k hk)⟩
  have hh0 := half_any hR2 (by omega)
  rw [HH.out] at hh0
  have hh := Lib.hid hh0
  have hcast : ((s + 1 : Nat) : Int) = (s : Int) + 1 := by omega
  rw [hcast] at hW
  rw [← hW]
  clear hh0 hcast hW hR ho1 k1 f1 hb1 w1
  refine hh.out.mono ?_
  rintro e w2 ⟨rfl, rfl⟩
  have k3 := hR2.c3
  have ki : W.cell? ⟨b, i, none⟩ = some v := hR2.at_ hi
  have kia : ∀ o, (W.alloc o).cell? ⟨b, i, none⟩ = some v := fun o => (World.cell?_of_block (w := W) (Below.heap_alloc W o _ hR2.lt)).trans ki
  have q2 : IntKind.u8.wrap ((h : Int) * 16) = (h : Int) * 16 := by rw [IntKind.wrap_u8]; omega
  have q3 : IntKind.u8.wrap ((h : Int) * 16 + (x : Int)) = (h : Int) * 16 + (x : Int) := by rw [IntKind.wrap_u8]; omega
  obtain ⟨dx, hdx⟩ : ∃ dx, dx = UInt8.ofNat (h * 16 + x) := ⟨_, rfl⟩
  have hlit : (#[Value.int IntKind.u8 ((h : Int) * 16 + (x : Int))] : Array Value) = (bs [dx]).toArray := by
    rw [hdx, ← lit1 _ (by omega)]; simp
  have HLI := Lib.hid hlit
  have HDX := Lib.hid hdx
  clear hlit hdx
  have HO := Lib.hid (show ∀ o, Own 5 ((W.alloc o).drew) B0 v l from fun o => ho2.alloc8 o)
  have HI := Lib.hid hi
  clear hi
  go_wp2_with fail
  go_region_law
    (refine step_append8 _ rfl (.tmp 29) (.tmp 38) 31 rfl B0 5 Tryd.underlying31 info5 v l rfl (HO.out _) W.heap.size _ [dx] rfl (Shows.lit (w := W.drew) [dx] HLI.out (by simp [maxLen])) (by simp; omega) (by have := hR2.lt; have := hc2.size; simp; omega) ?_
     intro v6 w6 ho6 hg6
     obtain ⟨A6, c6, rfl, _, _⟩ := ho6.form
     have hR6 : Rd w6 b p (s + 1) f h gv bv := hR2.keep ((hg6.block _ (by have := hR2.lt; simp; omega) (fun e => by have := (ho2.block _ e.symm).1; omega)).trans (Below.heap_alloc W.drew _ _ hR2.lt))
     have ki6 : w6.cell? ⟨b, i, none⟩ = some v := hR6.at_ HI.out
     have fi6 := hR6.froz i)
  all_goals
    have hz6 := hg6.size
    have ho7 : Own 5 (w6.setCell ⟨b, i, none⟩ (.slice A6 (l ++ [dx]).length c6)) B0 (.slice A6 (l ++ [dx]).length c6) (l ++ [dx]) :=
      ho6.keep fun g hg => heap_setCell_other w6 ⟨b, i, none⟩ g _ (by have := (ho6.block g hg).1; simp; omega)
    have hR7 : (i = 4 → Rd (w6.setCell ⟨b, i, none⟩ (.slice A6 (l ++ [dx]).length c6)) b p (s + 1) f h (.slice A6 (l ++ [dx]).length c6) bv) := fun e => by subst e; exact hR6.set4 _
    have hR8 : (i = 5 → Rd (w6.setCell ⟨b, i, none⟩ (.slice A6 (l ++ [dx]).length c6)) b p (s + 1) f h gv (.slice A6 (l ++ [dx]).length c6)) := fun e => by subst e; exact hR6.set5 _
    have hc7 : Chg b v.ownBlock w (w6.setCell ⟨b, i, none⟩ (.slice A6 (l ++ [dx]).length c6)) :=
      ⟨hg6.os.trans hc2.os, hg6.tape.trans hc2.tape, hg6.output.trans hc2.output, by have := hc2.size; simp at hz6 ⊢; omega, fun k hk hn hr =>
        (heap_setCell_other w6 ⟨b, i, none⟩ k _ hn).trans ((hg6.block k (by have := hc2.size; simp; omega) (fun e => hr e.symm)).trans ((Below.heap_alloc W _ k (by have := hc2.size; omega)).trans (hc2.block k hk hn (by simp))))⟩
    have hans : decide ((l.length : Int) + 1 ≤ 64) = decide (l.length + 1 ≤ 64) := by rw [Bool.eq_iff_iff]; simp; omega
    have HANS := Lib.hid hans
    rw [List.length_append, List.length_singleton] at ho7 hR7 hR8 hc7
    have HEND := Lib.hid (And.intro ho7 (And.intro hR7 (And.intro hR8 hc7)))
    clear ho7 hR7 hR8 hc7 hans hz6 hg6 kia k3 ki
    go_wp2_with fail
    go_ret
    refine ⟨?_, _, by rw [← HDX.out]; exact HEND.out.1, HEND.out.2.1, HEND.out.2.2.1, HEND.out.2.2.2⟩
    rw [← HANS.out]
    rfl

end Go.Proofs.YtalcfglcbpkebaaDoor
