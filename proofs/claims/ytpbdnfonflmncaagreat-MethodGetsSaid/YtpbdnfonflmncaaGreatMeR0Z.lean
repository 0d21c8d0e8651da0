/-
  Texts, together: MeR0, MeRTransG, MeRTransB, MeRSetG, MeRSetB, MeRTypG, MeRTypB, MeR.
  Conditions: none but sizes.
-/
import Derived.Test.YtpbdnfonflmncaaGreatMeQZ
set_option linter.unusedVariables false
set_option linter.unusedSimpArgs false
namespace Go.Proofs.YtpbdnfonflmncaaGreat
open Go.RowKit
theorem shows_xid (w : World) (d f : Nat) (g h : ByteArray) (hf : f < 4294967296) (hg : g.size ≤ 140737488351232) (hh : h.size ≤ 140737488351232) : ShowsA w { zA with f := f, g := g, h := h } none 0 d (.int .u8 (0 : Nat)) (.int .u64 (0 : Nat)) (.string ⟨#[]⟩) (.slice none 0 0) (.slice none 0 0) :=
 ⟨⟨by show (0 : Nat) < _; decide, hf, fun s hs => (by cases hs), by show (⟨#[]⟩ : ByteArray).size ≤ _; decide, hg, hh, by show (0 : Nat) ≤ _; omega⟩, ShowsG.nil_ _ _ _, shows_zT w⟩
theorem shows_set (w : World) (d : Nat) (A : Option Addr) (c : Nat) (q : List Sp) (hs : ShowsG spanC w d (.slice A q.length c) q) (hu : u32s q) (hq : q.length ≤ 1000) : ShowsA w { zA with q := q } A c d (.int .u8 (0 : Nat)) (.int .u64 (0 : Nat)) (.string ⟨#[]⟩) (.slice none 0 0) (.slice none 0 0) :=
 ⟨⟨by show (0 : Nat) < _; decide, by show (0 : Nat) < _; decide, hu, by show (⟨#[]⟩ : ByteArray).size ≤ _; decide, by show (⟨#[]⟩ : ByteArray).size ≤ _; decide, by show (⟨#[]⟩ : ByteArray).size ≤ _; decide, by show q.length ≤ _; omega⟩, hs, shows_zT w⟩
theorem shows_val (w : World) (d : Nat) (t : Tree) (v0 v1 v2 v3 v4 : Value) (h : ShowsT w t [v0, v1, v2, v3, v4]) : ShowsA w { zA with v := t } none 0 d v0 v1 v2 v3 v4 :=
 ⟨⟨by show (0 : Nat) < _; decide, by show (0 : Nat) < _; decide, fun s hs => (by cases hs), by show (⟨#[]⟩ : ByteArray).size ≤ _; decide, by show (⟨#[]⟩ : ByteArray).size ≤ _; decide, by show (⟨#[]⟩ : ByteArray).size ≤ _; decide, by show (0 : Nat) ≤ _; omega⟩, ShowsG.nil_ _ _ _, h⟩
set_option maxRecDepth 100000 in
set_option maxHeartbeats 4000000 in
theorem trans_good (b d : Nat) (l : List UInt8) (q : Int) (w : World) (h : RM w b d (some l)) (hl : lenS (some l) ≤ 140737488351232)
  (f : Nat) (g h' : List UInt8) (n : Nat) (hg : getD l = some (f, g, h', n)) (hm : mayX (str8 g) (str8 h')) :
  Calls Tryz.prog 86 #[.pointer (some ⟨b, 0, none⟩), .int .i64 q] w (DecSaid b d w ({ zA with f := f, g := str8 g, h := str8 h' }, some (l.drop n))) := by
 have hb0 : Below w.heap.size w (w.alloc (Obj.cells #[.bool false, .int .u64 0, .string ⟨#[]⟩, .int .u32 0, .string ⟨#[]⟩, .string ⟨#[]⟩, .slice none 0 0, .int .u8 0, .int .u64 0, .string ⟨#[]⟩, .slice none 0 0, .slice none 0 0] 52)) := below_box w _
 have hX := BoxG.zero w
 have hR := h.below hb0
 have hs0 : (w.alloc (Obj.cells #[.bool false, .int .u64 0, .string ⟨#[]⟩, .int .u32 0, .string ⟨#[]⟩, .string ⟨#[]⟩, .slice none 0 0, .int .u8 0, .int .u64 0, .string ⟨#[]⟩, .slice none 0 0, .slice none 0 0] 52)).heap.size = w.heap.size + 1 := by simp
 generalize hW : w.alloc (Obj.cells #[.bool false, .int .u64 0, .string ⟨#[]⟩, .int .u32 0, .string ⟨#[]⟩, .string ⟨#[]⟩, .slice none 0 0, .int .u8 0, .int .u64 0, .string ⟨#[]⟩, .slice none 0 0, .slice none 0 0] 52) = W at *
 have HW := Lib.hid hW
 have hlt := h.lt
 have HX := Lib.hid (And.intro hX (And.intro hR hb0))
 clear hX hR hb0 hW h
 obtain ⟨A, c, x, hrow, hsh⟩ := HX.out.2.1.list
 have hll : ((some l) : St).getD [] = l := rfl
 have hc0 : W.cell? ⟨b, 0, none⟩ = some (.slice A (((some l) : St).getD []).length c) := cell_of_row W b 0 _ 76 (0, 0) hrow
 have hlen : (((some l) : St).getD []).length ≤ 140737488351232 := by simpa [lenS] using hl
 simp only [Option.getD_some] at hc0 hlen hsh hrow
 clear hll
 have hso := getD_sound hg hm
 have HC := Lib.hid (xget_good (.slice A l.length c) d l (by omega) f g h' n hg hm W hsh)
 have hz := hm
 rw [show mayX (str8 g) (str8 h') = (1 ≤ (str8 g).size ∧ (str8 g).size ≤ 64 ∧ (str8 h').size ≤ 64) from rfl] at hz
 obtain ⟨hf32, _, hnl⟩ := hso
 clear hg hm
 generalize str8 g = G at *
 generalize str8 h' = H at *
 clear hrow hsh hlen
 go_enter Tryz.func86, Tryz.ntmps86
 go_upto_region 1 with fail
 rw [HW.out]
 go_wp2_with fail
 refine HC.out.mono ?_
 rintro e w1 ⟨rfl, hb1⟩
 have hX1 := HX.out.1.kept hb1 (Nat.le_refl _)
 have hR1 := HX.out.2.1.below hb1
 have hB1 : Below w.heap.size w w1 := HX.out.2.2.trans (hb1.mono (by omega))
 have hbA : Below w1.heap.size w1 (w1.alloc (Obj.cells #[.int .u32 f, .string G, .string H] 44)) := below_box w1 _
 have hnew : (w1.alloc (Obj.cells #[.int .u32 f, .string G, .string H] 44)).heap[w1.heap.size]? = some (.cells #[.int .u32 f, .string G, .string H] 44 (0, 0)) := heap_alloc_new w1 _
 have hs1 := hb1.size
 have hX2 := hX1.kept hbA (Nat.le_refl _)
 have hR2 := hR1.below hbA
 have hB2 : Below w.heap.size w (w1.alloc (Obj.cells #[.int .u32 f, .string G, .string H] 44)) := hB1.trans (hbA.mono hB1.size)
 have HPS := Lib.hid (pass_yes b d l n (w1.alloc (Obj.cells #[.int .u32 f, .string G, .string H] 44)) hR2 hnl (by simp only [lenS] at hl; omega))
 have HP2 := Lib.hid (And.intro hR2 (And.intro hX2 (show Frm2 b b w _ from frm_below hB2)))
 have HNEW := Lib.hid hnew
 clear hnew hbA
 clear hR2 hX2 hB2 hX1 hR1 hB1 hb1
 go_wp2_with fail
 refine HPS.out.mono ?_
 rintro e w4 ⟨rfl, hRx, hF4⟩
 have hXx : BoxG w4 w.heap.size zA (.slice none 0 0) (.int .u8 (0 : Nat)) (.int .u64 (0 : Nat)) (.string ⟨#[]⟩) (.slice none 0 0) (.slice none 0 0) := (hF4.block _ HP2.out.2.1.lt (by omega) (by omega)).trans HP2.out.2.1
 have hFx : Frm2 b b w w4 := HP2.out.2.2.trans hF4
 have hn4 := (hF4.block w1.heap.size (Array.getElem?_eq_some_iff.1 HNEW.out).1 (by omega) (by omega)).trans HNEW.out
 have n0 := cell_of_row w4 w1.heap.size 0 _ 44 (0, 0) hn4
 have n1 := cell_of_row w4 w1.heap.size 1 _ 44 (0, 0) hn4
 have n2 := cell_of_row w4 w1.heap.size 2 _ 44 (0, 0) hn4
 simp at n0 n1 n2
 clear hn4
 have f0 := hXx.fr 0
 have f1 := hXx.fr 1
 have f2 := hXx.fr 2
 have f3 := hXx.fr 3
 have f4 := hXx.fr 4
 have f5 := hXx.fr 5
 have f6 := hXx.fr 6
 have f7 := hXx.fr 7
 have f8 := hXx.fr 8
 have f9 := hXx.fr 9
 have f10 := hXx.fr 10
 have f11 := hXx.fr 11
 obtain ⟨⟨p0, p1, p2⟩, ⟨p3, p4, p5⟩, p6, p7, p8, p9, p10, p11⟩ := hXx.cells
 obtain ⟨hb12, hsaid⟩ := dec_end (a := { zA with f := f, g := G, h := H }) (A := none) (c := 0) (dq := 0) rfl hlt hXx hFx hRx (shows_xid _ 0 f G H hf32 (by omega) (by omega))
 have HE := Lib.hid (And.intro hb12 hsaid)
 clear hb12 hsaid hXx hFx hRx
 go_wp2_with fail
 exact bodyPost_ret (results_cell_row rfl _ _ w.heap.size 52 _ (0, 0) _ rfl HE.out.1 Tryz.underlying52 rfl (by kernel_rfl)) rfl HE.out.2
set_option maxRecDepth 100000 in
set_option maxHeartbeats 4000000 in
theorem trans_bad (b d : Nat) (s : St) (q : Int) (w : World) (h : RM w b d s) (hl : lenS s ≤ 140737488351232)
  (hn : ∀ f g h n, getD (s.getD []) = some (f, g, h, n) → ¬ mayX (str8 g) (str8 h)) :
  Calls Tryz.prog 86 #[.pointer (some ⟨b, 0, none⟩), .int .i64 q] w (DecSaid b d w (zA, none)) := by
 have hb0 : Below w.heap.size w (w.alloc (Obj.cells #[.bool false, .int .u64 0, .string ⟨#[]⟩, .int .u32 0, .string ⟨#[]⟩, .string ⟨#[]⟩, .slice none 0 0, .int .u8 0, .int .u64 0, .string ⟨#[]⟩, .slice none 0 0, .slice none 0 0] 52)) := below_box w _
 have hX := BoxG.zero w
 have hR := h.below hb0
 have hs0 : (w.alloc (Obj.cells #[.bool false, .int .u64 0, .string ⟨#[]⟩, .int .u32 0, .string ⟨#[]⟩, .string ⟨#[]⟩, .slice none 0 0, .int .u8 0, .int .u64 0, .string ⟨#[]⟩, .slice none 0 0, .slice none 0 0] 52)).heap.size = w.heap.size + 1 := by simp
 generalize hW : w.alloc (Obj.cells #[.bool false, .int .u64 0, .string ⟨#[]⟩, .int .u32 0, .string ⟨#[]⟩, .string ⟨#[]⟩, .slice none 0 0, .int .u8 0, .int .u64 0, .string ⟨#[]⟩, .slice none 0 0, .slice none 0 0] 52) = W at *
 have HW := Lib.hid hW
 have hlt := h.lt
 have HX := Lib.hid (And.intro hX (And.intro hR hb0))
 clear hX hR hb0 hW h
 obtain ⟨A, c, x, hrow, hsh⟩ := HX.out.2.1.list
 have hll : (s : St).getD [] = s.getD [] := rfl
 have hc0 : W.cell? ⟨b, 0, none⟩ = some (.slice A ((s : St).getD []).length c) := cell_of_row W b 0 _ 76 (0, 0) hrow
 have hlen : ((s : St).getD []).length ≤ 140737488351232 := by cases s <;> simp_all [lenS]
 clear hll
 generalize s.getD [] = l at *
 have HC := Lib.hid (xget_bad (.slice A l.length c) d l (by omega) hn W hsh)
 clear hrow hsh hlen
 go_enter Tryz.func86, Tryz.ntmps86
 go_upto_region 1 with fail
 rw [HW.out]
 go_wp2_with fail
 refine HC.out.mono ?_
 rintro e w1 ⟨C, hC, rfl, hb1⟩
 have hne : (((C : Nat) : Int) == 0) = false := by rw [beq_eq_false_iff_ne]; omega
 have hX1 := HX.out.1.kept hb1 (Nat.le_refl _)
 have hR1 := HX.out.2.1.below hb1
 have hB1 : Below w.heap.size w w1 := HX.out.2.2.trans (hb1.mono (by omega))
 have hbA : Below w1.heap.size w1 (w1.alloc (Obj.cells #[.int .u32 (0 : Nat), .string ⟨#[]⟩, .string ⟨#[]⟩] 44)) := below_box w1 _
 have hnew : (w1.alloc (Obj.cells #[.int .u32 (0 : Nat), .string ⟨#[]⟩, .string ⟨#[]⟩] 44)).heap[w1.heap.size]? = some (.cells #[.int .u32 (0 : Nat), .string ⟨#[]⟩, .string ⟨#[]⟩] 44 (0, 0)) := heap_alloc_new w1 _
 have hs1 := hb1.size
 have hX2 := hX1.kept hbA (Nat.le_refl _)
 have hR2 := hR1.below hbA
 have hB2 : Below w.heap.size w (w1.alloc (Obj.cells #[.int .u32 (0 : Nat), .string ⟨#[]⟩, .string ⟨#[]⟩] 44)) := hB1.trans (hbA.mono hB1.size)
 have HPS := Lib.hid (pass_no b d s 0 (w1.alloc (Obj.cells #[.int .u32 (0 : Nat), .string ⟨#[]⟩, .string ⟨#[]⟩] 44)) hR2)
 have HP2 := Lib.hid (And.intro hR2 (And.intro hX2 (show Frm2 b b w _ from frm_below hB2)))
 have HNEW := Lib.hid hnew
 clear hnew hbA
 clear hR2 hX2 hB2 hX1 hR1 hB1 hb1
 go_wp2_with fail
 refine HPS.out.mono ?_
 rintro e w4 ⟨rfl, hRx, hF4⟩
 have hXx : BoxG w4 w.heap.size zA (.slice none 0 0) (.int .u8 (0 : Nat)) (.int .u64 (0 : Nat)) (.string ⟨#[]⟩) (.slice none 0 0) (.slice none 0 0) := (hF4.block _ HP2.out.2.1.lt (by omega) (by omega)).trans HP2.out.2.1
 have hFx : Frm2 b b w w4 := HP2.out.2.2.trans hF4
 have hn4 := (hF4.block w1.heap.size (Array.getElem?_eq_some_iff.1 HNEW.out).1 (by omega) (by omega)).trans HNEW.out
 have n0 := cell_of_row w4 w1.heap.size 0 _ 44 (0, 0) hn4
 have n1 := cell_of_row w4 w1.heap.size 1 _ 44 (0, 0) hn4
 have n2 := cell_of_row w4 w1.heap.size 2 _ 44 (0, 0) hn4
 simp at n0 n1 n2
 clear hn4
 have f0 := hXx.fr 0
 have f1 := hXx.fr 1
 have f2 := hXx.fr 2
 have f3 := hXx.fr 3
 have f4 := hXx.fr 4
 have f5 := hXx.fr 5
 have f6 := hXx.fr 6
 have f7 := hXx.fr 7
 have f8 := hXx.fr 8
 have f9 := hXx.fr 9
 have f10 := hXx.fr 10
 have f11 := hXx.fr 11
 obtain ⟨⟨p0, p1, p2⟩, ⟨p3, p4, p5⟩, p6, p7, p8, p9, p10, p11⟩ := hXx.cells
 obtain ⟨hb12, hsaid⟩ := dec_end (a := zA) (A := none) (c := 0) (dq := 0) rfl hlt hXx hFx hRx (shows_zA _ 0)
 have HE := Lib.hid (And.intro hb12 hsaid)
 clear hb12 hsaid hXx hFx hRx
 go_wp2_with fail
 exact bodyPost_ret (results_cell_row rfl _ _ w.heap.size 52 _ (0, 0) _ rfl HE.out.1 Tryz.underlying52 rfl (by kernel_rfl)) rfl HE.out.2
set_option maxRecDepth 100000 in
set_option maxHeartbeats 4000000 in
theorem set_good (b d : Nat) (l : List UInt8) (q : Int) (w : World) (h : RM w b d (some l)) (hl : lenS (some l) ≤ 140737488351232)
  (h0 : (getD_ l).2.2 = 0) :
  Calls Tryz.prog 87 #[.pointer (some ⟨b, 0, none⟩), .int .i64 q] w (DecSaid b d w ({ zA with q := (getD_ l).1 }, some (l.drop (getD_ l).2.1))) := by
 have hb0 : Below w.heap.size w (w.alloc (Obj.cells #[.bool false, .int .u64 0, .string ⟨#[]⟩, .int .u32 0, .string ⟨#[]⟩, .string ⟨#[]⟩, .slice none 0 0, .int .u8 0, .int .u64 0, .string ⟨#[]⟩, .slice none 0 0, .slice none 0 0] 52)) := below_box w _
 have hX := BoxG.zero w
 have hR := h.below hb0
 have hs0 : (w.alloc (Obj.cells #[.bool false, .int .u64 0, .string ⟨#[]⟩, .int .u32 0, .string ⟨#[]⟩, .string ⟨#[]⟩, .slice none 0 0, .int .u8 0, .int .u64 0, .string ⟨#[]⟩, .slice none 0 0, .slice none 0 0] 52)).heap.size = w.heap.size + 1 := by simp
 generalize hW : w.alloc (Obj.cells #[.bool false, .int .u64 0, .string ⟨#[]⟩, .int .u32 0, .string ⟨#[]⟩, .string ⟨#[]⟩, .slice none 0 0, .int .u8 0, .int .u64 0, .string ⟨#[]⟩, .slice none 0 0, .slice none 0 0] 52) = W at *
 have HW := Lib.hid hW
 have hlt := h.lt
 have HX := Lib.hid (And.intro hX (And.intro hR hb0))
 clear hX hR hb0 hW h
 obtain ⟨A, c, x, hrow, hsh⟩ := HX.out.2.1.list
 have hll : ((some l) : St).getD [] = l := rfl
 have hc0 : W.cell? ⟨b, 0, none⟩ = some (.slice A (((some l) : St).getD []).length c) := cell_of_row W b 0 _ 76 (0, 0) hrow
 have hlen : (((some l) : St).getD []).length ≤ 140737488351232 := by simpa [lenS] using hl
 simp only [Option.getD_some] at hc0 hlen hsh hrow
 clear hll
 have HC := Lib.hid (getS_any (.slice A l.length c) d l W hsh (by omega))
 obtain ⟨_, hu, hql, hnl, _⟩ := getD_ok l h0
 rw [h0] at HC
 generalize (getD_ l).2.1 = n at *
 generalize (getD_ l).1 = Q at *
 clear hrow hsh hlen
 go_enter Tryz.func87, Tryz.ntmps87
 go_upto_region 1 with fail
 rw [HW.out]
 go_wp2_with fail
 refine HC.out.mono ?_
 rintro e w1 ⟨v, rfl, ho, hb1⟩
 obtain ⟨A2, c2, rfl, _, _⟩ := ho.form
 have hX1 := HX.out.1.kept hb1 (Nat.le_refl _)
 have hR1 := HX.out.2.1.below hb1
 have hB1 : Below w.heap.size w w1 := HX.out.2.2.trans (hb1.mono (by omega))
 have hX2 := hX1
 have hR2 := hR1
 have hB2 := hB1
 have hs1 := hb1.size
 have HPS := Lib.hid (pass_yes b d l n w1 hR2 hnl (by simp only [lenS] at hl; omega))
 have HP2 := Lib.hid (And.intro hR2 (And.intro hX2 (show Frm2 b b w _ from frm_below hB2)))
 clear hR2 hX2 hB2 hX1 hR1 hB1 hb1
 go_wp2_with fail
 refine HPS.out.mono ?_
 rintro e w4 ⟨rfl, hRx, hF4⟩
 have hXx : BoxG w4 w.heap.size zA (.slice none 0 0) (.int .u8 (0 : Nat)) (.int .u64 (0 : Nat)) (.string ⟨#[]⟩) (.slice none 0 0) (.slice none 0 0) := (hF4.block _ HP2.out.2.1.lt (by omega) (by omega)).trans HP2.out.2.1
 have hFx : Frm2 b b w w4 := HP2.out.2.2.trans hF4
 have ho4 := (own_frm2 ho hF4 (by omega) (by omega)).low (Nat.le_refl _)
 obtain ⟨dq, _, hsq⟩ := ho4.shows
 rw [hs0] at hsq
 have HSQ := Lib.hid hsq
 clear ho ho4 hsq
 have f0 := hXx.fr 0
 have f1 := hXx.fr 1
 have f2 := hXx.fr 2
 have f3 := hXx.fr 3
 have f4 := hXx.fr 4
 have f5 := hXx.fr 5
 have f6 := hXx.fr 6
 have f7 := hXx.fr 7
 have f8 := hXx.fr 8
 have f9 := hXx.fr 9
 have f10 := hXx.fr 10
 have f11 := hXx.fr 11
 obtain ⟨⟨p0, p1, p2⟩, ⟨p3, p4, p5⟩, p6, p7, p8, p9, p10, p11⟩ := hXx.cells
 obtain ⟨hb12, hsaid⟩ := dec_end (a := { zA with q := Q }) (A := A2) (c := c2) (dq := dq) rfl hlt hXx hFx hRx (shows_set _ dq A2 c2 Q HSQ.out hu hql)
 have HE := Lib.hid (And.intro hb12 hsaid)
 clear hb12 hsaid hXx hFx hRx
 go_wp2_with fail
 exact bodyPost_ret (results_cell_row rfl _ _ w.heap.size 52 _ (0, 0) _ rfl HE.out.1 Tryz.underlying52 rfl (by kernel_rfl)) rfl HE.out.2
set_option maxRecDepth 100000 in
set_option maxHeartbeats 4000000 in
theorem set_bad (b d : Nat) (s : St) (q : Int) (w : World) (h : RM w b d s) (hl : lenS s ≤ 140737488351232)
  (h0 : (getD_ (s.getD [])).2.2 ≠ 0) :
  Calls Tryz.prog 87 #[.pointer (some ⟨b, 0, none⟩), .int .i64 q] w (DecSaid b d w (zA, none)) := by
 have hb0 : Below w.heap.size w (w.alloc (Obj.cells #[.bool false, .int .u64 0, .string ⟨#[]⟩, .int .u32 0, .string ⟨#[]⟩, .string ⟨#[]⟩, .slice none 0 0, .int .u8 0, .int .u64 0, .string ⟨#[]⟩, .slice none 0 0, .slice none 0 0] 52)) := below_box w _
 have hX := BoxG.zero w
 have hR := h.below hb0
 have hs0 : (w.alloc (Obj.cells #[.bool false, .int .u64 0, .string ⟨#[]⟩, .int .u32 0, .string ⟨#[]⟩, .string ⟨#[]⟩, .slice none 0 0, .int .u8 0, .int .u64 0, .string ⟨#[]⟩, .slice none 0 0, .slice none 0 0] 52)).heap.size = w.heap.size + 1 := by simp
 generalize hW : w.alloc (Obj.cells #[.bool false, .int .u64 0, .string ⟨#[]⟩, .int .u32 0, .string ⟨#[]⟩, .string ⟨#[]⟩, .slice none 0 0, .int .u8 0, .int .u64 0, .string ⟨#[]⟩, .slice none 0 0, .slice none 0 0] 52) = W at *
 have HW := Lib.hid hW
 have hlt := h.lt
 have HX := Lib.hid (And.intro hX (And.intro hR hb0))
 clear hX hR hb0 hW h
 obtain ⟨A, c, x, hrow, hsh⟩ := HX.out.2.1.list
 have hll : (s : St).getD [] = s.getD [] := rfl
 have hc0 : W.cell? ⟨b, 0, none⟩ = some (.slice A ((s : St).getD []).length c) := cell_of_row W b 0 _ 76 (0, 0) hrow
 have hlen : ((s : St).getD []).length ≤ 140737488351232 := by cases s <;> simp_all [lenS]
 clear hll
 generalize s.getD [] = l at *
 obtain ⟨hq0, hn0⟩ := getD_bad l h0
 have HC0 := getS_any (.slice A l.length c) d l W hsh (by omega)
 obtain ⟨C, hC⟩ : ∃ C, C = (getD_ l).2.2 := ⟨_, rfl⟩
 rw [hq0, hn0, ← hC] at HC0
 rw [← hC] at h0
 have hne : ((C : Int) == 0) = false := by rw [beq_eq_false_iff_ne]; omega
 have HC := Lib.hid HC0
 clear hq0 hn0 hC h0 HC0
 clear hrow hsh hlen
 go_enter Tryz.func87, Tryz.ntmps87
 go_upto_region 1 with fail
 rw [HW.out]
 go_wp2_with fail
 refine HC.out.mono ?_
 rintro e w1 ⟨v, rfl, ho, hb1⟩
 obtain ⟨A2, c2, rfl, _, _⟩ := ho.form
 have hX1 := HX.out.1.kept hb1 (Nat.le_refl _)
 have hR1 := HX.out.2.1.below hb1
 have hB1 : Below w.heap.size w w1 := HX.out.2.2.trans (hb1.mono (by omega))
 have hX2 := hX1
 have hR2 := hR1
 have hB2 := hB1
 have hs1 := hb1.size
 have HPS := Lib.hid (pass_no b d s 0 w1 hR2)
 have HP2 := Lib.hid (And.intro hR2 (And.intro hX2 (show Frm2 b b w _ from frm_below hB2)))
 clear hR2 hX2 hB2 hX1 hR1 hB1 hb1
 go_wp2_with fail
 refine HPS.out.mono ?_
 rintro e w4 ⟨rfl, hRx, hF4⟩
 have hXx : BoxG w4 w.heap.size zA (.slice none 0 0) (.int .u8 (0 : Nat)) (.int .u64 (0 : Nat)) (.string ⟨#[]⟩) (.slice none 0 0) (.slice none 0 0) := (hF4.block _ HP2.out.2.1.lt (by omega) (by omega)).trans HP2.out.2.1
 have hFx : Frm2 b b w w4 := HP2.out.2.2.trans hF4
 have f0 := hXx.fr 0
 have f1 := hXx.fr 1
 have f2 := hXx.fr 2
 have f3 := hXx.fr 3
 have f4 := hXx.fr 4
 have f5 := hXx.fr 5
 have f6 := hXx.fr 6
 have f7 := hXx.fr 7
 have f8 := hXx.fr 8
 have f9 := hXx.fr 9
 have f10 := hXx.fr 10
 have f11 := hXx.fr 11
 obtain ⟨⟨p0, p1, p2⟩, ⟨p3, p4, p5⟩, p6, p7, p8, p9, p10, p11⟩ := hXx.cells
 have ho4 := (own_frm2 ho hF4 (by omega) (by omega)).low (Nat.le_refl _)
 obtain ⟨dq, _, hsq⟩ := ho4.shows
 rw [hs0] at hsq
 obtain ⟨hb12, hsaid⟩ := dec_end (a := zA) (A := A2) (c := c2) (dq := dq) rfl hlt hXx hFx hRx (shows_set _ dq A2 c2 [] hsq (fun s hs => by cases hs) (by simp))
 clear ho ho4 hsq
 have HE := Lib.hid (And.intro hb12 hsaid)
 clear hb12 hsaid hXx hFx hRx
 go_wp2_with fail
 exact bodyPost_ret (results_cell_row rfl _ _ w.heap.size 52 _ (0, 0) _ rfl HE.out.1 Tryz.underlying52 rfl (by kernel_rfl)) rfl HE.out.2
set_option maxRecDepth 100000 in
set_option maxHeartbeats 4000000 in
theorem typed_good (b d : Nat) (l : List UInt8) (q : Int) (w : World) (h : RM w b d (some l)) (hl : lenS (some l) ≤ 140737488351232)
  (t : Tree) (n : Nat) (hg : getP l = some (t, n)) :
  Calls Tryz.prog 88 #[.pointer (some ⟨b, 0, none⟩), .int .i64 q] w (DecSaid b d w ({ zA with v := t }, some (l.drop n))) := by
 have hb0 : Below w.heap.size w (w.alloc (Obj.cells #[.bool false, .int .u64 0, .string ⟨#[]⟩, .int .u32 0, .string ⟨#[]⟩, .string ⟨#[]⟩, .slice none 0 0, .int .u8 0, .int .u64 0, .string ⟨#[]⟩, .slice none 0 0, .slice none 0 0] 52)) := below_box w _
 have hX := BoxG.zero w
 have hR := h.below hb0
 have hs0 : (w.alloc (Obj.cells #[.bool false, .int .u64 0, .string ⟨#[]⟩, .int .u32 0, .string ⟨#[]⟩, .string ⟨#[]⟩, .slice none 0 0, .int .u8 0, .int .u64 0, .string ⟨#[]⟩, .slice none 0 0, .slice none 0 0] 52)).heap.size = w.heap.size + 1 := by simp
 generalize hW : w.alloc (Obj.cells #[.bool false, .int .u64 0, .string ⟨#[]⟩, .int .u32 0, .string ⟨#[]⟩, .string ⟨#[]⟩, .slice none 0 0, .int .u8 0, .int .u64 0, .string ⟨#[]⟩, .slice none 0 0, .slice none 0 0] 52) = W at *
 have HW := Lib.hid hW
 have hlt := h.lt
 have HX := Lib.hid (And.intro hX (And.intro hR hb0))
 clear hX hR hb0 hW h
 obtain ⟨A, c, x, hrow, hsh⟩ := HX.out.2.1.list
 have hll : ((some l) : St).getD [] = l := rfl
 have hc0 : W.cell? ⟨b, 0, none⟩ = some (.slice A (((some l) : St).getD []).length c) := cell_of_row W b 0 _ 76 (0, 0) hrow
 have hlen : (((some l) : St).getD []).length ≤ 140737488351232 := by simpa [lenS] using hl
 simp only [Option.getD_some] at hc0 hlen hsh hrow
 clear hll
 have HC := get_any (.slice A l.length c) d l W hsh hlen
 rw [hg] at HC
 have HC := Lib.hid HC
 have hnl := (put_get hg).2.2.1
 clear hg
 clear hrow hsh hlen
 go_enter Tryz.func88, Tryz.ntmps88
 go_upto_region 1 with fail
 rw [HW.out]
 go_wp2_with fail
 refine HC.out.mono ?_
 rintro e w1 ⟨hb1, vs, rfl, hst⟩
 obtain ⟨xk, xn, xs, xa, xb, xc, xd, xe, xf, rfl⟩ := hst.cells5
 have hX1 := HX.out.1.kept hb1 (Nat.le_refl _)
 have hR1 := HX.out.2.1.below hb1
 have hB1 : Below w.heap.size w w1 := HX.out.2.2.trans (hb1.mono (by omega))
 have hbA : Below w1.heap.size w1 (w1.alloc (Obj.cells #[.int .u8 xk, .int .u64 xn, .string xs, .slice xa xb xc, .slice xd xe xf] 50)) := below_box w1 _
 have hnew : (w1.alloc (Obj.cells #[.int .u8 xk, .int .u64 xn, .string xs, .slice xa xb xc, .slice xd xe xf] 50)).heap[w1.heap.size]? = some (.cells #[.int .u8 xk, .int .u64 xn, .string xs, .slice xa xb xc, .slice xd xe xf] 50 (0, 0)) := heap_alloc_new w1 _
 have hs1 := hb1.size
 have hst2 : ShowsT (lowm W.heap.size (w1.alloc (Obj.cells #[.int .u8 xk, .int .u64 xn, .string xs, .slice xa xb xc, .slice xd xe xf] 50))) t [.int .u8 xk, .int .u64 xn, .string xs, .slice xa xb xc, .slice xd xe xf] := hst.sub (low_sub hbA.size (fun k _ hk => hbA.block k hk))
 have HST := Lib.hid hst2
 clear hst hst2
 have hX2 := hX1.kept hbA (Nat.le_refl _)
 have hR2 := hR1.below hbA
 have hB2 : Below w.heap.size w (w1.alloc (Obj.cells #[.int .u8 xk, .int .u64 xn, .string xs, .slice xa xb xc, .slice xd xe xf] 50)) := hB1.trans (hbA.mono hB1.size)
 have HPS := Lib.hid (pass_yes b d l n (w1.alloc (Obj.cells #[.int .u8 xk, .int .u64 xn, .string xs, .slice xa xb xc, .slice xd xe xf] 50)) hR2 hnl (by simp only [lenS] at hl; omega))
 have HP2 := Lib.hid (And.intro hR2 (And.intro hX2 (show Frm2 b b w _ from frm_below hB2)))
 have HNEW := Lib.hid hnew
 clear hnew hbA
 clear hR2 hX2 hB2 hX1 hR1 hB1 hb1
 go_wp2_with fail
 refine HPS.out.mono ?_
 rintro e w4 ⟨rfl, hRx, hF4⟩
 have hXx : BoxG w4 w.heap.size zA (.slice none 0 0) (.int .u8 (0 : Nat)) (.int .u64 (0 : Nat)) (.string ⟨#[]⟩) (.slice none 0 0) (.slice none 0 0) := (hF4.block _ HP2.out.2.1.lt (by omega) (by omega)).trans HP2.out.2.1
 have hFx : Frm2 b b w w4 := HP2.out.2.2.trans hF4
 have hn4 := (hF4.block w1.heap.size (Array.getElem?_eq_some_iff.1 HNEW.out).1 (by omega) (by omega)).trans HNEW.out
 have n0 := cell_of_row w4 w1.heap.size 0 _ 50 (0, 0) hn4
 have n1 := cell_of_row w4 w1.heap.size 1 _ 50 (0, 0) hn4
 have n2 := cell_of_row w4 w1.heap.size 2 _ 50 (0, 0) hn4
 have n3 := cell_of_row w4 w1.heap.size 3 _ 50 (0, 0) hn4
 have n4 := cell_of_row w4 w1.heap.size 4 _ 50 (0, 0) hn4
 simp at n0 n1 n2 n3 n4
 clear hn4
 have hs4 : ShowsT (lowm (w.heap.size + 1) w4) t [.int .u8 xk, .int .u64 xn, .string xs, .slice xa xb xc, .slice xd xe xf] := by
  have h1 := HST.out
  rw [hs0] at h1
  exact h1.sub (hF4.low (by omega) (by omega))
 have HS4 := Lib.hid hs4
 clear hs4
 have f0 := hXx.fr 0
 have f1 := hXx.fr 1
 have f2 := hXx.fr 2
 have f3 := hXx.fr 3
 have f4 := hXx.fr 4
 have f5 := hXx.fr 5
 have f6 := hXx.fr 6
 have f7 := hXx.fr 7
 have f8 := hXx.fr 8
 have f9 := hXx.fr 9
 have f10 := hXx.fr 10
 have f11 := hXx.fr 11
 obtain ⟨⟨p0, p1, p2⟩, ⟨p3, p4, p5⟩, p6, p7, p8, p9, p10, p11⟩ := hXx.cells
 obtain ⟨hb12, hsaid⟩ := dec_end (a := { zA with v := t }) (A := none) (c := 0) (dq := 0) rfl hlt hXx hFx hRx (shows_val _ 0 t _ _ _ _ _ HS4.out)
 have HE := Lib.hid (And.intro hb12 hsaid)
 clear hb12 hsaid hXx hFx hRx
 go_wp2_with fail
 exact bodyPost_ret (results_cell_row rfl _ _ w.heap.size 52 _ (0, 0) _ rfl HE.out.1 Tryz.underlying52 rfl (by kernel_rfl)) rfl HE.out.2
set_option maxRecDepth 100000 in
set_option maxHeartbeats 4000000 in
theorem typed_bad (b d : Nat) (s : St) (q : Int) (w : World) (h : RM w b d s) (hl : lenS s ≤ 140737488351232)
  (hg : getP (s.getD []) = none) :
  Calls Tryz.prog 88 #[.pointer (some ⟨b, 0, none⟩), .int .i64 q] w (DecSaid b d w (zA, none)) := by
 have hb0 : Below w.heap.size w (w.alloc (Obj.cells #[.bool false, .int .u64 0, .string ⟨#[]⟩, .int .u32 0, .string ⟨#[]⟩, .string ⟨#[]⟩, .slice none 0 0, .int .u8 0, .int .u64 0, .string ⟨#[]⟩, .slice none 0 0, .slice none 0 0] 52)) := below_box w _
 have hX := BoxG.zero w
 have hR := h.below hb0
 have hs0 : (w.alloc (Obj.cells #[.bool false, .int .u64 0, .string ⟨#[]⟩, .int .u32 0, .string ⟨#[]⟩, .string ⟨#[]⟩, .slice none 0 0, .int .u8 0, .int .u64 0, .string ⟨#[]⟩, .slice none 0 0, .slice none 0 0] 52)).heap.size = w.heap.size + 1 := by simp
 generalize hW : w.alloc (Obj.cells #[.bool false, .int .u64 0, .string ⟨#[]⟩, .int .u32 0, .string ⟨#[]⟩, .string ⟨#[]⟩, .slice none 0 0, .int .u8 0, .int .u64 0, .string ⟨#[]⟩, .slice none 0 0, .slice none 0 0] 52) = W at *
 have HW := Lib.hid hW
 have hlt := h.lt
 have HX := Lib.hid (And.intro hX (And.intro hR hb0))
 clear hX hR hb0 hW h
 obtain ⟨A, c, x, hrow, hsh⟩ := HX.out.2.1.list
 have hll : (s : St).getD [] = s.getD [] := rfl
 have hc0 : W.cell? ⟨b, 0, none⟩ = some (.slice A ((s : St).getD []).length c) := cell_of_row W b 0 _ 76 (0, 0) hrow
 have hlen : ((s : St).getD []).length ≤ 140737488351232 := by cases s <;> simp_all [lenS]
 clear hll
 generalize s.getD [] = l at *
 have HC := get_any (.slice A l.length c) d l W hsh hlen
 rw [hg] at HC
 have HC := Lib.hid HC
 clear hrow hsh hlen
 go_enter Tryz.func88, Tryz.ntmps88
 go_upto_region 1 with fail
 rw [HW.out]
 go_wp2_with fail
 refine HC.out.mono ?_
 rintro e w1 ⟨hb1, rfl⟩
 have hX1 := HX.out.1.kept hb1 (Nat.le_refl _)
 have hR1 := HX.out.2.1.below hb1
 have hB1 : Below w.heap.size w w1 := HX.out.2.2.trans (hb1.mono (by omega))
 have hbA : Below w1.heap.size w1 (w1.alloc (Obj.cells #[.int .u8 0, .int .u64 0, .string ⟨#[]⟩, .slice none 0 0, .slice none 0 0] 50)) := below_box w1 _
 have hnew : (w1.alloc (Obj.cells #[.int .u8 0, .int .u64 0, .string ⟨#[]⟩, .slice none 0 0, .slice none 0 0] 50)).heap[w1.heap.size]? = some (.cells #[.int .u8 0, .int .u64 0, .string ⟨#[]⟩, .slice none 0 0, .slice none 0 0] 50 (0, 0)) := heap_alloc_new w1 _
 have hs1 := hb1.size
 have hX2 := hX1.kept hbA (Nat.le_refl _)
 have hR2 := hR1.below hbA
 have hB2 : Below w.heap.size w (w1.alloc (Obj.cells #[.int .u8 0, .int .u64 0, .string ⟨#[]⟩, .slice none 0 0, .slice none 0 0] 50)) := hB1.trans (hbA.mono hB1.size)
 have HPS := Lib.hid (pass_no b d s 0 (w1.alloc (Obj.cells #[.int .u8 0, .int .u64 0, .string ⟨#[]⟩, .slice none 0 0, .slice none 0 0] 50)) hR2)
 have HP2 := Lib.hid (And.intro hR2 (And.intro hX2 (show Frm2 b b w _ from frm_below hB2)))
 have HNEW := Lib.hid hnew
 clear hnew hbA
 clear hR2 hX2 hB2 hX1 hR1 hB1 hb1
 go_wp2_with fail
 refine HPS.out.mono ?_
 rintro e w4 ⟨rfl, hRx, hF4⟩
 have hXx : BoxG w4 w.heap.size zA (.slice none 0 0) (.int .u8 (0 : Nat)) (.int .u64 (0 : Nat)) (.string ⟨#[]⟩) (.slice none 0 0) (.slice none 0 0) := (hF4.block _ HP2.out.2.1.lt (by omega) (by omega)).trans HP2.out.2.1
 have hFx : Frm2 b b w w4 := HP2.out.2.2.trans hF4
 have hn4 := (hF4.block w1.heap.size (Array.getElem?_eq_some_iff.1 HNEW.out).1 (by omega) (by omega)).trans HNEW.out
 have n0 := cell_of_row w4 w1.heap.size 0 _ 50 (0, 0) hn4
 have n1 := cell_of_row w4 w1.heap.size 1 _ 50 (0, 0) hn4
 have n2 := cell_of_row w4 w1.heap.size 2 _ 50 (0, 0) hn4
 have n3 := cell_of_row w4 w1.heap.size 3 _ 50 (0, 0) hn4
 have n4 := cell_of_row w4 w1.heap.size 4 _ 50 (0, 0) hn4
 simp at n0 n1 n2 n3 n4
 clear hn4
 have f0 := hXx.fr 0
 have f1 := hXx.fr 1
 have f2 := hXx.fr 2
 have f3 := hXx.fr 3
 have f4 := hXx.fr 4
 have f5 := hXx.fr 5
 have f6 := hXx.fr 6
 have f7 := hXx.fr 7
 have f8 := hXx.fr 8
 have f9 := hXx.fr 9
 have f10 := hXx.fr 10
 have f11 := hXx.fr 11
 obtain ⟨⟨p0, p1, p2⟩, ⟨p3, p4, p5⟩, p6, p7, p8, p9, p10, p11⟩ := hXx.cells
 obtain ⟨hb12, hsaid⟩ := dec_end (a := zA) (A := none) (c := 0) (dq := 0) rfl hlt hXx hFx hRx (shows_zA _ 0)
 have HE := Lib.hid (And.intro hb12 hsaid)
 clear hb12 hsaid hXx hFx hRx
 go_wp2_with fail
 exact bodyPost_ret (results_cell_row rfl _ _ w.heap.size 52 _ (0, 0) _ rfl HE.out.1 Tryz.underlying52 rfl (by kernel_rfl)) rfl HE.out.2
theorem mtrans_any (b d : Nat) (s : St) (q : Int) (w : World) (h : RM w b d s) (hl : lenS s ≤ 140737488351232) :
    Calls Tryz.prog 86 #[.pointer (some ⟨b, 0, none⟩), .int .i64 q] w (DecSaid b d w ({ zA with f := (nextX s).1.1, g := (nextX s).1.2.1, h := (nextX s).1.2.2 }, (nextX s).2)) := by
  by_cases hn : ∀ f g h n, getD (s.getD []) = some (f, g, h, n) → ¬ mayX (str8 g) (str8 h)
  · have e : nextX s = ((0, ⟨#[]⟩, ⟨#[]⟩), none) := by
      rw [nextX_list]
      unfold nextX
      simp only []
      cases hg : getD (s.getD []) with
      | none => rfl
      | some x => obtain ⟨f, g, h, n⟩ := x; simp only []; rw [if_neg (hn f g h n hg)]
    rw [e]
    exact trans_bad b d s q w h hl hn
  · have hn2 : ∃ f g h n, getD (s.getD []) = some (f, g, h, n) ∧ mayX (str8 g) (str8 h) := by
      apply Classical.byContradiction
      intro hc
      exact hn fun f g h n h1 h2 => hc ⟨f, g, h, n, h1, h2⟩
    obtain ⟨f, g, h', n, hg, hm⟩ := hn2
    cases s with
    | none => simp [getD] at hg
    | some l =>
      have hg' : getD l = some (f, g, h', n) := hg
      have e : nextX (some l) = ((f, str8 g, str8 h'), some (l.drop n)) := by
        unfold nextX
        simp only [hg']
        rw [if_pos hm]
      rw [e]
      exact trans_good b d l q w h hl f g h' n hg' hm
theorem mset_any (b d : Nat) (s : St) (q : Int) (w : World) (h : RM w b d s) (hl : lenS s ≤ 140737488351232) :
  Calls Tryz.prog 87 #[.pointer (some ⟨b, 0, none⟩), .int .i64 q] w (DecSaid b d w ({ zA with q := (nextS s).1 }, (nextS s).2)) := by
 by_cases h0 : (getD_ (s.getD [])).2.2 = 0
 ·cases s with
  | none => simp [getD_] at h0
  | some l =>
   have h0' : (getD_ l).2.2 = 0 := h0
   have e : nextS (some l) = ((getD_ l).1, some (l.drop (getD_ l).2.1)) := by unfold nextS; simp only []; rw [if_pos h0']
   rw [e]
   exact set_good b d l q w h hl h0'
 ·have e : nextS s = ([], none) := by rw [nextS_list]; unfold nextS; simp only []; rw [if_neg h0]
  rw [e]
  exact set_bad b d s q w h hl h0
theorem mtyped_any (b d : Nat) (s : St) (q : Int) (w : World) (h : RM w b d s) (hl : lenS s ≤ 140737488351232) :
  Calls Tryz.prog 88 #[.pointer (some ⟨b, 0, none⟩), .int .i64 q] w (DecSaid b d w ({ zA with v := (nextV s).1 }, (nextV s).2)) := by
 cases hg : getP (s.getD []) with
 | none =>
  have e : nextV s = (zT, none) := by rw [nextV_list]; unfold nextV; simp only [hg]
  rw [e]
  exact typed_bad b d s q w h hl hg
 | some x =>
  obtain ⟨t, n⟩ := x
  cases s with
  | none =>
   have := nextV_list none
   unfold nextV at this
   simp only [Option.getD_none] at this hg
   rw [hg] at this
   cases this
  | some l =>
   have hg' : getP l = some (t, n) := hg
   have e : nextV (some l) = (t, some (l.drop n)) := by unfold nextV; simp only [hg']
   rw [e]
   exact typed_good b d l q w h hl t n hg'
theorem dec_any (b d k : Nat) (s : St) (w : World) (hk : lett k) (h : RM w b d s) (hl : lenS s ≤ 140737488351232) :
  Calls Tryz.prog (decF k) #[.pointer (some ⟨b, 0, none⟩), .int .i64 (widD k)] w (DecSaid b d w (readA k s)) := by
 rcases hk with rfl | (rfl | rfl | rfl) | (rfl | rfl) | rfl | rfl | rfl
 ·exact nothing_any b d s _ w h
 ·exact mnumber_any b d s 1 w h (by omega) (by decide) (by omega)
 ·exact mnumber_any b d s 2 w h (by omega) (by decide) (by omega)
 ·exact mnumber_any b d s 4 w h (by omega) (by decide) (by omega)
 ·exact mtext1_any b d s w h hl
 ·exact mtext2_any b d s w h hl
 ·exact mtrans_any b d s _ w h hl
 ·exact mset_any b d s _ w h hl
 ·exact mtyped_any b d s _ w h hl
end Go.Proofs.YtpbdnfonflmncaaGreat
