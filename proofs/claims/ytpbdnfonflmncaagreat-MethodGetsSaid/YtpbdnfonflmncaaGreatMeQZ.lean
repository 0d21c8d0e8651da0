/-
  What decodes numbers, texts, names, sets and values.
  Conditions: none but sizes.
-/
import Derived.Test.YtpbdnfonflmncaaGreatMeMZ
import Derived.Test.YtpbdnfonflmncaaGreatSpAZ
import Derived.Test.YtpbdnfonflmncaaGreatXiOZ
import Derived.Test.YtpbdnfonflmncaaGreatValIZ
namespace Go.Proofs.YtpbdnfonflmncaaGreat
open Go.RowKit
set_option linter.unusedVariables false
set_option linter.unusedSimpArgs false
theorem text_front (q : Nat) (most : Nat) (hm : most = 256 ^ q - 1) (s : St) (hq : txt (q : Int) = true) : (∃ l, s = some l ∧ q + (textS (q : Int) (most : Int) s).1.length ≤ l.length ∧ (textS (q : Int) (most : Int) s).1.length ≤ most ∧ (textS (q : Int) (most : Int) s).2 = some (l.drop (q + (textS (q : Int) (most : Int) s).1.length)) ∧
      (textS (q : Int) (most : Int) (some (frontS (q + most) s))).1 = (textS (q : Int) (most : Int) s).1 ∧ ∃ r, (textS (q : Int) (most : Int) (some (frontS (q + most) s))).2 = some r) ∨
    (textS (q : Int) (most : Int) s = ([], none) ∧ textS (q : Int) (most : Int) (some (frontS (q + most) s)) = ([], none)) := by
  have hqn : num (q : Int) = true := txt_num hq
  have hbad : ∀ t : St, numS (q : Int) t = (0, none) → textS (q : Int) (most : Int) t = ([], none) := fun t ht => by
    unfold textS textT
    rw [if_pos hq, ht]
    simp [takeS]
  cases s with
  | none =>
    right
    refine ⟨hbad _ (by simp [numS, takeS, numOf]), hbad _ ?_⟩
    rcases num_front q none hqn with ⟨l, h, _⟩ | ⟨_, h⟩
    · cases h
    · have hq1 : 1 ≤ q := by
        rcases Nat.eq_zero_or_pos q with rfl | h
        · revert hq; decide
        · exact h
      exact numS_far q _ hqn (by simp [frontS]; omega)
  | some l =>
    by_cases h : q ≤ l.length
    · have e1 := numS_ok q l hqn h
      have hF : (l.take (q + most)).length = min (q + most) l.length := by simp
      have e2 := numS_ok q (l.take (q + most)) hqn (by rw [hF]; omega)
      have hnn : numOf ((l.take (q + most)).take q) = numOf (l.take q) := by rw [List.take_take, Nat.min_eq_left (by omega)]
      have hlt : numOf (l.take q) ≤ most := by
        have := numOf_lt (l.take q)
        rw [List.length_take, Nat.min_eq_left h] at this
        omega
      rw [hnn] at e2
      have u1 : textS (q : Int) (most : Int) (some l) = takeS ((numOf (l.take q) : Nat) : Int) (some (l.drop q)) := by
        unfold textS textT
        rw [if_pos hq, e1]
        simp only []
        rw [if_neg (by omega)]
      have u2 : textS (q : Int) (most : Int) (some (l.take (q + most))) = takeS ((numOf (l.take q) : Nat) : Int) (some ((l.take (q + most)).drop q)) := by
        unfold textS textT
        rw [if_pos hq, e2]
        simp only []
        rw [if_neg (by omega)]
      generalize numOf (l.take q) = n at *
      by_cases hn : q + n ≤ l.length
      · left
        have k1 : takeS (n : Int) (some (l.drop q)) = ((l.drop q).take n, some ((l.drop q).drop n)) := takeS_ok n _ (by simp; omega)
        have k2 : takeS (n : Int) (some ((l.take (q + most)).drop q)) = (((l.take (q + most)).drop q).take n, some (((l.take (q + most)).drop q).drop n)) := takeS_ok n _ (by simp; omega)
        have hl1 : ((l.drop q).take n).length = n := by simp; omega
        refine ⟨l, rfl, ?_, ?_, ?_, ?_, ?_⟩
        · rw [u1, k1]; simp only [hl1]; exact hn
        · rw [u1, k1]; simp only [hl1]; exact hlt
        · rw [u1, k1]; simp only [hl1, List.drop_drop]
        · show (textS (q : Int) (most : Int) (some (l.take (q + most)))).1 = _
          rw [u1, u2, k1, k2]
          simp only []
          rw [List.drop_take, List.take_take, Nat.min_eq_left (by omega)]
        · show ∃ r, (textS (q : Int) (most : Int) (some (l.take (q + most)))).2 = some r
          rw [u2, k2]
          exact ⟨_, rfl⟩
      · right
        have k1 : takeS (n : Int) (some (l.drop q)) = ([], none) := by simp only [takeS]; rw [if_neg]; simp; omega
        have k2 : takeS (n : Int) (some ((l.take (q + most)).drop q)) = ([], none) := by simp only [takeS]; rw [if_neg]; simp; omega
        exact ⟨by rw [u1, k1], by show textS (q : Int) (most : Int) (some (l.take (q + most))) = _; rw [u2, k2]⟩
    · right
      exact ⟨hbad _ (numS_far q l hqn (by omega)), hbad _ (numS_far q _ hqn (by simp [frontS]; omega))⟩
theorem xget_good (v : Value) (d : Nat) (b : List UInt8) (hb : b.length ≤ 140737488355328) (f : Nat) (g h : List UInt8) (n : Nat) (hg : getD b = some (f, g, h, n)) (hm : mayX (str8 g) (str8 h)) (w : World) (hv : Shows w d v b) :
  Calls Tryz.prog 106 #[v] w fun e w' => e = .returned (.tuple #[.agg #[.int .u32 f, .string (str8 g), .string (str8 h)], .int .i64 n, .int .i64 0]) ∧ Below w.heap.size w w' := by
 obtain ⟨A, c, rfl, _⟩ := id hv
 have h1 := hg
 rw [← getD_take] at h1
 obtain ⟨e1, e2, e3, e4, e5⟩ := gx_some _ _ _ _ _ h1
 have := get_ok A c d b w hv hb _ n e4 (by rw [List.length_drop]; omega) (by rw [e2, e3]; exact hm)
 rw [e1, e2, e3] at this
 exact this
theorem xget_bad (v : Value) (d : Nat) (b : List UInt8) (hb : b.length ≤ 140737488355328) (hn : ∀ f g h n, getD b = some (f, g, h, n) → ¬ mayX (str8 g) (str8 h)) (w : World) (hv : Shows w d v b) :
  Calls Tryz.prog 106 #[v] w fun e w' => ∃ code : Nat, code ≠ 0 ∧ e = .returned (.tuple #[.agg #[.int .u32 (0 : Nat), .string ⟨#[]⟩, .string ⟨#[]⟩], .int .i64 0, .int .i64 code]) ∧ Below w.heap.size w w' := by
 obtain ⟨A, c, rfl, _⟩ := id hv
 cases hg : getD b with
 | none => exact (get_short A c d b w hv hb (gx_short _ (by rw [getD_take]; exact hg))).mono fun e w' ⟨h1, h2⟩ => ⟨4, by omega, h1, h2⟩
 | some x =>
  obtain ⟨f, g, h, n⟩ := x
  have hm := hn f g h n hg
  have h1 := hg
  rw [← getD_take] at h1
  obtain ⟨_, e2, e3, e4, _⟩ := gx_some _ _ _ _ _ h1
  exact (get_bad A c d b w hv hb _ e4 (by rw [e2, e3]; exact hm)).mono fun e w' ⟨h1, h2⟩ => ⟨40, by omega, h1, h2⟩
theorem nextX_list (s : St) : nextX s = nextX (some (s.getD [])) := by
 cases s with
 | none => simp [nextX, getD]
 | some l => rfl
theorem nextS_list (s : St) : nextS s = nextS (some (s.getD [])) := by
 cases s with
 | none => simp [nextS, getD_]
 | some l => rfl
theorem nextV_list (s : St) : nextV s = nextV (some (s.getD [])) := by
 cases s with
 | none =>
  unfold nextV
  simp only [Option.getD_none]
  cases hg : getP [] with
  | none => rfl
  | some x =>
   obtain ⟨t, n⟩ := x
   obtain ⟨_, _, _, r, h⟩ := put_get hg
   have := congrArg List.length h
   rw [List.length_append, bytesT_eq, List.length_append, be_length] at this
   exfalso
   simp at this
   omega
 | some l => rfl
theorem shows_num (w : World) (d n : Nat) (hn : n < 18446744073709551616) : ShowsA w { zA with n := n } none 0 d (.int .u8 (0 : Nat)) (.int .u64 (0 : Nat)) (.string ⟨#[]⟩) (.slice none 0 0) (.slice none 0 0) :=
 ⟨⟨hn, by show (0 : Nat) < _; decide, fun s hs => (by cases hs), by show (⟨#[]⟩ : ByteArray).size ≤ _; decide, by show (⟨#[]⟩ : ByteArray).size ≤ _; decide, by show (⟨#[]⟩ : ByteArray).size ≤ _; decide, by show (0 : Nat) ≤ _; omega⟩, ShowsG.nil_ _ _ _, shows_zT w⟩
theorem shows_txt (w : World) (d : Nat) (x : ByteArray) (hx : x.size ≤ 140737488351232) : ShowsA w { zA with s := x } none 0 d (.int .u8 (0 : Nat)) (.int .u64 (0 : Nat)) (.string ⟨#[]⟩) (.slice none 0 0) (.slice none 0 0) :=
 ⟨⟨by show (0 : Nat) < _; decide, by show (0 : Nat) < _; decide, fun s hs => (by cases hs), hx, by show (⟨#[]⟩ : ByteArray).size ≤ _; decide, by show (⟨#[]⟩ : ByteArray).size ≤ _; decide, by show (0 : Nat) ≤ _; omega⟩, ShowsG.nil_ _ _ _, shows_zT w⟩
set_option maxRecDepth 100000 in
set_option maxHeartbeats 4000000 in
theorem number_good (b d : Nat) (l : List UInt8) (q : Nat) (w : World) (h : RM w b d (some l)) (hl : lenS (some l) ≤ 140737488355328) (hq : num (q : Int) = true) (hq8 : q ≤ 8)
  (hql : q ≤ l.length) (e1 : numS (q : Int) (some l) = (numOf (l.take q), some (l.drop q))) (e2 : numS (q : Int) (some (frontS q (some l))) = (numOf (l.take q), some [])) :
  Calls Tryz.prog 58 #[.pointer (some ⟨b, 0, none⟩), .int .i64 q] w (DecSaid b d w ({ zA with n := (numS (q : Int) (some l)).1 }, (numS (q : Int) (some l)).2)) := by
 rw [e1]
 have hnl : numOf (l.take q) < 18446744073709551616 := by
  have := numOf_lt (l.take q)
  have h8 : 256 ^ (l.take q).length ≤ 256 ^ 8 := Nat.pow_le_pow_right (by omega) (by simp; omega)
  omega
 have hb0 : Below w.heap.size w (w.alloc (Obj.cells #[.bool false, .int .u64 0, .string ⟨#[]⟩, .int .u32 0, .string ⟨#[]⟩, .string ⟨#[]⟩, .slice none 0 0, .int .u8 0, .int .u64 0, .string ⟨#[]⟩, .slice none 0 0, .slice none 0 0] 52)) := below_box w _
 have hX := BoxG.zero w
 have hR := h.below hb0
 have hs0 : (w.alloc (Obj.cells #[.bool false, .int .u64 0, .string ⟨#[]⟩, .int .u32 0, .string ⟨#[]⟩, .string ⟨#[]⟩, .slice none 0 0, .int .u8 0, .int .u64 0, .string ⟨#[]⟩, .slice none 0 0, .slice none 0 0] 52)).heap.size = w.heap.size + 1 := by simp
 generalize hW : w.alloc (Obj.cells #[.bool false, .int .u64 0, .string ⟨#[]⟩, .int .u32 0, .string ⟨#[]⟩, .string ⟨#[]⟩, .slice none 0 0, .int .u8 0, .int .u64 0, .string ⟨#[]⟩, .slice none 0 0, .slice none 0 0] 52) = W at *
 have HW := Lib.hid hW
 have hlt := h.lt
 have HX := Lib.hid (And.intro hX (And.intro hR hb0))
 clear hX hR hb0 hW h
 have HF := Lib.hid (front_any b d (some l) q W HX.out.2.1 hl (by omega))
 have HN := Lib.hid (fun g d' w' (hr : RS w' g d' (some (frontS q (some l)))) => (show Calls Tryz.prog 81 #[.pointer (some ⟨g, 0, none⟩), .int .i64 q] w' fun e w'' => e = .returned (.int .u64 (numOf (l.take q))) ∧ RS w'' g d' (some []) ∧ w'.grownBy w'' (some g) by
  have hlf : lenS (some (frontS q (some l))) ≤ 140737488355328 := by simp only [frontS, lenS, List.length_take] at hl ⊢; omega
  have := num_any g d' (some (frontS q (some l))) q w' hr hlf
  rw [e2] at this
  exact this))
 clear e1 e2
 generalize numOf (l.take q) = N at *
 go_enter Tryz.func58, Tryz.ntmps58
 go_upto_region 1 with fail
 rw [HW.out]
 go_wp2_with fail
 refine HF.out.mono ?_
 rintro e w1 ⟨g, d', rfl, hr1, hg1, hd1, hb1⟩
 have hX1 := HX.out.1.kept hb1 (Nat.le_refl _)
 have hR1 := HX.out.2.1.below hb1
 have hB1 : Below w.heap.size w w1 := HX.out.2.2.trans (hb1.mono (by omega))
 go_wp2_with fail
 refine (HN.out g d' w1 hr1).mono ?_
 rintro e w2 ⟨rfl, hr2, hg2⟩
 have hR2 : RM w2 b d (some l) := hR1.grown hg2 (by omega)
 have hX2 : BoxG w2 w.heap.size zA (.slice none 0 0) (.int .u8 (0 : Nat)) (.int .u64 (0 : Nat)) (.string ⟨#[]⟩) (.slice none 0 0) (.slice none 0 0) := (hg2.block _ hX1.lt (fun e => by have := Option.some.inj e; omega)).trans hX1
 have hF2 : Frm2 b b w w2 := (frm_below hB1).grown hg2 (fun k hk => by cases hk; omega)
 have HP2 := Lib.hid (And.intro hR2 (And.intro hX2 hF2))
 have HB := Lib.hid (bad_no g d' [] w2 hr2)
 have HPS := Lib.hid (pass_yes b d l q w2 hR2 hql (by simpa [lenS] using hl))
 clear hR2 hX2 hF2 hr1 hr2 hg2 hb1 hB1 hR1 hX1
 go_wp2_with fail
 refine HB.out.mono ?_
 rintro e w3 ⟨rfl, rfl⟩
 go_wp2_with fail
 refine HPS.out.mono ?_
 rintro e w4 ⟨rfl, hRx, hF4⟩
 have hXx : BoxG w4 w.heap.size zA (.slice none 0 0) (.int .u8 (0 : Nat)) (.int .u64 (0 : Nat)) (.string ⟨#[]⟩) (.slice none 0 0) (.slice none 0 0) := (hF4.block _ HP2.out.2.1.lt (by omega) (by omega)).trans HP2.out.2.1
 have hFx : Frm2 b b w w4 := HP2.out.2.2.trans hF4
 have f0 := hXx.fr 0
 have f1 := hXx.fr 1
 have f2 := hXx.fr 2
 have f3 := hXx.fr 3
 have f4 := hXx.fr 4
 have f5 := hXx.fr 5
 have f6 := hXx.fr 6
 have f7 := hXx.fr 7
 have f8 := hXx.fr 8
 have f9 := hXx.fr 9
 have f10 := hXx.fr 10
 have f11 := hXx.fr 11
 obtain ⟨⟨p0, p1, p2⟩, ⟨p3, p4, p5⟩, p6, p7, p8, p9, p10, p11⟩ := hXx.cells
 obtain ⟨hb12, hsaid⟩ := dec_end (a := { zA with n := N }) (A := none) (c := 0) (dq := 0) rfl hlt hXx hFx hRx (shows_num _ 0 _ (by omega))
 have HE := Lib.hid (And.intro hb12 hsaid)
 clear hb12 hsaid hXx hFx hRx
 go_wp2_with fail
 exact bodyPost_ret (results_cell_row rfl _ _ w.heap.size 52 _ (0, 0) _ rfl HE.out.1 Tryz.underlying52 rfl (by kernel_rfl)) rfl HE.out.2
set_option maxRecDepth 100000 in
set_option maxHeartbeats 4000000 in
theorem number_bad (b d : Nat) (s : St) (q : Nat) (w : World) (h : RM w b d (s)) (hl : lenS (s) ≤ 140737488355328) (hq : num (q : Int) = true) (hq8 : q ≤ 8)
  (e1 : numS (q : Int) s = (0, none)) (e2 : numS (q : Int) (some (frontS q s)) = (0, none)) :
  Calls Tryz.prog 58 #[.pointer (some ⟨b, 0, none⟩), .int .i64 q] w (DecSaid b d w ({ zA with n := (numS (q : Int) (s)).1 }, (numS (q : Int) (s)).2)) := by
 rw [e1]
 have hb0 : Below w.heap.size w (w.alloc (Obj.cells #[.bool false, .int .u64 0, .string ⟨#[]⟩, .int .u32 0, .string ⟨#[]⟩, .string ⟨#[]⟩, .slice none 0 0, .int .u8 0, .int .u64 0, .string ⟨#[]⟩, .slice none 0 0, .slice none 0 0] 52)) := below_box w _
 have hX := BoxG.zero w
 have hR := h.below hb0
 have hs0 : (w.alloc (Obj.cells #[.bool false, .int .u64 0, .string ⟨#[]⟩, .int .u32 0, .string ⟨#[]⟩, .string ⟨#[]⟩, .slice none 0 0, .int .u8 0, .int .u64 0, .string ⟨#[]⟩, .slice none 0 0, .slice none 0 0] 52)).heap.size = w.heap.size + 1 := by simp
 generalize hW : w.alloc (Obj.cells #[.bool false, .int .u64 0, .string ⟨#[]⟩, .int .u32 0, .string ⟨#[]⟩, .string ⟨#[]⟩, .slice none 0 0, .int .u8 0, .int .u64 0, .string ⟨#[]⟩, .slice none 0 0, .slice none 0 0] 52) = W at *
 have HW := Lib.hid hW
 have hlt := h.lt
 have HX := Lib.hid (And.intro hX (And.intro hR hb0))
 clear hX hR hb0 hW h
 have HF := Lib.hid (front_any b d s q W HX.out.2.1 hl (by omega))
 have HN := Lib.hid (fun g d' w' (hr : RS w' g d' (some (frontS q s))) => (show Calls Tryz.prog 81 #[.pointer (some ⟨g, 0, none⟩), .int .i64 q] w' fun e w'' => e = .returned (.int .u64 (0 : Nat)) ∧ RS w'' g d' (none) ∧ w'.grownBy w'' (some g) by
  have hlf : lenS (some (frontS q s)) ≤ 140737488355328 := by cases s <;> simp only [frontS, lenS, List.length_take, List.length_nil] at hl ⊢ <;> omega
  have := num_any g d' (some (frontS q s)) q w' hr hlf
  rw [e2] at this
  exact this))
 clear e1 e2
 go_enter Tryz.func58, Tryz.ntmps58
 go_upto_region 1 with fail
 rw [HW.out]
 go_wp2_with fail
 refine HF.out.mono ?_
 rintro e w1 ⟨g, d', rfl, hr1, hg1, hd1, hb1⟩
 have hX1 := HX.out.1.kept hb1 (Nat.le_refl _)
 have hR1 := HX.out.2.1.below hb1
 have hB1 : Below w.heap.size w w1 := HX.out.2.2.trans (hb1.mono (by omega))
 go_wp2_with fail
 refine (HN.out g d' w1 hr1).mono ?_
 rintro e w2 ⟨rfl, hr2, hg2⟩
 have hR2 : RM w2 b d s := hR1.grown hg2 (by omega)
 have hX2 : BoxG w2 w.heap.size zA (.slice none 0 0) (.int .u8 (0 : Nat)) (.int .u64 (0 : Nat)) (.string ⟨#[]⟩) (.slice none 0 0) (.slice none 0 0) := (hg2.block _ hX1.lt (fun e => by have := Option.some.inj e; omega)).trans hX1
 have hF2 : Frm2 b b w w2 := (frm_below hB1).grown hg2 (fun k hk => by cases hk; omega)
 have HP2 := Lib.hid (And.intro hR2 (And.intro hX2 hF2))
 obtain ⟨lx, hlx⟩ := hr2
 have HB := Lib.hid (bad_yes g d' lx w2 hlx)
 have HPS := Lib.hid (pass_no b d s q w2 hR2)
 clear hR2 hX2 hF2 hr1 hlx hg2 hb1 hB1 hR1 hX1
 go_wp2_with fail
 refine HB.out.mono ?_
 rintro e w3 ⟨rfl, rfl⟩
 go_wp2_with fail
 refine HPS.out.mono ?_
 rintro e w4 ⟨rfl, hRx, hF4⟩
 have hXx : BoxG w4 w.heap.size zA (.slice none 0 0) (.int .u8 (0 : Nat)) (.int .u64 (0 : Nat)) (.string ⟨#[]⟩) (.slice none 0 0) (.slice none 0 0) := (hF4.block _ HP2.out.2.1.lt (by omega) (by omega)).trans HP2.out.2.1
 have hFx : Frm2 b b w w4 := HP2.out.2.2.trans hF4
 have f0 := hXx.fr 0
 have f1 := hXx.fr 1
 have f2 := hXx.fr 2
 have f3 := hXx.fr 3
 have f4 := hXx.fr 4
 have f5 := hXx.fr 5
 have f6 := hXx.fr 6
 have f7 := hXx.fr 7
 have f8 := hXx.fr 8
 have f9 := hXx.fr 9
 have f10 := hXx.fr 10
 have f11 := hXx.fr 11
 obtain ⟨⟨p0, p1, p2⟩, ⟨p3, p4, p5⟩, p6, p7, p8, p9, p10, p11⟩ := hXx.cells
 obtain ⟨hb12, hsaid⟩ := dec_end (a := { zA with n := 0 }) (A := none) (c := 0) (dq := 0) rfl hlt hXx hFx hRx (shows_num _ 0 _ (by omega))
 have HE := Lib.hid (And.intro hb12 hsaid)
 clear hb12 hsaid hXx hFx hRx
 go_wp2_with fail
 exact bodyPost_ret (results_cell_row rfl _ _ w.heap.size 52 _ (0, 0) _ rfl HE.out.1 Tryz.underlying52 rfl (by kernel_rfl)) rfl HE.out.2
theorem mnumber_any (b d : Nat) (s : St) (q : Nat) (w : World) (h : RM w b d s) (hl : lenS s ≤ 140737488355328) (hq : num (q : Int) = true) (hq8 : q ≤ 8) :
  Calls Tryz.prog 58 #[.pointer (some ⟨b, 0, none⟩), .int .i64 q] w (DecSaid b d w ({ zA with n := (numS (q : Int) s).1 }, (numS (q : Int) s).2)) := by
 rcases num_front q s hq with ⟨l, rfl, h1, h2, h3⟩ | ⟨h1, h2⟩
 ·exact number_good b d l q w h hl hq hq8 h1 h2 h3
 ·exact number_bad b d s q w h hl hq hq8 h1 h2
set_option maxRecDepth 100000 in
set_option maxHeartbeats 4000000 in
theorem text1_good (b d : Nat) (l : List UInt8) (w : World) (h : RM w b d (some l)) (hl : lenS (some l) ≤ 140737488351232)
  (X r : List UInt8) (h1 : 1 + X.length ≤ l.length) (h2 : X.length ≤ 255) (e2 : textS 1 255 (some (frontS (1 + 255) (some l))) = (X, some r)) :
  Calls Tryz.prog 85 #[.pointer (some ⟨b, 0, none⟩), .int .i64 1] w (DecSaid b d w ({ zA with s := str8 X }, some (l.drop (1 + X.length)))) := by
 have hb0 : Below w.heap.size w (w.alloc (Obj.cells #[.bool false, .int .u64 0, .string ⟨#[]⟩, .int .u32 0, .string ⟨#[]⟩, .string ⟨#[]⟩, .slice none 0 0, .int .u8 0, .int .u64 0, .string ⟨#[]⟩, .slice none 0 0, .slice none 0 0] 52)) := below_box w _
 have hX := BoxG.zero w
 have hR := h.below hb0
 have hs0 : (w.alloc (Obj.cells #[.bool false, .int .u64 0, .string ⟨#[]⟩, .int .u32 0, .string ⟨#[]⟩, .string ⟨#[]⟩, .slice none 0 0, .int .u8 0, .int .u64 0, .string ⟨#[]⟩, .slice none 0 0, .slice none 0 0] 52)).heap.size = w.heap.size + 1 := by simp
 generalize hW : w.alloc (Obj.cells #[.bool false, .int .u64 0, .string ⟨#[]⟩, .int .u32 0, .string ⟨#[]⟩, .string ⟨#[]⟩, .slice none 0 0, .int .u8 0, .int .u64 0, .string ⟨#[]⟩, .slice none 0 0, .slice none 0 0] 52) = W at *
 have HW := Lib.hid hW
 have hlt := h.lt
 have HX := Lib.hid (And.intro hX (And.intro hR hb0))
 clear hX hR hb0 hW h
 have HF := Lib.hid (front_any b d (some l) (1 + 255) W HX.out.2.1 (by omega) (by omega))
 have HN := Lib.hid (fun g d' w' (hr : RS w' g d' (some (frontS (1 + 255) (some l)))) => (show Calls Tryz.prog 105 #[.pointer (some ⟨g, 0, none⟩), .int .i64 1, .int .i64 255] w' fun e w'' => e = .returned (.string (str8 X)) ∧ RS w'' g d' (some r) ∧ w'.grownBy w'' (some g) by
  have hlf : lenS (some (frontS (1 + 255) (some l))) ≤ 140737488355328 := by simp only [frontS, lenS, List.length_take] at hl ⊢; omega
  have := text_any g d' (some (frontS (1 + 255) (some l))) 1 255 w' hr hlf (by omega) (by omega)
  rw [e2] at this
  exact this))
 have HGR := Lib.hid great1
 have hsz : (str8 X).size = X.length := str8_size _
 clear e2
 obtain ⟨S, hS⟩ : ∃ S, S = str8 X := ⟨_, rfl⟩
 rw [← hS] at HN hsz ⊢
 have HS := Lib.hid hS
 clear hS
 obtain ⟨n, hn⟩ : ∃ n, n = X.length := ⟨_, rfl⟩
 rw [← hn] at hsz h1 h2 ⊢
 clear hn
 have HW64 := Lib.hid (show IntKind.i64.wrap (1 + (n : Int)) = ((1 + n : Nat) : Int) ∧ wrap64 (1 + (n : Int)) = ((1 + n : Nat) : Int) by
  have e : (1 + (n : Int)) = ((1 + n : Nat) : Int) := by omega
  rw [e]; exact ⟨i64_id _ (by omega) (by omega), w64_id _ (by omega) (by omega)⟩)
 go_enter Tryz.func85, Tryz.ntmps85
 go_upto_region 1 with fail
 rw [HW.out]
 go_wp2_with fail
 refine (HGR.out _).mono ?_
 rintro e w1 ⟨rfl, rfl⟩
 go_wp2_with fail
 refine HF.out.mono ?_
 rintro e w1 ⟨g, d', rfl, hr1, hg1, hd1, hb1⟩
 have hX1 := HX.out.1.kept hb1 (Nat.le_refl _)
 have hR1 := HX.out.2.1.below hb1
 have hB1 : Below w.heap.size w w1 := HX.out.2.2.trans (hb1.mono (by omega))
 go_wp2_with fail
 refine (HN.out g d' w1 hr1).mono ?_
 rintro e w2 ⟨rfl, hr2, hg2⟩
 have hR2 : RM w2 b d (some l) := hR1.grown hg2 (by omega)
 have hX2 : BoxG w2 w.heap.size zA (.slice none 0 0) (.int .u8 (0 : Nat)) (.int .u64 (0 : Nat)) (.string ⟨#[]⟩) (.slice none 0 0) (.slice none 0 0) := (hg2.block _ hX1.lt (fun e => by have := Option.some.inj e; omega)).trans hX1
 have hF2 : Frm2 b b w w2 := (frm_below hB1).grown hg2 (fun k hk => by cases hk; omega)
 have HP2 := Lib.hid (And.intro hR2 (And.intro hX2 hF2))
 have HB := Lib.hid (bad_no g d' r w2 hr2)
 have HPS := Lib.hid (pass_yes b d l (1 + n) w2 hR2 h1 (by simp only [lenS] at hl; omega))
 have hsI : (S.size : Int) = (n : Int) := by omega
 obtain ⟨hw1, hw2⟩ := HW64.out
 clear hR2 hX2 hF2 hr1 hr2 hg2 hb1 hB1 hR1 hX1 hsz
 go_wp2_with fail
 refine HB.out.mono ?_
 rintro e w3 ⟨rfl, rfl⟩
 go_wp2_with fail
 refine HPS.out.mono ?_
 rintro e w4 ⟨rfl, hRx, hF4⟩
 have hXx : BoxG w4 w.heap.size zA (.slice none 0 0) (.int .u8 (0 : Nat)) (.int .u64 (0 : Nat)) (.string ⟨#[]⟩) (.slice none 0 0) (.slice none 0 0) := (hF4.block _ HP2.out.2.1.lt (by omega) (by omega)).trans HP2.out.2.1
 have hFx : Frm2 b b w w4 := HP2.out.2.2.trans hF4
 clear hw1 hw2
 have f0 := hXx.fr 0
 have f1 := hXx.fr 1
 have f2 := hXx.fr 2
 have f3 := hXx.fr 3
 have f4 := hXx.fr 4
 have f5 := hXx.fr 5
 have f6 := hXx.fr 6
 have f7 := hXx.fr 7
 have f8 := hXx.fr 8
 have f9 := hXx.fr 9
 have f10 := hXx.fr 10
 have f11 := hXx.fr 11
 obtain ⟨⟨p0, p1, p2⟩, ⟨p3, p4, p5⟩, p6, p7, p8, p9, p10, p11⟩ := hXx.cells
 obtain ⟨hb12, hsaid⟩ := dec_end (a := { zA with s := S }) (A := none) (c := 0) (dq := 0) rfl hlt hXx hFx hRx (shows_txt _ 0 _ (by omega))
 have HE := Lib.hid (And.intro hb12 hsaid)
 clear hb12 hsaid hXx hFx hRx
 go_wp2_with fail
 exact bodyPost_ret (results_cell_row rfl _ _ w.heap.size 52 _ (0, 0) _ rfl HE.out.1 Tryz.underlying52 rfl (by kernel_rfl)) rfl HE.out.2
set_option maxRecDepth 100000 in
set_option maxHeartbeats 4000000 in
theorem text1_bad (b d : Nat) (s : St) (w : World) (h : RM w b d s) (hl : lenS s ≤ 140737488351232)
  (e2 : textS 1 255 (some (frontS (1 + 255) s)) = ([], none)) :
  Calls Tryz.prog 85 #[.pointer (some ⟨b, 0, none⟩), .int .i64 1] w (DecSaid b d w ({ zA with s := str8 [] }, none)) := by
 have hb0 : Below w.heap.size w (w.alloc (Obj.cells #[.bool false, .int .u64 0, .string ⟨#[]⟩, .int .u32 0, .string ⟨#[]⟩, .string ⟨#[]⟩, .slice none 0 0, .int .u8 0, .int .u64 0, .string ⟨#[]⟩, .slice none 0 0, .slice none 0 0] 52)) := below_box w _
 have hX := BoxG.zero w
 have hR := h.below hb0
 have hs0 : (w.alloc (Obj.cells #[.bool false, .int .u64 0, .string ⟨#[]⟩, .int .u32 0, .string ⟨#[]⟩, .string ⟨#[]⟩, .slice none 0 0, .int .u8 0, .int .u64 0, .string ⟨#[]⟩, .slice none 0 0, .slice none 0 0] 52)).heap.size = w.heap.size + 1 := by simp
 generalize hW : w.alloc (Obj.cells #[.bool false, .int .u64 0, .string ⟨#[]⟩, .int .u32 0, .string ⟨#[]⟩, .string ⟨#[]⟩, .slice none 0 0, .int .u8 0, .int .u64 0, .string ⟨#[]⟩, .slice none 0 0, .slice none 0 0] 52) = W at *
 have HW := Lib.hid hW
 have hlt := h.lt
 have HX := Lib.hid (And.intro hX (And.intro hR hb0))
 clear hX hR hb0 hW h
 have HF := Lib.hid (front_any b d s (1 + 255) W HX.out.2.1 (by omega) (by omega))
 have HN := Lib.hid (fun g d' w' (hr : RS w' g d' (some (frontS (1 + 255) s))) => (show Calls Tryz.prog 105 #[.pointer (some ⟨g, 0, none⟩), .int .i64 1, .int .i64 255] w' fun e w'' => e = .returned (.string (str8 [])) ∧ RS w'' g d' (none) ∧ w'.grownBy w'' (some g) by
  have hlf : lenS (some (frontS (1 + 255) s)) ≤ 140737488355328 := by cases s <;> simp only [frontS, lenS, List.length_take, List.length_nil] at hl ⊢ <;> omega
  have := text_any g d' (some (frontS (1 + 255) s)) 1 255 w' hr hlf (by omega) (by omega)
  rw [e2] at this
  exact this))
 have HGR := Lib.hid great1
 have hsz : (str8 []).size = 0 := str8_size _
 clear e2
 obtain ⟨S, hS⟩ : ∃ S, S = str8 [] := ⟨_, rfl⟩
 rw [← hS] at HN hsz ⊢
 have HS := Lib.hid hS
 clear hS
 go_enter Tryz.func85, Tryz.ntmps85
 go_upto_region 1 with fail
 rw [HW.out]
 go_wp2_with fail
 refine (HGR.out _).mono ?_
 rintro e w1 ⟨rfl, rfl⟩
 go_wp2_with fail
 refine HF.out.mono ?_
 rintro e w1 ⟨g, d', rfl, hr1, hg1, hd1, hb1⟩
 have hX1 := HX.out.1.kept hb1 (Nat.le_refl _)
 have hR1 := HX.out.2.1.below hb1
 have hB1 : Below w.heap.size w w1 := HX.out.2.2.trans (hb1.mono (by omega))
 go_wp2_with fail
 refine (HN.out g d' w1 hr1).mono ?_
 rintro e w2 ⟨rfl, hr2, hg2⟩
 have hR2 : RM w2 b d s := hR1.grown hg2 (by omega)
 have hX2 : BoxG w2 w.heap.size zA (.slice none 0 0) (.int .u8 (0 : Nat)) (.int .u64 (0 : Nat)) (.string ⟨#[]⟩) (.slice none 0 0) (.slice none 0 0) := (hg2.block _ hX1.lt (fun e => by have := Option.some.inj e; omega)).trans hX1
 have hF2 : Frm2 b b w w2 := (frm_below hB1).grown hg2 (fun k hk => by cases hk; omega)
 have HP2 := Lib.hid (And.intro hR2 (And.intro hX2 hF2))
 obtain ⟨lx, hlx⟩ := hr2
 have HB := Lib.hid (bad_yes g d' lx w2 hlx)
 have HPS := Lib.hid (fun n => pass_no b d s n w2 hR2)
 clear hR2 hX2 hF2 hr1 hlx hg2 hb1 hB1 hR1 hX1
 go_wp2_with fail
 refine HB.out.mono ?_
 rintro e w3 ⟨rfl, rfl⟩
 go_wp2_with fail
 refine (HPS.out _).mono ?_
 rintro e w4 ⟨rfl, hRx, hF4⟩
 have hXx : BoxG w4 w.heap.size zA (.slice none 0 0) (.int .u8 (0 : Nat)) (.int .u64 (0 : Nat)) (.string ⟨#[]⟩) (.slice none 0 0) (.slice none 0 0) := (hF4.block _ HP2.out.2.1.lt (by omega) (by omega)).trans HP2.out.2.1
 have hFx : Frm2 b b w w4 := HP2.out.2.2.trans hF4
 have f0 := hXx.fr 0
 have f1 := hXx.fr 1
 have f2 := hXx.fr 2
 have f3 := hXx.fr 3
 have f4 := hXx.fr 4
 have f5 := hXx.fr 5
 have f6 := hXx.fr 6
 have f7 := hXx.fr 7
 have f8 := hXx.fr 8
 have f9 := hXx.fr 9
 have f10 := hXx.fr 10
 have f11 := hXx.fr 11
 obtain ⟨⟨p0, p1, p2⟩, ⟨p3, p4, p5⟩, p6, p7, p8, p9, p10, p11⟩ := hXx.cells
 obtain ⟨hb12, hsaid⟩ := dec_end (a := { zA with s := S }) (A := none) (c := 0) (dq := 0) rfl hlt hXx hFx hRx (shows_txt _ 0 _ (by omega))
 have HE := Lib.hid (And.intro hb12 hsaid)
 clear hb12 hsaid hXx hFx hRx
 go_wp2_with fail
 exact bodyPost_ret (results_cell_row rfl _ _ w.heap.size 52 _ (0, 0) _ rfl HE.out.1 Tryz.underlying52 rfl (by kernel_rfl)) rfl HE.out.2
theorem mtext1_any (b d : Nat) (s : St) (w : World) (h : RM w b d s) (hl : lenS s ≤ 140737488351232) :
  Calls Tryz.prog 85 #[.pointer (some ⟨b, 0, none⟩), .int .i64 1] w (DecSaid b d w ({ zA with s := str8 (textS 1 255 s).1 }, (textS 1 255 s).2)) := by
 rcases text_front 1 255 rfl s (by decide) with ⟨l, rfl, h1, h2, h3, h4, r, h5⟩ | ⟨h1, h2⟩
 ·have h3' : (textS 1 255 (some l)).2 = some (l.drop (1 + (textS 1 255 (some l)).1.length)) := h3
  rw [h3']
  exact text1_good b d l w h hl _ r h1 h2 (Prod.ext h4 h5)
 ·have h1' : textS 1 255 s = ([], none) := h1
  rw [h1']
  exact text1_bad b d s w h hl h2
set_option maxRecDepth 100000 in
set_option maxHeartbeats 4000000 in
theorem text2_good (b d : Nat) (l : List UInt8) (w : World) (h : RM w b d (some l)) (hl : lenS (some l) ≤ 140737488351232)
  (X r : List UInt8) (h1 : 2 + X.length ≤ l.length) (h2 : X.length ≤ 65535) (e2 : textS 2 65535 (some (frontS (2 + 65535) (some l))) = (X, some r)) :
  Calls Tryz.prog 85 #[.pointer (some ⟨b, 0, none⟩), .int .i64 2] w (DecSaid b d w ({ zA with s := str8 X }, some (l.drop (2 + X.length)))) := by
 have hb0 : Below w.heap.size w (w.alloc (Obj.cells #[.bool false, .int .u64 0, .string ⟨#[]⟩, .int .u32 0, .string ⟨#[]⟩, .string ⟨#[]⟩, .slice none 0 0, .int .u8 0, .int .u64 0, .string ⟨#[]⟩, .slice none 0 0, .slice none 0 0] 52)) := below_box w _
 have hX := BoxG.zero w
 have hR := h.below hb0
 have hs0 : (w.alloc (Obj.cells #[.bool false, .int .u64 0, .string ⟨#[]⟩, .int .u32 0, .string ⟨#[]⟩, .string ⟨#[]⟩, .slice none 0 0, .int .u8 0, .int .u64 0, .string ⟨#[]⟩, .slice none 0 0, .slice none 0 0] 52)).heap.size = w.heap.size + 1 := by simp
 generalize hW : w.alloc (Obj.cells #[.bool false, .int .u64 0, .string ⟨#[]⟩, .int .u32 0, .string ⟨#[]⟩, .string ⟨#[]⟩, .slice none 0 0, .int .u8 0, .int .u64 0, .string ⟨#[]⟩, .slice none 0 0, .slice none 0 0] 52) = W at *
 have HW := Lib.hid hW
 have hlt := h.lt
 have HX := Lib.hid (And.intro hX (And.intro hR hb0))
 clear hX hR hb0 hW h
 have HF := Lib.hid (front_any b d (some l) (2 + 65535) W HX.out.2.1 (by omega) (by omega))
 have HN := Lib.hid (fun g d' w' (hr : RS w' g d' (some (frontS (2 + 65535) (some l)))) => (show Calls Tryz.prog 105 #[.pointer (some ⟨g, 0, none⟩), .int .i64 2, .int .i64 65535] w' fun e w'' => e = .returned (.string (str8 X)) ∧ RS w'' g d' (some r) ∧ w'.grownBy w'' (some g) by
  have hlf : lenS (some (frontS (2 + 65535) (some l))) ≤ 140737488355328 := by simp only [frontS, lenS, List.length_take] at hl ⊢; omega
  have := text_any g d' (some (frontS (2 + 65535) (some l))) 2 65535 w' hr hlf (by omega) (by omega)
  rw [e2] at this
  exact this))
 have HGR := Lib.hid great2
 have hsz : (str8 X).size = X.length := str8_size _
 clear e2
 obtain ⟨S, hS⟩ : ∃ S, S = str8 X := ⟨_, rfl⟩
 rw [← hS] at HN hsz ⊢
 have HS := Lib.hid hS
 clear hS
 obtain ⟨n, hn⟩ : ∃ n, n = X.length := ⟨_, rfl⟩
 rw [← hn] at hsz h1 h2 ⊢
 clear hn
 have HW64 := Lib.hid (show IntKind.i64.wrap (2 + (n : Int)) = ((2 + n : Nat) : Int) ∧ wrap64 (2 + (n : Int)) = ((2 + n : Nat) : Int) by
  have e : (2 + (n : Int)) = ((2 + n : Nat) : Int) := by omega
  rw [e]; exact ⟨i64_id _ (by omega) (by omega), w64_id _ (by omega) (by omega)⟩)
 go_enter Tryz.func85, Tryz.ntmps85
 go_upto_region 1 with fail
 rw [HW.out]
 go_wp2_with fail
 refine (HGR.out _).mono ?_
 rintro e w1 ⟨rfl, rfl⟩
 go_wp2_with fail
 refine HF.out.mono ?_
 rintro e w1 ⟨g, d', rfl, hr1, hg1, hd1, hb1⟩
 have hX1 := HX.out.1.kept hb1 (Nat.le_refl _)
 have hR1 := HX.out.2.1.below hb1
 have hB1 : Below w.heap.size w w1 := HX.out.2.2.trans (hb1.mono (by omega))
 go_wp2_with fail
 refine (HN.out g d' w1 hr1).mono ?_
 rintro e w2 ⟨rfl, hr2, hg2⟩
 have hR2 : RM w2 b d (some l) := hR1.grown hg2 (by omega)
 have hX2 : BoxG w2 w.heap.size zA (.slice none 0 0) (.int .u8 (0 : Nat)) (.int .u64 (0 : Nat)) (.string ⟨#[]⟩) (.slice none 0 0) (.slice none 0 0) := (hg2.block _ hX1.lt (fun e => by have := Option.some.inj e; omega)).trans hX1
 have hF2 : Frm2 b b w w2 := (frm_below hB1).grown hg2 (fun k hk => by cases hk; omega)
 have HP2 := Lib.hid (And.intro hR2 (And.intro hX2 hF2))
 have HB := Lib.hid (bad_no g d' r w2 hr2)
 have HPS := Lib.hid (pass_yes b d l (2 + n) w2 hR2 h1 (by simp only [lenS] at hl; omega))
 have hsI : (S.size : Int) = (n : Int) := by omega
 obtain ⟨hw1, hw2⟩ := HW64.out
 clear hR2 hX2 hF2 hr1 hr2 hg2 hb1 hB1 hR1 hX1 hsz
 go_wp2_with fail
 refine HB.out.mono ?_
 rintro e w3 ⟨rfl, rfl⟩
 go_wp2_with fail
 refine HPS.out.mono ?_
 rintro e w4 ⟨rfl, hRx, hF4⟩
 have hXx : BoxG w4 w.heap.size zA (.slice none 0 0) (.int .u8 (0 : Nat)) (.int .u64 (0 : Nat)) (.string ⟨#[]⟩) (.slice none 0 0) (.slice none 0 0) := (hF4.block _ HP2.out.2.1.lt (by omega) (by omega)).trans HP2.out.2.1
 have hFx : Frm2 b b w w4 := HP2.out.2.2.trans hF4
 clear hw1 hw2
 have f0 := hXx.fr 0
 have f1 := hXx.fr 1
 have f2 := hXx.fr 2
 have f3 := hXx.fr 3
 have f4 := hXx.fr 4
 have f5 := hXx.fr 5
 have f6 := hXx.fr 6
 have f7 := hXx.fr 7
 have f8 := hXx.fr 8
 have f9 := hXx.fr 9
 have f10 := hXx.fr 10
 have f11 := hXx.fr 11
 obtain ⟨⟨p0, p1, p2⟩, ⟨p3, p4, p5⟩, p6, p7, p8, p9, p10, p11⟩ := hXx.cells
 obtain ⟨hb12, hsaid⟩ := dec_end (a := { zA with s := S }) (A := none) (c := 0) (dq := 0) rfl hlt hXx hFx hRx (shows_txt _ 0 _ (by omega))
 have HE := Lib.hid (And.intro hb12 hsaid)
 clear hb12 hsaid hXx hFx hRx
 go_wp2_with fail
 exact bodyPost_ret (results_cell_row rfl _ _ w.heap.size 52 _ (0, 0) _ rfl HE.out.1 Tryz.underlying52 rfl (by kernel_rfl)) rfl HE.out.2
set_option maxRecDepth 100000 in
set_option maxHeartbeats 4000000 in
theorem text2_bad (b d : Nat) (s : St) (w : World) (h : RM w b d s) (hl : lenS s ≤ 140737488351232)
  (e2 : textS 2 65535 (some (frontS (2 + 65535) s)) = ([], none)) :
  Calls Tryz.prog 85 #[.pointer (some ⟨b, 0, none⟩), .int .i64 2] w (DecSaid b d w ({ zA with s := str8 [] }, none)) := by
 have hb0 : Below w.heap.size w (w.alloc (Obj.cells #[.bool false, .int .u64 0, .string ⟨#[]⟩, .int .u32 0, .string ⟨#[]⟩, .string ⟨#[]⟩, .slice none 0 0, .int .u8 0, .int .u64 0, .string ⟨#[]⟩, .slice none 0 0, .slice none 0 0] 52)) := below_box w _
 have hX := BoxG.zero w
 have hR := h.below hb0
 have hs0 : (w.alloc (Obj.cells #[.bool false, .int .u64 0, .string ⟨#[]⟩, .int .u32 0, .string ⟨#[]⟩, .string ⟨#[]⟩, .slice none 0 0, .int .u8 0, .int .u64 0, .string ⟨#[]⟩, .slice none 0 0, .slice none 0 0] 52)).heap.size = w.heap.size + 1 := by simp
 generalize hW : w.alloc (Obj.cells #[.bool false, .int .u64 0, .string ⟨#[]⟩, .int .u32 0, .string ⟨#[]⟩, .string ⟨#[]⟩, .slice none 0 0, .int .u8 0, .int .u64 0, .string ⟨#[]⟩, .slice none 0 0, .slice none 0 0] 52) = W at *
 have HW := Lib.hid hW
 have hlt := h.lt
 have HX := Lib.hid (And.intro hX (And.intro hR hb0))
 clear hX hR hb0 hW h
 have HF := Lib.hid (front_any b d s (2 + 65535) W HX.out.2.1 (by omega) (by omega))
 have HN := Lib.hid (fun g d' w' (hr : RS w' g d' (some (frontS (2 + 65535) s))) => (show Calls Tryz.prog 105 #[.pointer (some ⟨g, 0, none⟩), .int .i64 2, .int .i64 65535] w' fun e w'' => e = .returned (.string (str8 [])) ∧ RS w'' g d' (none) ∧ w'.grownBy w'' (some g) by
  have hlf : lenS (some (frontS (2 + 65535) s)) ≤ 140737488355328 := by cases s <;> simp only [frontS, lenS, List.length_take, List.length_nil] at hl ⊢ <;> omega
  have := text_any g d' (some (frontS (2 + 65535) s)) 2 65535 w' hr hlf (by omega) (by omega)
  rw [e2] at this
  exact this))
 have HGR := Lib.hid great2
 have hsz : (str8 []).size = 0 := str8_size _
 clear e2
 obtain ⟨S, hS⟩ : ∃ S, S = str8 [] := ⟨_, rfl⟩
 rw [← hS] at HN hsz ⊢
 have HS := Lib.hid hS
 clear hS
 go_enter Tryz.func85, Tryz.ntmps85
 go_upto_region 1 with fail
 rw [HW.out]
 go_wp2_with fail
 refine (HGR.out _).mono ?_
 rintro e w1 ⟨rfl, rfl⟩
 go_wp2_with fail
 refine HF.out.mono ?_
 rintro e w1 ⟨g, d', rfl, hr1, hg1, hd1, hb1⟩
 have hX1 := HX.out.1.kept hb1 (Nat.le_refl _)
 have hR1 := HX.out.2.1.below hb1
 have hB1 : Below w.heap.size w w1 := HX.out.2.2.trans (hb1.mono (by omega))
 go_wp2_with fail
 refine (HN.out g d' w1 hr1).mono ?_
 rintro e w2 ⟨rfl, hr2, hg2⟩
 have hR2 : RM w2 b d s := hR1.grown hg2 (by omega)
 have hX2 : BoxG w2 w.heap.size zA (.slice none 0 0) (.int .u8 (0 : Nat)) (.int .u64 (0 : Nat)) (.string ⟨#[]⟩) (.slice none 0 0) (.slice none 0 0) := (hg2.block _ hX1.lt (fun e => by have := Option.some.inj e; omega)).trans hX1
 have hF2 : Frm2 b b w w2 := (frm_below hB1).grown hg2 (fun k hk => by cases hk; omega)
 have HP2 := Lib.hid (And.intro hR2 (And.intro hX2 hF2))
 obtain ⟨lx, hlx⟩ := hr2
 have HB := Lib.hid (bad_yes g d' lx w2 hlx)
 have HPS := Lib.hid (fun n => pass_no b d s n w2 hR2)
 clear hR2 hX2 hF2 hr1 hlx hg2 hb1 hB1 hR1 hX1
 go_wp2_with fail
 refine HB.out.mono ?_
 rintro e w3 ⟨rfl, rfl⟩
 go_wp2_with fail
 refine (HPS.out _).mono ?_
 rintro e w4 ⟨rfl, hRx, hF4⟩
 have hXx : BoxG w4 w.heap.size zA (.slice none 0 0) (.int .u8 (0 : Nat)) (.int .u64 (0 : Nat)) (.string ⟨#[]⟩) (.slice none 0 0) (.slice none 0 0) := (hF4.block _ HP2.out.2.1.lt (by omega) (by omega)).trans HP2.out.2.1
 have hFx : Frm2 b b w w4 := HP2.out.2.2.trans hF4
 have f0 := hXx.fr 0
 have f1 := hXx.fr 1
 have f2 := hXx.fr 2
 have f3 := hXx.fr 3
 have f4 := hXx.fr 4
 have f5 := hXx.fr 5
 have f6 := hXx.fr 6
 have f7 := hXx.fr 7
 have f8 := hXx.fr 8
 have f9 := hXx.fr 9
 have f10 := hXx.fr 10
 have f11 := hXx.fr 11
 obtain ⟨⟨p0, p1, p2⟩, ⟨p3, p4, p5⟩, p6, p7, p8, p9, p10, p11⟩ := hXx.cells
 obtain ⟨hb12, hsaid⟩ := dec_end (a := { zA with s := S }) (A := none) (c := 0) (dq := 0) rfl hlt hXx hFx hRx (shows_txt _ 0 _ (by omega))
 have HE := Lib.hid (And.intro hb12 hsaid)
 clear hb12 hsaid hXx hFx hRx
 go_wp2_with fail
 exact bodyPost_ret (results_cell_row rfl _ _ w.heap.size 52 _ (0, 0) _ rfl HE.out.1 Tryz.underlying52 rfl (by kernel_rfl)) rfl HE.out.2
theorem mtext2_any (b d : Nat) (s : St) (w : World) (h : RM w b d s) (hl : lenS s ≤ 140737488351232) :
  Calls Tryz.prog 85 #[.pointer (some ⟨b, 0, none⟩), .int .i64 2] w (DecSaid b d w ({ zA with s := str8 (textS 2 65535 s).1 }, (textS 2 65535 s).2)) := by
 rcases text_front 2 65535 rfl s (by decide) with ⟨l, rfl, h1, h2, h3, h4, r, h5⟩ | ⟨h1, h2⟩
 ·have h3' : (textS 2 65535 (some l)).2 = some (l.drop (2 + (textS 2 65535 (some l)).1.length)) := h3
  rw [h3']
  exact text2_good b d l w h hl _ r h1 h2 (Prod.ext h4 h5)
 ·have h1' : textS 2 65535 s = ([], none) := h1
  rw [h1']
  exact text2_bad b d s w h hl h2
end Go.Proofs.YtpbdnfonflmncaaGreat
