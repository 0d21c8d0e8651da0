/-
  For at most 30 frames and one more of which a beginning stands behind their bytes: Scan of package frame tells just these frames, and no error.
  Conditions: none.
-/
import Derived.Test.YtdjdhnopieeibaaFrS
import Derived.Test.YtdjdhnopieeibaaFrO
import Derived.Deep.RegionLaw
import Derived.Deep.CutRange
import Derived.Deep.CutBlock
import Derived.Deep.DeepCutAuto
namespace Go.Proofs.Ytdjdhnopieeibaa
open Go.ChangeShapes Go.WideShapes Go.ChangeAt Go.RowKit
open Go.ChangeMaps (open_string shut_string)
set_option linter.unusedVariables false
set_option linter.unusedSimpArgs false

/-- 'append' of bytes that are shown, at a step of a region that draws its order. -/
theorem step_append8 {P : Program} (w : World) {ops : Array Oper} {o : Oper} {a : Act} {K : Act → World → Prop} {Q : Exit → Act → World → Prop} {E : Prop} (hgd : o.guard = none) (s x : Operand) (t : TypeId)
    (ho : o.op = .call { callee := .builtin .append, args := #[s, x], argTypes := #[t, t] })
    (base : Nat) (e : TypeId) (ht : P.underlying t = some (.slice e)) (hi : (P.info? e).map (fun i => (i.zero, i.size, i.bytes)) = some (some (.int .u8 0), 1, 1))
    (v : Value) (l : List UInt8) (hs : a.eval s = v) (hown : Own e w base v l) (d : Nat) (y : Value) (m : List UInt8) (hx : a.eval x = y) (hm : Shows w d y m)
    (hb : l.length + m.length ≤ 140737488355328) (hbase : base ≤ w.heap.size)
    (h : ∀ v' w', Own e w' base v' (l ++ m) → w.grownBy w' v.ownBlock → K (a.put o.dst v') w') :
    if Region.wanted o (yielded ops a.tmps) = true then Oper.wp P o a w K Q else E := by
  have hw : Region.wanted o (yielded ops a.tmps) = true := by simp [Region.wanted, hgd]
  rw [if_pos hw]
  obtain ⟨i, hi0, hz, hs1, hb1⟩ := info_parts hi
  obtain ⟨v', w', hr, h2, h3⟩ := run_append_own8 (P := P) w base t o.type e i ht hi0 hz hs1 hb1 v l hown d y m hm hb hbase
  unfold Oper.wp execOp
  simp only [ho, resolve, invoke, builtin, Sem.run_bind, Sem.run_pure, Result.andThen_ok, List.map_toArray, List.map_cons, List.map_nil, hs, hx, hr]
  exact h v' w' h2 h3

theorem cut_wraps (cut : Nat) (h : cut < 65536) : IntKind.i64.wrap (cut : Int) = (cut : Int) ∧ wrap64 (cut : Int) = (cut : Int) := ⟨by rw [IntKind.wrap_i64]; omega, w64_id _ (by omega) (by omega)⟩

set_option maxRecDepth 100000 in
set_option maxHeartbeats 40000000 in
theorem fback_walk (A : Option Addr) (c d : Nat) (l : List Fr) (f : Fr) (cut : Nat) (w : World) (h : ShowsG frC w d (.slice A l.length c) l) (hok : ∀ f ∈ l, f.ok) (hll : l.length ≤ 5864062014636) (hf : f.ok) (hcut : cut < 65536) :
    Calls Try.prog 4 #[.slice A l.length c, .agg f.vs.toArray, .int .u16 cut] w fun e w' => e = .returned (.bool true) ∧ Below w.heap.size w w' := by
  obtain ⟨_, hlc, hcm⟩ := h.lens
  have HX := Lib.hid (BoxF.new w f)
  have HB0 := Lib.hid (below_box w (Obj.cells #[.bool f.a, .bool f.b, .bool f.c, .bool f.d, .int .u8 f.t, .int .u8 f.k, .int .u16 f.ch, .string f.p] 40))
  have HH := Lib.hid fhead_any
  have HC := Lib.hid (fun w => fcheck_any f w hf.2.2.2)
  by_cases hlong : 30 < l.length
  · have hi : (30 : Int) < (l.length : Int) := by omega
    clear h hok
    obtain ⟨fa, fb, fc, fd, ft, fk, fch, fp⟩ := f
    simp only [Fr.vs] at *
    go_enter Try.func4, Try.ntmps4
    go_wp2_with fail
    refine (HH.out _).mono ?_
    rintro e w4 ⟨rfl, hb4⟩
    go_wp2_with fail
    go_ret
    exact ⟨rfl, HB0.out.trans (hb4.mono HB0.out.size)⟩
  · have hi : ¬ (30 : Int) < (l.length : Int) := by omega
    by_cases hc : checkF f = 0
    · have hmay : f.may := ⟨hf, hc⟩
      have hml := mayL_len l
      have hmm := mayL_may hok
      have hel := encL_len (mayL l) hmm
      have hfl := encF_length f
      have hfle := checkF_le hc
      have HP := Lib.hid (fun w => fput_ok f w hf hc)
      have HBY := Lib.hid (fun w' (hb : Below w.heap.size w w') => fbytes_any A c d l w' (shows_keepG h hb) (by omega) hok)
      obtain ⟨j, hj⟩ : ∃ j, j = cut % (encF f).length := ⟨_, rfl⟩
      have hjl : j < (encF f).length := by rw [hj]; exact Nat.mod_lt _ (by omega)
      have hbk := scan_back (mayL l) hmm f hmay j hjl
      have HSC := Lib.hid (fun A c d w h => scan_any A c d (encL (mayL l) ++ (encF f).take j) w h (by rw [List.length_append, List.length_take]; omega))
      unfold ScanSaid at HSC
      rw [hbk.1, hbk.2] at HSC
      rw [hc] at HC
      have hjI : (cut : Int).tmod ((encF f).length : Int) = (j : Int) := by
        rw [hj, Int.tmod_eq_emod_of_nonneg (by omega)]
        rfl
      have hmlen : (mayL l).length ≤ 30 := by omega
      have hEl : (encL (mayL l)).length ≤ 122880 := by omega
      have hXl : (encF f).length ≤ 4096 := by omega
      have hXl1 : 12 ≤ (encF f).length := by omega
      have HJ := Lib.hid hjI
      clear hbk hj hjI hmay hmm hel hfl hfle hml h hok hc hf
      generalize encF f = X at *
      generalize mayL l = M at *
      generalize encL M = E at *
      obtain ⟨EX, hEX⟩ : ∃ EX, EX = E ++ X.take j := ⟨_, rfl⟩
      rw [← hEX] at HSC
      have HEX := Lib.hid hEX
      clear hEX
      obtain ⟨fa, fb, fc, fd, ft, fk, fch, fp⟩ := f
      simp only [Fr.vs] at *
      go_enter Try.func4, Try.ntmps4
      go_wp2_with fail
      refine (HC.out _).mono ?_
      rintro e w1 ⟨rfl, hb1⟩
      have HB1 := Lib.hid (HB0.out.trans (hb1.mono HB0.out.size))
      have HX1 := Lib.hid (HX.out.kept hb1 (Nat.le_refl _))
      clear hb1
      go_wp2_with fail
      refine (HBY.out _ HB1.out).mono ?_
      rintro e w2 ⟨v7, v8, rfl, ho7, hg8, hb2⟩
      have HB2 := Lib.hid (HB1.out.trans (hb2.mono HB1.out.size))
      have hX2 := HX1.out.kept hb2 (Nat.le_refl _)
      have HX2 := Lib.hid hX2
      obtain ⟨g7, _, hs7⟩ := ho7.shows
      obtain ⟨g8, _, hs8⟩ := hg8.shows
      obtain ⟨A7, c7, hv7, _, _⟩ := ho7.form
      obtain ⟨A8, c8, hv8, _, _⟩ := hg8.form
      subst hv7
      subst hv8
      have HS7 := Lib.hid hs7
      have HS8 := Lib.hid hs8
      have x0 := hX2.c0
      have x1 := hX2.c1
      have x2 := hX2.c2
      have x3 := hX2.c3
      have x4 := hX2.c4
      have x5 := hX2.c5
      have x6 := hX2.c6
      have x7 := hX2.c7
      clear hb2 hX2 ho7 hg8 hs7 hs8
      go_wp2_with fail
      refine (HP.out _).mono ?_
      rintro e w3 ⟨v9, rfl, ho9, hb3⟩
      have HB3 := Lib.hid (HB2.out.trans (hb3.mono HB2.out.size))
      obtain ⟨g9, _, hs9⟩ := ho9.shows
      obtain ⟨A9, c9, hv9, hx9, _⟩ := ho9.form
      subst hv9
      have HS9 := Lib.hid hs9
      have HS73 := Lib.hid (shows_kept HS7.out hb3)
      have HS83 := Lib.hid (shows_keepG HS8.out hb3)
      clear x0 x1 x2 x3 x4 x5 x6 x7 hb3 ho9 hs9
      have hXne : (((X.length : Nat) : Int) == 0) = false := by rw [beq_eq_false_iff_ne]; omega
      go_upto_region 7 with fail
      have hs7d := HS73.out.drew
      have hXn : ¬ X = [] := fun e => by rw [e] at hXl1; simp at hXl1
      have hjc : j ≤ c9 := by omega
      have hj0 : (0 : Int) ≤ (j : Int) := by omega
      have hjcI : (j : Int) ≤ (c9 : Int) := by omega
      have HJX := Lib.hid (show j ≤ X.length by omega)
      have hle1 : ([] : List UInt8).length + E.length ≤ 140737488355328 := by simp; omega
      have hle2 : E.length + (X.take j).length ≤ 140737488355328 := by simp; omega
      have hjt := HJ.out
      obtain ⟨hcw, hcw2⟩ := cut_wraps cut hcut
      go_cut [11, 12, 13] from 40 to 55 (fun x y z wx => y = .int .i64 E.length ∧ z = .int .i64 0 ∧ OwnG frC 40 wx w3.heap.size x M ∧ Below w3.heap.size w3 wx)
      case first =>
        clear HC HBY HP HX HX1 HX2 HB0 HB1 HB2 HS7 HS8 HS83 HJ HH HB3 HS73 hXne hi hll hlong hcut hjl
        generalize Value.agg #[.bool fa, .bool fb, .bool fc, .bool fd, .int .u8 ft, .int .u8 fk, .int .u16 fch, .string fp] = FV at *
        generalize Value.tuple #[.slice A7 E.length c7, .slice A8 M.length c8] = T1 at *
        generalize Value.tuple #[.slice A9 X.length c9, .int .i64 0] = T2 at *
        generalize Value.slice A8 M.length c8 = V8 at *
        generalize hV7 : Value.slice A7 E.length c7 = V7 at *
        generalize Value.slice A l.length c = V0 at *
        go_region_law (first
          | (refine step_append8 (o := ⟨some 42, _, _, _, _, _⟩) _ rfl (.const (.slice none 0 0)) (.tmp 41) 22 rfl w3.heap.size 5 Try.underlying22 info5 (.slice none 0 0) [] rfl (Own.nil_ _ _ _) g7 _ E rfl hs7d hle1 (Nat.le_refl _) ?_
             intro v4 w4 ho4 hg4
             rw [List.nil_append] at ho4
             have hb4 : Below w3.heap.size w3 w4 := (below_drew1 (Below.refl _ _)).grown hg4 (Nat.le_refl _) (by simp [Value.ownBlock])
             have hs94 := (shows_kept HS9.out hb4).head HJX.out)
          | (refine step_append8 (o := ⟨some 50, _, _, _, _, _⟩) _ rfl (.tmp 42) (.tmp 49) 22 rfl w3.heap.size 5 Try.underlying22 info5 v4 E rfl ho4 g9 _ (X.take j) rfl hs94 hle2 hb4.size ?_
             intro v5 w5 ho5 hg5
             rw [← HEX.out] at ho5
             have hb5 : Below w3.heap.size w3 w5 := hb4.grown hg5 hb4.size (fun k hk => (ho4.block k hk).1)
             obtain ⟨g5, _, hs5⟩ := ho5.shows
             obtain ⟨A5, c5, hv5, _, _⟩ := ho5.form
             subst hv5
             have HC5 := Lib.hid (HSC.out A5 c5 g5 w5 hs5))
          | (go_simp; go_at_call 18
             with_reducible refine (HC5.out).mono ?_
             rintro e w6 ⟨v6, rfl, ho6, hb6⟩))
        all_goals
          clear hcw hcw2 hjt HC5 hs5 ho5 hg5 hb4 hg4 ho4 hs94 hs7d
          go_wp2_with fail
          go_meet
          exact ⟨rfl, rfl, ho6.mono hb5.size, hb5.trans (hb6.mono hb5.size)⟩
      case rest =>
        obtain ⟨rfl, rfl, ho6, hb6⟩ := hcut
        rename World => w6
        clear hcw hcw2 hjt
        have HB6 := Lib.hid (HB3.out.trans (hb6.mono HB3.out.size))
        have hs86 := shows_keepG HS83.out hb6
        obtain ⟨g6, _, hs6⟩ := ho6.shows
        obtain ⟨A6, c6, hv6, _, _⟩ := ho6.form
        subst hv6
        have HSM := Lib.hid (qfsame_true A6 A8 c6 c8 M.length M.length g6 g8 M M w6 rfl rfl hs6 hs86 (by omega) (by omega) rfl)
        clear ho6 hs6 hs86 hb6 hs7d
        go_wp2_with fail
        refine HSM.out.mono ?_
        rintro e w7 ⟨rfl, q, rfl⟩
        go_wp2_with fail
        refine (HH.out _).mono ?_
        rintro e w8 ⟨rfl, hb8⟩
        go_wp2_with fail
        go_ret
        exact ⟨rfl, (below_drewN HB6.out q).trans (hb8.mono HB6.out.size)⟩
    · have hi2 := checkF_no hc
      rw [hi2] at HC
      clear h hok hi2 hc hf
      obtain ⟨fa, fb, fc, fd, ft, fk, fch, fp⟩ := f
      simp only [Fr.vs] at *
      go_enter Try.func4, Try.ntmps4
      go_wp2_with fail
      refine (HC.out _).mono ?_
      rintro e w1 ⟨rfl, hb1⟩
      have HB1 := Lib.hid (HB0.out.trans (hb1.mono HB0.out.size))
      clear hb1
      go_wp2_with fail
      refine (HH.out _).mono ?_
      rintro e w4 ⟨rfl, hb4⟩
      go_wp2_with fail
      go_ret
      exact ⟨rfl, HB1.out.trans (hb4.mono HB1.out.size)⟩

end Go.Proofs.Ytdjdhnopieeibaa
