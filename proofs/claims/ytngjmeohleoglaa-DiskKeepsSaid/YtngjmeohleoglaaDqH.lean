/-
  The document's calls of disks, further: Append.
  Conditions: none but sizes.
-/
import Derived.Test.YtngjmeohleoglaaDqG
import Derived.StillTailTactics
import Derived.Laws.Concat
namespace Go.Proofs.Ytngjmeohleoglaa
open Go.RowKit Go.Shelf
set_option linter.unusedVariables false
set_option linter.unusedSimpArgs false
set_option maxRecDepth 100000

section
variable {w0 w w' : World} {base qb n : Nat} {F : Nat → Prop} {v v' : Value} {st st' : DD}
theorem str8_app (a b : List UInt8) : str8 a ++ str8 b = str8 (a ++ b) := by
  apply ByteArray.ext
  simp [str8, ByteArray.data_append]
theorem qburns_f (h : AtQ w0 base qb F v st w) (hw : st.fuse ≤ 9223372036854775807) (hd : st.down = false) : Calls Try.prog 53 #[.pointer (some ⟨qb, 0, none⟩)] w fun e w' =>
    (st.fuse = 1 ∧ e = .returned (.bool true) ∧ AtQ w0 base qb F v { st with fuse := 0, down := true } w') ∨ (st.fuse ≠ 1 ∧ e = .returned (.bool false) ∧ AtQ w0 base qb F v { st with fuse := st.fuse - 1 } w') := by
  refine (qburns_any h.disk hw hd).mono fun e w' ⟨h1, h2, h3⟩ => ?_
  obtain ⟨sroom, sfuse, sdown, sfs⟩ := st
  simp only at hd h1 h2 ⊢
  subst hd
  by_cases c : sfuse = 1
  · subst c
    exact .inl ⟨rfl, h1, h.same h2 h3⟩
  · refine .inr ⟨c, by rw [h1]; simp [c], h.same ?_ h3⟩
    rw [show decide (sfuse = 1) = false by simpa using c] at h2
    exact h2

theorem qappend_any (h : AtQ w0 base qb F v st w) (hw : DWf n st) (hn : n ≤ 1000000) (q : DName) (hq : q.length ≤ 140737488355328) (x : List UInt8) (hx : x.length ≤ 140737488355328) :
    Calls Try.prog 24 #[.pointer (some ⟨qb, 0, none⟩), .string (str8 q), .string (str8 x)] w (QSaid w0 base qb F (appendD st q x)) := by
  obtain ⟨R, hR⟩ : ∃ R, R = appendD st q x := ⟨_, rfl⟩
  rw [← hR]
  have HD := Lib.hid (qfindD_any h.disk hw.rising q (by have := hw.count; omega))
  have hM := qmay_any (str8 q) w (by rw [str8_size]; exact hq)
  rw [sb_str8] at hM
  have c3 := h.disk.box.c3
  cases hd : st.down with
  | true =>
    rw [hd] at c3
    have HE := Lib.hid (show QSaid w0 base qb F R (.returned (.int .i64 100)) w from by rw [hR, appendD, if_pos hd]; exact ⟨rfl, v, h⟩)
    clear h hR hw hd hM
    go_enter Try.func24, Try.ntmps24
    go_wp2_with fail
    go_ret
    exact HE.out
  | false =>
    rw [hd] at c3
    cases hok : okName q with
    | false =>
      rw [hok] at hM
      have HE := Lib.hid (show QSaid w0 base qb F R (.returned (.int .i64 2)) w from by rw [hR, appendD, if_neg (by simp [hd]), if_pos hok]; exact ⟨rfl, v, h⟩)
      have HM := Lib.hid hM
      clear h hR hw hd hM hok
      go_enter Try.func24, Try.ntmps24
      go_wp2_with fail
      refine (HM.out).mono ?_
      rintro e w2 ⟨rfl, rfl⟩
      go_wp2_with fail
      go_ret
      exact HE.out
    | true =>
      rw [hok] at hM
      have HM := Lib.hid hM
      have hz := str8_size x
      obtain ⟨D, hD⟩ : ∃ D : Nat, D = st.room - usedL st.fs := ⟨_, rfl⟩
      have hwu := hw.used
      have hwr := hw.room
      have s2 : IntKind.i64.wrap ((st.room : Int) - (usedL st.fs : Int)) = (D : Int) := by rw [i64_id _ (by omega) (by omega)]; omega
      have HU := Lib.hid (fun m => qused_any (h.disk.drewN m) (by omega) (by have := hw.count; omega))
      have d1 := h.disk.box.c1
      have hcn := hw.count
      cases hg : getA q st.fs with
      | none =>
        have hold : oldF st q = ⟨[], 0⟩ := by rw [oldF, hg]; rfl
        by_cases h1 : 1048576 < x.length
        · have HE := Lib.hid (show QSaid w0 base qb F R (.returned (.int .i64 3)) w from by
            rw [hR, appendD, if_neg (by simp [hd]), if_neg (by simp [hok]), hold, if_pos (by simp; omega)]
            exact ⟨rfl, v, h⟩)
          have b1 : (1048576 : Int) < (x.length : Int) := by omega
          have HG := Lib.hid hg
          have HA := Lib.hid h
          have HN := Lib.hid hn
          clear h hR hw hd hM hok hg hold hwu hwr hcn hD h1
          go_enter Try.func24, Try.ntmps24
          go_wp2_with fail
          refine (HM.out).mono ?_
          rintro e w1 ⟨rfl, rfl⟩
          go_wp2_with fail
          refine (HD.out).mono ?_
          rintro e w2 ⟨r, rfl, hf, rfl⟩
          obtain rfl := found_none hf HG.out
          clear hf
          go_wp2_with fail
          go_ret
          exact HE.out
        have b1 : ¬ (1048576 : Int) < (x.length : Int) := by omega
        by_cases h2 : D < x.length
        · have HE := Lib.hid (show QSaid w0 base qb F R (.returned (.int .i64 6)) (w.drewN 0) from by
            rw [hR, appendD, if_neg (by simp [hd]), if_neg (by simp [hok]), hold, if_neg (by simp; omega), if_pos (by omega)]
            exact ⟨rfl, v, h.drewN 0⟩)
          have HE := Lib.hid (show ∀ k, QSaid w0 base qb F R (.returned (.int .i64 6)) (w.drewN k) from fun k => by
            rw [hR, appendD, if_neg (by simp [hd]), if_neg (by simp [hok]), hold, if_neg (by simp; omega), if_pos (by omega)]
            exact ⟨rfl, v, h.drewN k⟩)
          have b2 : (D : Int) < (x.length : Int) := by omega
          have HG := Lib.hid hg
          have HA := Lib.hid h
          have HN := Lib.hid hn
          clear h hR hw hd hM hok hg hold hwu hwr hcn hD h1 h2
          go_enter Try.func24, Try.ntmps24
          go_wp2_with fail
          refine (HM.out).mono ?_
          rintro e w1 ⟨rfl, rfl⟩
          go_wp2_with fail
          refine (HD.out).mono ?_
          rintro e w2 ⟨r, rfl, hf, rfl⟩
          obtain rfl := found_none hf HG.out
          clear hf
          go_wp2_with fail
          go_quiet ((go_at_call 38; first | exact Calls.quiet_of_same (HU.out _) | exact Calls.quiet_of_same ((HU.out _).mono fun _ _ ⟨a, b⟩ => ⟨a, b.symm⟩)))
          go_wp2_with fail
          go_ret
          exact HE.out _
        have b2 : ¬ (D : Int) < (x.length : Int) := by omega
        have hR2 : R = opD st true (insS q ⟨x, 0⟩ st.fs) := by
          rw [hR, appendD, if_neg (by simp [hd]), if_neg (by simp [hok]), hold, if_neg (by simp; omega), if_neg (by omega), setS, used_del_none hg]
          rfl
        have HR := Lib.hid hR2
        have HP := Lib.hid (fun k => show Calls Try.prog 52 #[.pointer (some ⟨qb, 0, none⟩), .agg #[.string (str8 q), .string (str8 x), .int .i64 0]] (w.drewN k) (QGone w0 base qb F { st with fs := insS q ⟨x, 0⟩ st.fs }) from qput_at (h.drewN k) q ⟨x, 0⟩ (by omega))
        have HF := Lib.hid (And.intro hw.fuse hd)
        have HG := Lib.hid hg
        have HA := Lib.hid h
        have HN := Lib.hid hn
        clear h hR hw hd hM hok hg hold hwu hwr hcn hD h1 h2 hR2
        go_enter Try.func24, Try.ntmps24
        go_wp2_with fail
        refine (HM.out).mono ?_
        rintro e w1 ⟨rfl, rfl⟩
        go_wp2_with fail
        refine (HD.out).mono ?_
        rintro e w2 ⟨r, rfl, hf, rfl⟩
        obtain rfl := found_none hf HG.out
        clear hf
        go_wp2_with fail
        go_quiet ((go_at_call 38; first | exact Calls.quiet_of_same (HU.out _) | exact Calls.quiet_of_same ((HU.out _).mono fun _ _ ⟨a, b⟩ => ⟨a, b.symm⟩)))
        go_wp2_with fail
        refine (HP.out _).mono ?_
        rintro e w4 ⟨rfl, v4, ha4⟩
        have HB := Lib.hid (qburns_f ha4 HF.out.1 HF.out.2)
        clear ha4
        go_wp2_with fail
        refine (HB.out).mono ?_
        rintro e w5 (⟨hf1, rfl, ha⟩ | ⟨hf1, rfl, ha⟩)
        · have HE := Lib.hid (show QSaid w0 base qb F R (.returned (.int .i64 100)) w5 from by rw [HR.out, opD, if_pos hf1]; exact ⟨rfl, _, ha⟩)
          clear hf1 ha
          go_wp2_with fail
          go_ret
          exact HE.out
        · have HE := Lib.hid (show QSaid w0 base qb F R (.returned (.int .i64 0)) w5 from by rw [HR.out, opD, if_neg hf1]; exact ⟨rfl, _, ha⟩)
          clear hf1 ha
          go_wp2_with fail
          go_ret
          exact HE.out
      | some f =>
        have hold : oldF st q = f := by rw [oldF, hg]; rfl
        have hfb : f.b.length ≤ 1048576 := (hw.each _ (getA_mem hg)).2.1
        obtain ⟨E, hE⟩ : ∃ E : Nat, E = 1048576 - f.b.length := ⟨_, rfl⟩
        have hzf := str8_size f.b
        have s1 : IntKind.i64.wrap ((1048576 : Int) - (f.b.length : Int)) = (E : Int) := by rw [i64_id _ (by omega) (by omega)]; omega
        by_cases h1 : E < x.length
        · have HE := Lib.hid (show QSaid w0 base qb F R (.returned (.int .i64 3)) w from by
            rw [hR, appendD, if_neg (by simp [hd]), if_neg (by simp [hok]), hold, if_pos (by simp; omega)]
            exact ⟨rfl, v, h⟩)
          have b1 : (E : Int) < (x.length : Int) := by omega
          have HG := Lib.hid hg
          have HA := Lib.hid h
          have HN := Lib.hid hn
          clear h hR hw hd hM hok hg hold hwu hwr hcn hD hE hfb h1
          go_enter Try.func24, Try.ntmps24
          go_wp2_with fail
          refine (HM.out).mono ?_
          rintro e w1 ⟨rfl, rfl⟩
          go_wp2_with fail
          refine (HD.out).mono ?_
          rintro e w2 ⟨r, rfl, hf, rfl⟩
          obtain ⟨i, rfl, hi⟩ := found_some hf HG.out
          have HI := Lib.hid hi
          have i0 : ¬ (i : Int) < 0 := by omega
          have i1 : (0 : Int) ≤ (i : Int) := by omega
          clear hf hi
          obtain ⟨b, c, hv, k0, k1, k2, hfr, hil⟩ := HA.out.at_ (i := i) HI.out
          have d0 := HA.out.disk.box.c0
          have bi : (i : Int) < (st.fs.length : Int) := by omega
          subst hv
          have HIL := Lib.hid hil
          clear k0 hil k2 hfr
          go_wp2_with fail
          go_ret
          exact HE.out
        have b1 : ¬ (E : Int) < (x.length : Int) := by omega
        by_cases h2 : D < x.length
        · have HE := Lib.hid (show QSaid w0 base qb F R (.returned (.int .i64 6)) (w.drewN 0) from by
            rw [hR, appendD, if_neg (by simp [hd]), if_neg (by simp [hok]), hold, if_neg (by simp; omega), if_pos (by omega)]
            exact ⟨rfl, v, h.drewN 0⟩)
          have HE := Lib.hid (show ∀ k, QSaid w0 base qb F R (.returned (.int .i64 6)) (w.drewN k) from fun k => by
            rw [hR, appendD, if_neg (by simp [hd]), if_neg (by simp [hok]), hold, if_neg (by simp; omega), if_pos (by omega)]
            exact ⟨rfl, v, h.drewN k⟩)
          have b2 : (D : Int) < (x.length : Int) := by omega
          have HG := Lib.hid hg
          have HA := Lib.hid h
          have HN := Lib.hid hn
          clear h hR hw hd hM hok hg hold hwu hwr hcn hD hE hfb h1 h2
          go_enter Try.func24, Try.ntmps24
          go_wp2_with fail
          refine (HM.out).mono ?_
          rintro e w1 ⟨rfl, rfl⟩
          go_wp2_with fail
          refine (HD.out).mono ?_
          rintro e w2 ⟨r, rfl, hf, rfl⟩
          obtain ⟨i, rfl, hi⟩ := found_some hf HG.out
          have HI := Lib.hid hi
          have i0 : ¬ (i : Int) < 0 := by omega
          have i1 : (0 : Int) ≤ (i : Int) := by omega
          clear hf hi
          obtain ⟨b, c, hv, k0, k1, k2, hfr, hil⟩ := HA.out.at_ (i := i) HI.out
          have d0 := HA.out.disk.box.c0
          have bi : (i : Int) < (st.fs.length : Int) := by omega
          subst hv
          have HIL := Lib.hid hil
          clear k0 hil k2 hfr
          go_wp2_with fail
          go_quiet ((go_at_call 38; first | exact Calls.quiet_of_same (HU.out _) | exact Calls.quiet_of_same ((HU.out _).mono fun _ _ ⟨a, b⟩ => ⟨a, b.symm⟩)))
          go_wp2_with fail
          go_ret
          exact HE.out _
        have b2 : ¬ (D : Int) < (x.length : Int) := by omega
        have hR2 : R = opD st true (setS q ⟨f.b ++ x, f.safe⟩ st.fs) := by
          rw [hR, appendD, if_neg (by simp [hd]), if_neg (by simp [hok]), hold, if_neg (by simp; omega), if_neg (by omega)]
        have HR := Lib.hid hR2
        have HF := Lib.hid (And.intro hw.fuse hd)
        have HW := Lib.hid hw
        have hap := str8_app f.b x
        have hsum : ¬ 9223372036854775807 < f.b.length + x.length := by omega
        have hsumH := Lib.hid hsum
        have HG := Lib.hid hg
        have HA := Lib.hid h
        have HN := Lib.hid hn
        clear h hR hw hd hM hok hg hold hwu hwr hcn hD hE hfb h1 h2 hR2
        go_enter Try.func24, Try.ntmps24
        go_wp2_with fail
        refine (HM.out).mono ?_
        rintro e w1 ⟨rfl, rfl⟩
        go_wp2_with fail
        refine (HD.out).mono ?_
        rintro e w2 ⟨r, rfl, hf, rfl⟩
        obtain ⟨i, rfl, hi⟩ := found_some hf HG.out
        have HI := Lib.hid hi
        have i0 : ¬ (i : Int) < 0 := by omega
        have i1 : (0 : Int) ≤ (i : Int) := by omega
        clear hf hi
        obtain ⟨b, c, hv, k0, k1, k2, hfr, hil⟩ := HA.out.at_ (i := i) HI.out
        have d0 := HA.out.disk.box.c0
        have bi : (i : Int) < (st.fs.length : Int) := by omega
        subst hv
        have HIL := Lib.hid hil
        clear k0 hil k2 hfr
        go_wp2_with fail
        go_quiet ((go_at_call 38; first | exact Calls.quiet_of_same (HU.out _) | exact Calls.quiet_of_same ((HU.out _).mono fun _ _ ⟨a, b⟩ => ⟨a, b.symm⟩)))
        go_upto_region 15 with fail
        generalize hw3 : w2.drewN _ = w3
        have ha3 : AtQ w0 base qb F (.slice (some ⟨b, 0, none⟩) st.fs.length c) st w3 := hw3 ▸ HA.out.drewN _
        obtain ⟨b', c', hv, k0, k1', k2, hfr, hil⟩ := ha3.at_ (i := i) HI.out
        simp only [Value.slice.injEq, Option.some.injEq, Addr.mk.injEq, and_true, true_and] at hv
        obtain ⟨rfl, rfl⟩ := hv
        have d03 := ha3.disk.box.c0
        have fr' : ∀ j, w3.drew.frozen? ⟨b, j, none⟩ = false := hfr
        have kd : w3.drew.cell? ⟨b, i * 3 + 1, none⟩ = some (.string (str8 f.b)) := k1'
        have h4 := ha3.drew.cell (i := i) (f' := ⟨f.b ++ x, f.safe⟩) HI.out 1 (.string (str8 (f.b ++ x))) (by omega) rfl
        rw [set_at HW.out.rising HI.out] at h4
        have HB := Lib.hid (qburns_f h4 HF.out.1 HF.out.2)
        clear h4 ha3 hfr k0 k2 hil hw3 hsum
        have hsum : ¬ 9223372036854775807 < f.b.length + x.length := hsumH.out
        have hrun : ∀ w' : World, (Op.stringOp .add (str8 f.b) (str8 x)).run Try.prog w' = .ok (.string (str8 (f.b ++ x))) w' := fun w' => by rw [← str8_app]; exact run_string_add_sum w' _ _ (by have := hsumH.out; rw [str8_size, str8_size]; omega)
        go_still_tail 17, (by kernel_rfl)
        change wpList _ _ _ _ _ w3.drew
        generalize w3.drew = w5 at *
        go_wp2_with fail
        refine (HB.out).mono ?_
        rintro e w6 (⟨hf1, rfl, ha⟩ | ⟨hf1, rfl, ha⟩)
        · have HE := Lib.hid (show QSaid w0 base qb F R (.returned (.int .i64 100)) w6 from by rw [HR.out, opD, if_pos hf1]; exact ⟨rfl, _, ha⟩)
          clear hf1 ha
          go_wp2_with fail
          go_ret
          exact HE.out
        · have HE := Lib.hid (show QSaid w0 base qb F R (.returned (.int .i64 0)) w6 from by rw [HR.out, opD, if_neg hf1]; exact ⟨rfl, _, ha⟩)
          clear hf1 ha
          go_wp2_with fail
          go_ret
          exact HE.out
end

end Go.Proofs.Ytngjmeohleoglaa
