/-
  The document's calls of disks, further: Rename.
  Conditions: none but sizes.
-/
import Derived.Test.YtngjmeohleoglaaDqH
namespace Go.Proofs.Ytngjmeohleoglaa
open Go.RowKit Go.Shelf
set_option linter.unusedVariables false
set_option linter.unusedSimpArgs false
set_option maxRecDepth 100000

section
variable {w0 w w' : World} {base qb n : Nat} {F : Nat → Prop} {v v' : Value} {st st' : DD}
theorem AtQ.below (h : AtQ w0 base qb F v st w) (hb : Below w.heap.size w w') : AtQ w0 base qb F v st w' :=
  ⟨h.disk.below hb, fun k hk => newer_mono hb.size (h.own k hk), h.mv.trans (Mv.of_below (F := fun _ => False) hb) (fun _ _ e => e.elim), h.has, h.low, h.fit⟩
/-- A store into another new block. -/
theorem AtQ.other (h : AtQ w0 base qb F v st w) {nb : Nat} (hq : qb < nb) (hv : v.ownBlock ≠ some nb) (hge : w0.heap.size ≤ nb) (i : Nat) (u : Value) : AtQ w0 base qb F v st (w.setCell ⟨nb, i, none⟩ u) :=
  ⟨h.disk.keep (heap_setCell_other _ _ _ _ (by show qb ≠ nb; omega)) (fun g hg => heap_setCell_other _ _ _ _ (by show g ≠ nb; rintro rfl; exact hv hg)), fun k hk => newer_mono (by simp) (h.own k hk), h.mv.setCell (fun hlt => by omega) _ _, h.has, h.low, h.fit⟩
def QRow (w0 : World) (base qb : Nat) (F : Nat → Prop) (st : DD) (w : World) : Ending → World → Prop := fun e w' => e = .returned (.tuple #[]) ∧ ∃ v', AtQ w0 base qb F v' st w' ∧ Mv (fun k => k = qb) w w' ∧ ∀ k, v'.ownBlock = some k → w.heap.size ≤ k
theorem qdrop_m (h : AtQ w0 base qb F v st w) (hr : Rising st.fs) (hn : st.fs.length ≤ 1000000) {i : Nat} {q : DName} {f : FD} (hi : st.fs[i]? = some (q, f)) :
    Calls Try.prog 56 #[.pointer (some ⟨qb, 0, none⟩), .int .i64 i] w (QRow w0 base qb F { st with fs := delA q st.fs } w) := by
  obtain ⟨hil, _⟩ := List.getElem?_eq_some_iff.1 hi
  refine (qdrop_any h.disk i hil hn h.fitw).mono fun e w' ⟨h1, v', h2, h3, h4⟩ => ⟨h1, v', ?_, h3, h4⟩
  rw [erase_at hr hi] at h2
  exact h.row h2 h3 h4
theorem delA_len (q : DName) (l : DRow) : (delA q l).length ≤ l.length := by unfold delA; exact List.length_filter_le _ _
/-- The box of a file. -/
def BoxQF (w : World) (nb : Nat) (a : DName) (f : FD) : Prop := w.heap[nb]? = some (.cells #[.string (str8 a), .string (str8 f.b), .int .i64 f.safe] 64 (0, 0))
theorem BoxQF.c0 {nb : Nat} {a : DName} {f : FD} (h : BoxQF w nb a f) : w.cell? ⟨nb, 0, none⟩ = some (.string (str8 a)) := by rw [cell_of_row _ _ _ _ _ (0, 0) h]; rfl
theorem BoxQF.c1 {nb : Nat} {a : DName} {f : FD} (h : BoxQF w nb a f) : w.cell? ⟨nb, 1, none⟩ = some (.string (str8 f.b)) := by rw [cell_of_row _ _ _ _ _ (0, 0) h]; rfl
theorem BoxQF.c2 {nb : Nat} {a : DName} {f : FD} (h : BoxQF w nb a f) : w.cell? ⟨nb, 2, none⟩ = some (.int .i64 f.safe) := by rw [cell_of_row _ _ _ _ _ (0, 0) h]; rfl
theorem BoxQF.fr {nb : Nat} {a : DName} {f : FD} (h : BoxQF w nb a f) (j : Nat) : w.frozen? ⟨nb, j, none⟩ = false := frozen_of_row w nb j _ _ h
theorem BoxQF.set0 {nb : Nat} {a : DName} {f : FD} (h : BoxQF w nb a f) (r : DName) : BoxQF (w.setCell ⟨nb, 0, none⟩ (.string (str8 r))) nb r f := heap_setCell_same w nb 0 _ 64 (.string (str8 r)) h

set_option maxHeartbeats 1000000 in
theorem qrename_any (h : AtQ w0 base qb F v st w) (hw : DWf n st) (hn : n ≤ 1000000) (q r : DName) (hq : q.length ≤ 140737488355328) (hr : r.length ≤ 140737488355328) :
    Calls Try.prog 29 #[.pointer (some ⟨qb, 0, none⟩), .string (str8 q), .string (str8 r)] w (QSaid w0 base qb F (renameD st q r)) := by
  obtain ⟨R, hR⟩ : ∃ R, R = renameD st q r := ⟨_, rfl⟩
  rw [← hR]
  have HD := Lib.hid (qfindD_any h.disk hw.rising q (by have := hw.count; omega))
  have hM := qmay_any (str8 q) w (by rw [str8_size]; exact hq)
  have hM2 := qmay_any (str8 r) w (by rw [str8_size]; exact hr)
  rw [sb_str8] at hM hM2
  have c3 := h.disk.box.c3
  cases hd : st.down with
  | true =>
    rw [hd] at c3
    have HE := Lib.hid (show QSaid w0 base qb F R (.returned (.int .i64 100)) w from by rw [hR, renameD, if_pos hd]; exact ⟨rfl, v, h⟩)
    clear h hR hw hd hM hM2
    go_enter Try.func29, Try.ntmps29
    go_wp2_with fail
    refine (HD.out).mono ?_
    rintro e w2 ⟨i, rfl, hf, rfl⟩
    clear hf
    go_wp2_with fail
    go_ret
    exact HE.out
  | false =>
    rw [hd] at c3
    cases hok : okName q with
    | false =>
      rw [hok] at hM
      have HE := Lib.hid (show QSaid w0 base qb F R (.returned (.int .i64 2)) w from by rw [hR, renameD, if_neg (by simp [hd]), if_pos (by simp [hok])]; exact ⟨rfl, v, h⟩)
      have HM := Lib.hid hM
      clear h hR hw hd hM hM2 hok
      go_enter Try.func29, Try.ntmps29
      go_wp2_with fail
      refine (HD.out).mono ?_
      rintro e w2 ⟨i, rfl, hf, rfl⟩
      clear hf
      go_wp2_with fail
      refine (HM.out).mono ?_
      rintro e w3 ⟨rfl, rfl⟩
      go_wp2_with fail
      go_ret
      exact HE.out
    | true =>
      rw [hok] at hM
      cases hok2 : okName r with
      | false =>
        rw [hok2] at hM2
        have HE := Lib.hid (show QSaid w0 base qb F R (.returned (.int .i64 2)) w from by rw [hR, renameD, if_neg (by simp [hd]), if_pos (by simp [hok2])]; exact ⟨rfl, v, h⟩)
        have HM := Lib.hid hM
        have HM2 := Lib.hid hM2
        clear h hR hw hd hM hM2 hok hok2
        go_enter Try.func29, Try.ntmps29
        go_wp2_with fail
        refine (HD.out).mono ?_
        rintro e w2 ⟨i, rfl, hf, rfl⟩
        clear hf
        go_wp2_with fail
        refine (HM.out).mono ?_
        rintro e w3 ⟨rfl, rfl⟩
        go_wp2_with fail
        refine (HM2.out).mono ?_
        rintro e w4 ⟨rfl, rfl⟩
        go_wp2_with fail
        go_ret
        exact HE.out
      | true =>
        rw [hok2] at hM2
        have HM := Lib.hid hM
        have HM2 := Lib.hid hM2
        cases hg : getA q st.fs with
        | none =>
          have HE := Lib.hid (show QSaid w0 base qb F R (.returned (.int .i64 7)) w from by rw [hR, renameD, if_neg (by simp [hd]), if_neg (by simp [hok, hok2]), hg]; exact ⟨rfl, v, h⟩)
          have HG := Lib.hid hg
          clear h hR hw hd hM hM2 hok hok2 hg
          go_enter Try.func29, Try.ntmps29
          go_wp2_with fail
          refine (HD.out).mono ?_
          rintro e w2 ⟨i, rfl, hf, rfl⟩
          obtain rfl := found_none hf HG.out
          clear hf
          go_wp2_with fail
          refine (HM.out).mono ?_
          rintro e w3 ⟨rfl, rfl⟩
          go_wp2_with fail
          refine (HM2.out).mono ?_
          rintro e w4 ⟨rfl, rfl⟩
          go_wp2_with fail
          go_ret
          exact HE.out
        | some f =>
          have hR2 : R = opD st false (setS r f (delA q st.fs)) := by rw [hR, renameD, if_neg (by simp [hd]), if_neg (by simp [hok, hok2]), hg]
          have HB := Lib.hid (qburns_at h hw hd)
          have HG := Lib.hid hg
          have HR := Lib.hid hR2
          have HW := Lib.hid (And.intro hw hn)
          clear h hR hw hd hg hR2 hM hM2 hok hok2
          go_enter Try.func29, Try.ntmps29
          go_wp2_with fail
          refine (HD.out).mono ?_
          rintro e w2 ⟨i, rfl, hf, rfl⟩
          obtain ⟨i, rfl, hi⟩ := found_some hf HG.out
          have HI := Lib.hid hi
          have i0 : ¬ (i : Int) < 0 := by omega
          clear hf hi
          go_wp2_with fail
          refine (HM.out).mono ?_
          rintro e w3 ⟨rfl, rfl⟩
          go_wp2_with fail
          refine (HM2.out).mono ?_
          rintro e w4 ⟨rfl, rfl⟩
          go_wp2_with fail
          refine (HB.out).mono ?_
          rintro e w3 (⟨hf1, rfl, ha⟩ | ⟨hf1, rfl, ha⟩)
          · have HE := Lib.hid (show QSaid w0 base qb F R (.returned (.int .i64 100)) w3 from by rw [HR.out, opD, if_pos hf1]; exact ⟨rfl, v, ha⟩)
            clear hf1 ha
            go_wp2_with fail
            go_ret
            exact HE.out
          · obtain ⟨b, c, hv, k0, k1, k2, hfr, hil⟩ := ha.at_ (i := i) HI.out
            have d0 := ha.disk.box.c0
            have hil' : i < st.fs.length := hil
            have bi : (i : Int) < (st.fs.length : Int) := by omega
            subst hv
            obtain ⟨W, hW⟩ : ∃ W, W = w3.alloc (.cells #[.string (str8 q), .string (str8 f.b), .int .i64 f.safe] 64) := ⟨_, rfl⟩
            have hbW : Below w3.heap.size w3 W := by rw [hW]; exact below_boxK _ _
            have hsW : W.heap.size = w3.heap.size + 1 := by rw [hW]; simp
            have hFB : BoxQF W w3.heap.size q f := by rw [hW]; exact heap_alloc_new w3 _
            have haW := ha.below hbW
            have hqb : qb < w3.heap.size := ha.disk.box.lt
            have h0 : w0.heap.size ≤ w3.heap.size := ha.mv.size
            have HDR := Lib.hid (qdrop_m haW HW.out.1.rising (by have := HW.out.1.count; have := HW.out.2; show st.fs.length ≤ _; omega) (i := i) HI.out)
            have HF1 := Lib.hid hf1
            have HWW := Lib.hid hW
            have HX := Lib.hid (And.intro hFB (And.intro hsW (And.intro hqb h0)))
            clear hf1 ha hil hil' hbW hFB haW hsW hqb h0 hW
            go_upto_region 11 with fail
            rw [← HWW.out]
            go_wp2_with fail
            refine (HDR.out).mono ?_
            rintro e w4 ⟨rfl, v4, ha4, hm4, ho4⟩
            obtain ⟨hFB, hsW, hqb, h0⟩ := HX.out
            have hF4 : BoxQF w4 w3.heap.size q f := (hm4.block _ (by omega) (by show ¬ w3.heap.size = qb; omega)).trans hFB
            have hr4 : Rising (delA q st.fs) := HW.out.1.rising.del q
            have hl4 : (delA q st.fs).length ≤ 1000000 := Nat.le_trans (delA_len _ _) (Nat.le_trans HW.out.1.count HW.out.2)
            have hs4 := hm4.size
            have HD4 := Lib.hid (qfindD_any ha4.disk hr4 r hl4)
            have HEND := Lib.hid (fun (w5 : World) (v5 : Value) (ha5 : AtQ w0 base qb F v5 { st with fuse := st.fuse - 1, fs := delA r (delA q st.fs) } w5) (hF5 : BoxQF w5 w3.heap.size q f) (hv5 : v5.ownBlock ≠ some w3.heap.size) =>
              show Calls Try.prog 52 #[.pointer (some ⟨qb, 0, none⟩), .agg #[.string (str8 r), .string (str8 f.b), .int .i64 f.safe]] (w5.setCell ⟨w3.heap.size, 0, none⟩ (.string (str8 r))) (QGone w0 base qb F { st with fuse := st.fuse - 1, fs := insS r f (delA r (delA q st.fs)) }) from
                qput_at (ha5.other hqb hv5 h0 0 _) r f (Nat.le_trans (delA_len _ _) hl4))
            have HA4 := Lib.hid (And.intro ha4 (And.intro hF4 (And.intro hr4 (And.intro hl4 (And.intro hs4 ho4)))))
            clear ha4 hm4 ho4 hFB hsW hqb h0 hF4 hr4 hl4 hs4
            go_wp2_with fail
            refine (HD4.out).mono ?_
            rintro e w5 ⟨z, rfl, hf4, rfl⟩
            cases hg4 : getA r (delA q st.fs) with
            | none =>
              obtain rfl := found_none hf4 hg4
              obtain ⟨ha4, hF4, hr4, hl4, hs4, ho4⟩ := HA4.out
              have hdel : delA r (delA q st.fs) = delA q st.fs := used_del_none hg4
              have hv4 : v4.ownBlock ≠ some w3.heap.size := fun e => by
                have := ho4 _ e
                have := HX.out.2.1
                omega
              have HP := Lib.hid (HEND.out w5 v4 (by rw [hdel]; exact ha4) hF4 hv4)
              have p0 := hF4.c0
              have p1 := hF4.c1
              have p2 := hF4.c2
              have pf := hF4.fr
              have e0 := (hF4.set0 r).c0
              have e1 := (hF4.set0 r).c1
              have e2 := (hF4.set0 r).c2
              clear hf4 hg4 ha4 hF4 hr4 hl4 hs4 ho4 hdel hv4
              go_wp2_with fail
              refine (HP.out).mono ?_
              rintro e w6 ⟨rfl, v6, ha6⟩
              have HE := Lib.hid (show QSaid w0 base qb F R (.returned (.int .i64 0)) w6 from by rw [HR.out, opD, if_neg HF1.out]; exact ⟨rfl, v6, ha6⟩)
              clear ha6
              go_wp2_with fail
              go_ret
              exact HE.out
            | some g =>
              obtain ⟨z, rfl, hz⟩ := found_some hf4 hg4
              have z0 : (0 : Int) ≤ (z : Int) := by omega
              obtain ⟨ha4, hF4, hr4, hl4, hs4, ho4⟩ := HA4.out
              have HDR2 := Lib.hid (qdrop_m ha4 hr4 hl4 (i := z) hz)
              clear hf4 hg4 ha4 hF4 hr4 hl4 hs4 ho4 hz
              go_wp2_with fail
              refine (HDR2.out).mono ?_
              rintro e w6 ⟨rfl, v6, ha6, hm6, ho6⟩
              obtain ⟨ha4, hF4, hr4, hl4, hs4, ho4⟩ := HA4.out
              obtain ⟨_, hsW, hqb, h0⟩ := HX.out
              have hF6 : BoxQF w6 w3.heap.size q f := (hm6.block _ (by omega) (by show ¬ w3.heap.size = qb; omega)).trans hF4
              have hv6 : v6.ownBlock ≠ some w3.heap.size := fun e => by
                have := ho6 _ e
                omega
              have HP := Lib.hid (HEND.out w6 v6 ha6 hF6 hv6)
              have p0 := hF6.c0
              have p1 := hF6.c1
              have p2 := hF6.c2
              have pf := hF6.fr
              have e0 := (hF6.set0 r).c0
              have e1 := (hF6.set0 r).c1
              have e2 := (hF6.set0 r).c2
              clear ha4 hF4 hr4 hl4 hs4 ho4 hF6 hv6 ha6 hm6 ho6 hsW hqb h0
              go_wp2_with fail
              refine (HP.out).mono ?_
              rintro e w7 ⟨rfl, v7, ha7⟩
              have HE := Lib.hid (show QSaid w0 base qb F R (.returned (.int .i64 0)) w7 from by rw [HR.out, opD, if_neg HF1.out]; exact ⟨rfl, v7, ha7⟩)
              clear ha7
              go_wp2_with fail
              go_ret
              exact HE.out
end

end Go.Proofs.Ytngjmeohleoglaa
