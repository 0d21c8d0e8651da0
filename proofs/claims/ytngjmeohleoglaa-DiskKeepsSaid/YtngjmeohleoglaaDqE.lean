/-
  The document's calls of disks, further: Fuse, Sync, Read, Cut.
  Conditions: none but sizes.
-/
import Derived.Test.YtngjmeohleoglaaDqD
import Derived.StillTailTactics
namespace Go.Proofs.Ytngjmeohleoglaa
open Go.RowKit Go.Shelf
set_option linter.unusedVariables false
set_option linter.unusedSimpArgs false
set_option maxRecDepth 100000

section
variable {w0 w w' : World} {base qb n : Nat} {F : Nat → Prop} {v v' : Value} {st st' : DD}
theorem AtQ.drew (h : AtQ w0 base qb F v st w) : AtQ w0 base qb F v st w.drew := ⟨h.disk.drew, h.own, h.mv.drew, h.has, h.low, h.fit⟩
/-- What the cells of a file hold. -/
theorem AtQ.at_ (h : AtQ w0 base qb F v st w) {i : Nat} {q : DName} {f : FD} (hi : st.fs[i]? = some (q, f)) : ∃ b c, v = .slice (some ⟨b, 0, none⟩) st.fs.length c ∧ w.cell? ⟨b, i * 3, none⟩ = some (.string (str8 q)) ∧ w.cell? ⟨b, i * 3 + 1, none⟩ = some (.string (str8 f.b)) ∧ w.cell? ⟨b, i * 3 + 2, none⟩ = some (.int .i64 f.safe) ∧ (∀ j, w.frozen? ⟨b, j, none⟩ = false) ∧ i < st.fs.length := by
  obtain ⟨hil, hie⟩ := List.getElem?_eq_some_iff.1 hi
  obtain ⟨b, c, h1, h2, h3, h4, h5, _⟩ := h.disk.cells hil
  rw [hie] at h2 h3 h4
  exact ⟨b, c, h1, h2, h3, h4, h5, hil⟩

theorem qfuse_any (h : AtQ w0 base qb F v st w) (k : Int) : Calls Try.prog 34 #[.pointer (some ⟨qb, 0, none⟩), .int .i64 k] w (QGone w0 base qb F (fuseD st k)) := by
  have c3 := h.disk.box.c3
  have f2 := h.disk.box.fr 2
  have c2 := h.disk.box.c2
  cases hd : st.down with
  | true =>
    rw [hd] at c3
    have HE := Lib.hid (show QGone w0 base qb F (fuseD st k) (.returned (.tuple #[])) w from by rw [fuseD, if_pos hd]; exact ⟨rfl, v, h⟩)
    clear h hd
    go_enter Try.func34, Try.ntmps34
    go_wp2_with fail
    first | go_end0 | refine bodyPost_ret (results_none rfl _ _ _) rfl ?_
    exact HE.out
  | false =>
    rw [hd] at c3
    obtain ⟨m, hm⟩ : ∃ m : Nat, m = k.toNat := ⟨_, rfl⟩
    have HE := Lib.hid (show QGone w0 base qb F (fuseD st k) (.returned (.tuple #[])) (w.setCell ⟨qb, 2, none⟩ (.int .i64 m)) from by
      rw [fuseD, if_neg (by simp [hd]), ← hm]
      exact ⟨rfl, v, h.same (h.disk.set2 m) ((Mv.refl (fun k => k = qb) w).setCell (fun _ => rfl) 2 _)⟩)
    have hm1 : (k ≤ 0 ∧ m = 0) ∨ (0 < k ∧ (m : Int) = k) := by omega
    have HM := Lib.hid (And.intro hm hm1)
    clear h hd hm hm1
    go_enter Try.func34, Try.ntmps34
    go_wp2_with fail
    all_goals
      first | go_end0 | refine bodyPost_ret (results_none rfl _ _ _) rfl ?_
      have hx := HE.out
      have e := HM.out.2
      first
      | exact hx
      | (rw [show (m : Int) = max k 0 by omega] at hx; exact hx)
      | (rw [show (m : Int) = k by omega] at hx; exact hx)
      | (rw [show (m : Int) = 0 by omega] at hx; exact hx)

/-- Where the row's own safe bytes are told. -/
theorem AtQ.sync (h : AtQ w0 base qb F v st w) (hr : Rising st.fs) {i : Nat} {q : DName} {f : FD} (hi : st.fs[i]? = some (q, f)) {b m c : Nat} (hv : v = .slice (some ⟨b, 0, none⟩) m c) :
    AtQ w0 base qb F v { st with fs := setS q ⟨f.b, f.b.length⟩ st.fs } (w.setCell ⟨b, i * 3 + 2, none⟩ (.int .i64 f.b.length)) := by
  subst hv
  have := h.cell hi 2 (.int .i64 f.b.length) ⟨f.b, f.b.length⟩ (by omega) rfl
  rwa [set_at hr hi] at this

theorem qsync_any (h : AtQ w0 base qb F v st w) (hw : DWf n st) (hn : n ≤ 1000000) (q : DName) :
    Calls Try.prog 25 #[.pointer (some ⟨qb, 0, none⟩), .string (str8 q)] w (QSaid w0 base qb F (syncD st q)) := by
  obtain ⟨R, hR⟩ : ∃ R, R = syncD st q := ⟨_, rfl⟩
  rw [← hR]
  have HD := Lib.hid (qfindD_any h.disk hw.rising q (by have := hw.count; omega))
  have c3 := h.disk.box.c3
  cases hd : st.down with
  | true =>
    rw [hd] at c3
    have HE := Lib.hid (show QSaid w0 base qb F R (.returned (.int .i64 100)) w from by rw [hR, syncD, if_pos hd]; exact ⟨rfl, v, h⟩)
    clear h hR hw hd
    go_enter Try.func25, Try.ntmps25
    go_wp2_with fail
    refine (HD.out).mono ?_
    rintro e w2 ⟨r, rfl, hf, rfl⟩
    clear hf
    go_wp2_with fail
    go_ret
    exact HE.out
  | false =>
    rw [hd] at c3
    cases hg : getA q st.fs with
    | none =>
      have HE := Lib.hid (show QSaid w0 base qb F R (.returned (.int .i64 7)) w from by rw [hR, syncD, if_neg (by simp [hd]), hg]; exact ⟨rfl, v, h⟩)
      have HG := Lib.hid hg
      clear h hR hw hd hg
      go_enter Try.func25, Try.ntmps25
      go_wp2_with fail
      refine (HD.out).mono ?_
      rintro e w2 ⟨r, rfl, hf, rfl⟩
      obtain rfl := found_none hf HG.out
      clear hf
      go_wp2_with fail
      go_ret
      exact HE.out
    | some f =>
      have hR2 : R = opD st false (setS q ⟨f.b, f.b.length⟩ st.fs) := by rw [hR, syncD, if_neg (by simp [hd]), hg]
      have HB := Lib.hid (qburns_at h hw hd)
      have HG := Lib.hid hg
      have HR := Lib.hid hR2
      have HW := Lib.hid hw
      clear h hR hw hd hg hR2
      go_enter Try.func25, Try.ntmps25
      go_wp2_with fail
      refine (HD.out).mono ?_
      rintro e w2 ⟨r, rfl, hf, rfl⟩
      obtain ⟨i, rfl, hi⟩ := found_some hf HG.out
      have HI := Lib.hid hi
      have i0 : ¬ (i : Int) < 0 := by omega
      clear hf hi
      go_wp2_with fail
      refine (HB.out).mono ?_
      rintro e w3 (⟨hf1, rfl, ha⟩ | ⟨hf1, rfl, ha⟩)
      · have HE := Lib.hid (show QSaid w0 base qb F R (.returned (.int .i64 100)) w3 from by rw [HR.out, opD, if_pos hf1]; exact ⟨rfl, v, ha⟩)
        clear hf1 ha
        go_wp2_with fail
        go_ret
        exact HE.out
      · obtain ⟨b, c, hv, k0, k1, k2, hfr, hil⟩ := ha.at_ (i := i) HI.out
        have HE := Lib.hid (show QSaid w0 base qb F R (.returned (.int .i64 0)) (w3.drew.setCell ⟨b, i * 3 + 2, none⟩ (.int .i64 f.b.length)) from by
          rw [HR.out, opD, if_neg hf1]
          exact ⟨rfl, v, ha.drew.sync HW.out.rising HI.out hv⟩)
        have d0 := ha.disk.box.c0
        have k2' : w3.drew.cell? ⟨b, i * 3 + 2, none⟩ = some (.int .i64 f.safe) := k2
        have fr' : ∀ j, w3.drew.frozen? ⟨b, j, none⟩ = false := hfr
        have hil' : i < st.fs.length := hil
        have b1 : (i : Int) < (st.fs.length : Int) := by omega
        have hz := str8_size f.b
        subst hv
        have HIL := Lib.hid hil
        clear hf1 ha k0 hil hil'
        go_upto_region 8 with fail
        go_still_tail 16, (by kernel_rfl)
        change wpList _ _ _ _ _ w3.drew
        generalize w3.drew = w5 at *
        go_wp2_with fail
        go_ret
        exact HE.out
end

end Go.Proofs.Ytngjmeohleoglaa
