/-
  The document's calls of disks: what the laws see. Crash, Fuse, Remove, Sync, Read.
  Conditions: none but sizes.
-/
import Derived.Test.YtngjmeohleoglaaDqC
import Derived.Test.YtngjmeohleoglaaDiP2
namespace Go.Proofs.Ytngjmeohleoglaa
open Go.RowKit Go.Shelf
set_option linter.unusedVariables false
set_option linter.unusedSimpArgs false
set_option maxRecDepth 100000

/-- The document's disk, at hand in a call that began at w0. -/
structure AtQ (w0 : World) (base qb : Nat) (F : Nat → Prop) (v : Value) (st : DD) (w : World) : Prop where
  disk : QI w base qb v st
  own : ∀ k, v.ownBlock = some k → newer F w0 w k
  mv : Mv F w0 w
  has : F qb
  low : ∀ k, F k → base ≤ k ∧ k < w0.heap.size
  fit : base ≤ w0.heap.size
def QSaid (w0 : World) (base qb : Nat) (F : Nat → Prop) (R : DD × Nat) : Ending → World → Prop := fun e w' => e = .returned (.int .i64 R.2) ∧ ∃ v', AtQ w0 base qb F v' R.1 w'
def QGone (w0 : World) (base qb : Nat) (F : Nat → Prop) (st : DD) : Ending → World → Prop := fun e w' => e = .returned (.tuple #[]) ∧ ∃ v', AtQ w0 base qb F v' st w'
theorem erase_at {q : DName} {f : FD} {l : DRow} (hn : Rising l) {i : Nat} (hi : l[i]? = some (q, f)) : l.eraseIdx i = delA q l := ((at_someA hn.nodup hi).2.2).symm

section
variable {w0 w w' : World} {base qb n : Nat} {F : Nat → Prop} {v v' : Value} {st st' : DD}
theorem AtQ.fitw (h : AtQ w0 base qb F v st w) : base ≤ w.heap.size := Nat.le_trans h.fit h.mv.size
theorem AtQ.row (h : AtQ w0 base qb F v st w) (hq : QI w' base qb v' st') (hm : Mv (fun k => k = qb) w w') (ho : ∀ k, v'.ownBlock = some k → w.heap.size ≤ k) : AtQ w0 base qb F v' st' w' :=
  ⟨hq, fun k hk => .inr ⟨Nat.le_trans h.mv.size (ho k hk), (hq.row.block k hk).2⟩, h.mv.trans hm (fun k _ e => e ▸ h.has), h.has, h.low, h.fit⟩
theorem newer_mono {w2 : World} (hs : w.heap.size ≤ w2.heap.size) {k : Nat} (h : newer F w0 w k) : newer F w0 w2 k := h.elim .inl fun h => .inr ⟨h.1, Nat.lt_of_lt_of_le h.2 hs⟩
theorem AtQ.same (h : AtQ w0 base qb F v st w) (hq : QI w' base qb v st') (hm : Mv (fun k => k = qb) w w') : AtQ w0 base qb F v st' w' :=
  ⟨hq, fun k hk => newer_mono hm.size (h.own k hk), h.mv.trans hm (fun k _ e => e ▸ h.has), h.has, h.low, h.fit⟩
theorem AtQ.cell {b m c : Nat} (h : AtQ w0 base qb F (.slice (some ⟨b, 0, none⟩) m c) st w) {i : Nat} {q : DName} {f : FD} (hi : st.fs[i]? = some (q, f)) (k : Nat) (u : Value) (f' : FD) (hk : k < 3) (hy : fileC.enc (q, f') = (fileC.enc (q, f)).set k u) :
    AtQ w0 base qb F (.slice (some ⟨b, 0, none⟩) m c) { st with fs := st.fs.set i (q, f') } (w.setCell ⟨b, i * 3 + k, none⟩ u) := by
  obtain ⟨hil, hie⟩ := List.getElem?_eq_some_iff.1 hi
  have hb := h.own b rfl
  have hne : qb ≠ b := fun e => h.disk.ne (by rw [e]; rfl)
  refine ⟨⟨?_, ?_, h.disk.low⟩, fun g hg => newer_mono (by simp) (h.own g hg), h.mv.setCell (fun hlt => hb.elim id fun e => by omega) _ _, h.has, h.low, h.fit⟩
  · exact (heap_setCell_other _ _ _ _ hne).trans h.disk.box
  · exact h.disk.row.set_ i k hil hk (q, f') u (by rw [hie]; exact hy)

theorem qcrash_any (h : AtQ w0 base qb F v st w) : Calls Try.prog 35 #[.pointer (some ⟨qb, 0, none⟩)] w (QGone w0 base qb F (crashD st)) := by
  have c3 := h.disk.box.c3
  have f3 := h.disk.box.fr 3
  have h1 := h.disk.set3 true
  have c2 := h1.box.c2
  have f2 := h1.box.fr 2
  have HE := Lib.hid (show QGone w0 base qb F (crashD st) (.returned (.tuple #[])) ((w.setCell ⟨qb, 3, none⟩ (.bool true)).setCell ⟨qb, 2, none⟩ (.int .i64 0)) from
    ⟨rfl, v, h.same (st' := crashD st) (h1.set2 0) (((Mv.refl (fun k => k = qb) w).setCell (fun _ => rfl) 3 (.bool true)).setCell (fun _ => rfl) 2 (.int .i64 0))⟩)
  clear h h1
  go_enter Try.func35, Try.ntmps35
  go_wp2_with fail
  first | go_end0 | refine bodyPost_ret (results_none rfl _ _ _) rfl ?_
  exact HE.out

theorem qburns_at (h : AtQ w0 base qb F v st w) (hw : DWf n st) (hd : st.down = false) : Calls Try.prog 53 #[.pointer (some ⟨qb, 0, none⟩)] w fun e w' =>
    (st.fuse = 1 ∧ e = .returned (.bool true) ∧ AtQ w0 base qb F v { st with fuse := 0, down := true } w') ∨ (st.fuse ≠ 1 ∧ e = .returned (.bool false) ∧ AtQ w0 base qb F v { st with fuse := st.fuse - 1 } w') := by
  refine (qburns_any h.disk hw.fuse hd).mono fun e w' ⟨h1, h2, h3⟩ => ?_
  obtain ⟨sroom, sfuse, sdown, sfs⟩ := st
  simp only at hd h1 h2 ⊢
  subst hd
  by_cases c : sfuse = 1
  · subst c
    exact .inl ⟨rfl, h1, h.same h2 h3⟩
  · refine .inr ⟨c, by rw [h1]; simp [c], h.same ?_ h3⟩
    rw [show decide (sfuse = 1) = false by simpa using c] at h2
    exact h2
theorem qdrop_at (h : AtQ w0 base qb F v st w) (hw : DWf n st) (hn : n ≤ 1000000) {i : Nat} {q : DName} {f : FD} (hi : st.fs[i]? = some (q, f)) :
    Calls Try.prog 56 #[.pointer (some ⟨qb, 0, none⟩), .int .i64 i] w (QGone w0 base qb F { st with fs := delA q st.fs }) := by
  obtain ⟨hil, _⟩ := List.getElem?_eq_some_iff.1 hi
  refine (qdrop_any h.disk i hil (by have := hw.count; omega) h.fitw).mono fun e w' ⟨h1, v', h2, h3, h4⟩ => ⟨h1, v', ?_⟩
  rw [erase_at hw.rising hi] at h2
  exact h.row h2 h3 h4
theorem qput_at (h : AtQ w0 base qb F v st w) (q : DName) (f : FD) (hn : st.fs.length ≤ 1000000) :
    Calls Try.prog 52 #[.pointer (some ⟨qb, 0, none⟩), .agg #[.string (str8 q), .string (str8 f.b), .int .i64 f.safe]] w (QGone w0 base qb F { st with fs := insS q f st.fs }) :=
  (qput_any h.disk q f hn h.fitw).mono fun e w' ⟨h1, v', h2, h3, h4⟩ => ⟨h1, v', h.row h2 h3 h4⟩
theorem DWf.burnt (h : DWf n st) : DWf n { st with fuse := st.fuse - 1 } := ⟨h.rising, h.room, h.used, Nat.le_trans (Nat.sub_le _ _) h.fuse, h.count, h.each⟩
theorem found_none {q : DName} {r : Int} (h : FoundQ st q r) (hg : getA q st.fs = none) : r = -1 := by
  rcases h with ⟨h, _⟩ | ⟨i, f, _, _, h⟩
  · exact h
  · rw [hg] at h; cases h
theorem found_some {q : DName} {r : Int} {f : FD} (h : FoundQ st q r) (hg : getA q st.fs = some f) : ∃ i : Nat, r = (i : Int) ∧ st.fs[i]? = some (q, f) := by
  rcases h with ⟨_, h⟩ | ⟨i, f', h1, h2, h⟩
  · rw [hg] at h; cases h
  · rw [hg] at h; cases h; exact ⟨i, h1, h2⟩

theorem qremove_any (h : AtQ w0 base qb F v st w) (hw : DWf n st) (hn : n ≤ 1000000) (q : DName) :
    Calls Try.prog 31 #[.pointer (some ⟨qb, 0, none⟩), .string (str8 q)] w (QSaid w0 base qb F (removeD st q)) := by
  obtain ⟨R, hR⟩ : ∃ R, R = removeD st q := ⟨_, rfl⟩
  rw [← hR]
  have HD := Lib.hid (qfindD_any h.disk hw.rising q (by have := hw.count; omega))
  have c3 := h.disk.box.c3
  cases hd : st.down with
  | true =>
    rw [hd] at c3
    have HE := Lib.hid (show QSaid w0 base qb F R (.returned (.int .i64 100)) w from by rw [hR, removeD, if_pos hd]; exact ⟨rfl, v, h⟩)
    clear h hR hw hd
    go_enter Try.func31, Try.ntmps31
    go_wp2_with fail
    refine (HD.out).mono ?_
    rintro e w2 ⟨r, rfl, hf, rfl⟩
    clear hf
    go_wp2_with fail
    go_ret
    exact HE.out
  | false =>
    rw [hd] at c3
    cases hg : getA q st.fs with
    | none =>
      have HE := Lib.hid (show QSaid w0 base qb F R (.returned (.int .i64 7)) w from by rw [hR, removeD, if_neg (by simp [hd]), hg]; exact ⟨rfl, v, h⟩)
      have HG := Lib.hid hg
      clear h hR hw hd hg
      go_enter Try.func31, Try.ntmps31
      go_wp2_with fail
      refine (HD.out).mono ?_
      rintro e w2 ⟨r, rfl, hf, rfl⟩
      obtain rfl := found_none hf HG.out
      clear hf
      go_wp2_with fail
      go_ret
      exact HE.out
    | some f =>
      have hR2 : R = opD st false (delA q st.fs) := by rw [hR, removeD, if_neg (by simp [hd]), hg]
      have HB := Lib.hid (qburns_at h hw hd)
      have HT := Lib.hid (fun (w2 : World) (i : Nat) (h2 : AtQ w0 base qb F v { st with fuse := st.fuse - 1 } w2) (hi : st.fs[i]? = some (q, f)) => qdrop_at h2 hw.burnt hn hi)
      have HG := Lib.hid hg
      have HR := Lib.hid hR2
      clear h hR hw hd hg hR2
      go_enter Try.func31, Try.ntmps31
      go_wp2_with fail
      refine (HD.out).mono ?_
      rintro e w2 ⟨r, rfl, hf, rfl⟩
      obtain ⟨i, rfl, hi⟩ := found_some hf HG.out
      have HI := Lib.hid hi
      have i0 : ¬ (i : Int) < 0 := by omega
      clear hf hi
      go_wp2_with fail
      refine (HB.out).mono ?_
      rintro e w3 (⟨hf1, rfl, ha⟩ | ⟨hf1, rfl, ha⟩)
      · have HE := Lib.hid (show QSaid w0 base qb F R (.returned (.int .i64 100)) w3 from by rw [HR.out, opD, if_pos hf1]; exact ⟨rfl, v, ha⟩)
        clear hf1 ha
        go_wp2_with fail
        go_ret
        exact HE.out
      · have HF1 := Lib.hid hf1
        have HT2 := Lib.hid (HT.out w3 i ha HI.out)
        clear hf1 ha
        go_wp2_with fail
        refine (HT2.out).mono ?_
        rintro e w4 ⟨rfl, v4, ha4⟩
        have HE := Lib.hid (show QSaid w0 base qb F R (.returned (.int .i64 0)) w4 from by rw [HR.out, opD, if_neg HF1.out]; exact ⟨rfl, v4, ha4⟩)
        clear ha4
        go_wp2_with fail
        go_ret
        exact HE.out
end

end Go.Proofs.Ytngjmeohleoglaa
