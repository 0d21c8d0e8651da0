/-
  Disks as plain data stay what they may be, call by call.
  Conditions: none.
-/
import Derived.Test.YtngjmeohleoglaaDiU
namespace Go.Proofs.Ytngjmeohleoglaa
set_option linter.unusedVariables false
set_option linter.unusedSimpArgs false

section
variable {n : Nat} {st : DD} {fs' : DRow} {q r : DName} {f v : FD}
theorem DWf.up (h : DWf n st) : DWf (n + 1) st := ⟨h.rising, h.room, h.used, h.fuse, Nat.le_succ_of_le h.count, h.each⟩
theorem DWf.with (h : DWf n st) (hr : Rising fs') (hu : usedL fs' ≤ st.room) (hc : fs'.length ≤ n + 1) (he : ∀ x ∈ fs', x.1.length ≤ 40 ∧ x.2.b.length ≤ 1048576 ∧ x.2.safe ≤ x.2.b.length) {fuse : Nat} (hf : fuse ≤ 9223372036854775807) (down : Bool) : DWf (n + 1) { st with fs := fs', fuse := fuse, down := down } :=
  ⟨hr, h.room, hu, hf, hc, he⟩
theorem DWf.op (h : DWf n st) (hr : Rising fs') (hu : usedL fs' ≤ st.room) (hc : fs'.length ≤ n + 1) (he : ∀ x ∈ fs', x.1.length ≤ 40 ∧ x.2.b.length ≤ 1048576 ∧ x.2.safe ≤ x.2.b.length) (loose : Bool) : DWf (n + 1) (opD st loose fs').1 := by
  have hf := h.fuse
  unfold opD
  split
  · cases loose
    · exact ⟨h.rising, h.room, h.used, Nat.zero_le _, Nat.le_succ_of_le h.count, h.each⟩
    · exact h.with hr hu hc he (Nat.zero_le _) true
  · exact ⟨hr, h.room, hu, by show st.fuse - 1 ≤ _; omega, hc, he⟩
theorem each_set (h : ∀ x ∈ st.fs, x.1.length ≤ 40 ∧ x.2.b.length ≤ 1048576 ∧ x.2.safe ≤ x.2.b.length) (hq : q.length ≤ 40) (hv : v.b.length ≤ 1048576 ∧ v.safe ≤ v.b.length) : ∀ x ∈ setS q v st.fs, x.1.length ≤ 40 ∧ x.2.b.length ≤ 1048576 ∧ x.2.safe ≤ x.2.b.length := by
  intro x hx
  rcases mem_setS.1 hx with rfl | hx
  · exact ⟨hq, hv⟩
  · exact h x (delA_sub.subset hx)
theorem set_count (l : DRow) : (setS q v l).length ≤ l.length + 1 := by
  rw [setS_length]
  have : (delA q l).length ≤ l.length := (delA_sub (q := q) (L := l)).length_le
  omega
theorem okName_len (h : okName q = true) : q.length ≤ 40 := by
  simp only [okName, Bool.and_eq_true, decide_eq_true_eq] at h
  exact h.1.2
theorem usedL_old : usedL (delA q st.fs) + (oldF st q).b.length ≤ usedL st.fs ∨ Rising st.fs → Rising st.fs → usedL (delA q st.fs) + (oldF st q).b.length = usedL st.fs := by
  intro _ hr
  unfold oldF
  cases hg : getA q st.fs with
  | none => rw [used_del_none hg]; simp
  | some f => exact used_del hr.nodup hg
theorem append_wf (h : DWf n st) (q x : List UInt8) : DWf (n + 1) (appendD st q x).1 := by
  unfold appendD
  split
  · exact h.up
  · split
    · exact h.up
    · rename_i hok
      split
      · exact h.up
      · rename_i hlong
        split
        · exact h.up
        · rename_i hfull
          have hu := usedL_old (q := q) (st := st) (.inr h.rising) h.rising
          have hsafe : (oldF st q).safe ≤ (oldF st q).b.length := by
            unfold oldF
            cases hg : getA q st.fs with
            | none => exact Nat.le_refl _
            | some f => exact (h.each _ (getA_mem hg)).2.2
          refine h.op h.rising.set ?_ (Nat.le_trans (set_count _) (by have := h.count; omega)) (each_set h.each (okName_len (by simpa using hok)) ⟨by simp; omega, by simp; omega⟩) true
          rw [used_set]
          simp only [List.length_append]
          omega
theorem sync_wf (h : DWf n st) (q : DName) : DWf (n + 1) (syncD st q).1 := by
  unfold syncD
  split
  · exact h.up
  · split
    · exact h.up
    · rename_i f hg
      have hf := h.each _ (getA_mem hg)
      have hu := used_del h.rising.nodup hg
      have hr := h.used
      exact h.op h.rising.set (by rw [used_set]; simp only; omega) (Nat.le_trans (set_count _) (by have := h.count; omega)) (each_set (v := ⟨f.b, f.b.length⟩) h.each hf.1 ⟨hf.2.1, Nat.le_refl _⟩) false
theorem cut_wf (h : DWf n st) (q : DName) (k : Int) : DWf (n + 1) (cutD st q k).1 := by
  unfold cutD
  split
  · exact h.up
  · split
    · exact h.up
    · split
      · exact h.up
      · rename_i f hg
        split
        · exact h.up
        · have hf := h.each _ (getA_mem hg)
          have hu := used_del h.rising.nodup hg
          have hr := h.used
          simp only at hf
          exact h.op h.rising.set (by rw [used_set]; simp only [List.length_take]; omega) (Nat.le_trans (set_count _) (by have := h.count; omega)) (each_set h.each hf.1 ⟨by simp only [List.length_take]; omega, by simp only [List.length_take]; omega⟩) false
theorem del_each (h : DWf n st) : ∀ x ∈ delA q st.fs, x.1.length ≤ 40 ∧ x.2.b.length ≤ 1048576 ∧ x.2.safe ≤ x.2.b.length := fun x hx => h.each x (delA_sub.subset hx)
theorem rename_wf (h : DWf n st) (q r : DName) : DWf (n + 1) (renameD st q r).1 := by
  unfold renameD
  split
  · exact h.up
  · split
    · exact h.up
    · rename_i hok
      split
      · exact h.up
      · rename_i f hg
        have hf := h.each _ (getA_mem hg)
        have hu := used_del h.rising.nodup hg
        have hr := h.used
        have hle := usedL_del_le r (delA q st.fs)
        have hok' : okName r = true := by
          have : (okName q && okName r) = true := by simpa using hok
          exact (Bool.and_eq_true_iff.1 this).2
        refine h.op (h.rising.del q).set (by rw [used_set]; omega) (Nat.le_trans (set_count _) (by have := delA_length_lt h.rising.nodup hg; have := h.count; omega)) ?_ false
        intro x hx
        rcases mem_setS.1 hx with rfl | hx
        · exact ⟨okName_len hok', hf.2⟩
        · exact del_each h x (delA_sub.subset hx)
theorem remove_wf (h : DWf n st) (q : DName) : DWf (n + 1) (removeD st q).1 := by
  unfold removeD
  split
  · exact h.up
  · split
    · exact h.up
    · have hle := usedL_del_le q st.fs
      have hr := h.used
      exact h.op (h.rising.del q) (by omega) (by have := (delA_sub (q := q) (L := st.fs)).length_le; have := h.count; omega) (del_each h) false
theorem fuse_wf (h : DWf n st) {k : Int} (hk : k ≤ 9223372036854775807) : DWf (n + 1) (fuseD st k) := by
  unfold fuseD
  split
  · exact h.up
  · exact ⟨h.rising, h.room, h.used, by show k.toNat ≤ _; omega, Nat.le_succ_of_le h.count, h.each⟩
theorem crash_wf (h : DWf n st) : DWf (n + 1) (crashD st) := ⟨h.rising, h.room, h.used, Nat.zero_le _, Nat.le_succ_of_le h.count, h.each⟩
theorem keepN_le (keep : List Int) (i : Nat) (f : FD) : keepN keep i f ≤ f.b.length - f.safe := by unfold keepN; split <;> omega
theorem wakeTo_used {keep : List Int} (h : DWf n st) : ∀ j, j ≤ st.fs.length → usedL (wakeTo keep j st.fs) ≤ usedL st.fs
  | 0, _ => by rw [wakeTo_zero]; exact Nat.le_refl _
  | j + 1, hj => by
    have ih := wakeTo_used (keep := keep) h j (by omega)
    obtain ⟨⟨q, f⟩, hqf⟩ : ∃ y, st.fs[j]? = some y := ⟨_, List.getElem?_eq_getElem (by omega)⟩
    have hrj := wakeTo_rising (keep := keep) (j := j) h.rising
    have h2 := used_del hrj.nodup (getA_of_mem hrj.nodup (List.mem_of_getElem? (wakeTo_at (keep := keep) hqf)))
    rw [wakeTo_succ h.rising hqf, used_set]
    have : (wakeF keep j f).b.length ≤ f.b.length := by simp [wakeF]; omega
    omega
theorem wake_each {keep : List Int} (h : DWf n st) : ∀ x ∈ wakeL keep st.fs, x.1.length ≤ 40 ∧ x.2.b.length ≤ 1048576 ∧ x.2.safe ≤ x.2.b.length := by
  intro x hx
  unfold wakeL at hx
  obtain ⟨i, hi, rfl⟩ := List.getElem_of_mem hx
  have hi' : i < st.fs.length := by simpa using hi
  rw [List.getElem_mapIdx]
  have := h.each _ (List.getElem_mem hi')
  have hk := keepN_le keep i st.fs[i].2
  simp only [wakeF, List.length_take]
  omega
theorem wake_wf (h : DWf n st) (keep : List Int) : DWf (n + 1) (wakeD st keep) := by
  unfold wakeD
  split
  · have hu := wakeTo_used (keep := keep) h st.fs.length (Nat.le_refl _)
    have hr := wakeTo_rising (keep := keep) (j := st.fs.length) h.rising
    rw [wakeTo_all] at hu hr
    exact ⟨hr, h.room, Nat.le_trans hu h.used, h.fuse, by show (wakeL keep st.fs).length ≤ _; have := h.count; simp [wakeL]; omega, wake_each h⟩
  · exact h.up
theorem do_wf (h : DWf n st) (x : DAct) (hn : x.n ≤ 9223372036854775807) : DWf (n + 1) (doD st x).1 := by
  unfold doD
  split
  · exact append_wf h _ _
  split
  · exact sync_wf h _
  split
  · exact cut_wf h _ _
  split
  · exact rename_wf h _ _
  split
  · exact remove_wf h _
  split
  · exact h.up
  split
  · exact fuse_wf h hn
  split
  · exact crash_wf h
  · exact wake_wf h _
end

end Go.Proofs.Ytngjmeohleoglaa
