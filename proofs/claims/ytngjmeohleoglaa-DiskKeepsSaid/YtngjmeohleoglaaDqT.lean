/-
  Without the program: the room of a disk stays; what its files, read one by one, come to.
  Conditions: none.
-/
import Derived.Test.YtngjmeohleoglaaDiP2
namespace Go.Proofs.Ytngjmeohleoglaa
set_option linter.unusedVariables false
set_option linter.unusedSimpArgs false

theorem op_room (st : DD) (l : Bool) (fs : DRow) : (opD st l fs).1.room = st.room := by unfold opD; split <;> rfl
theorem do_room (st : DD) (x : DAct) : (doD st x).1.room = st.room := by
  unfold doD appendD syncD cutD renameD removeD fuseD crashD wakeD
  repeat' split
  all_goals first | rfl | exact op_room _ _ _

/-- The bytes of the first k files. -/
def sumK (fs : DRow) (k : Nat) : Nat := usedL (fs.take k)
theorem sumK_step (fs : DRow) (k : Nat) (h : k < fs.length) : sumK fs (k + 1) = sumK fs k + fs[k].2.b.length := by
  unfold sumK
  rw [List.take_succ_eq_append_getElem h, usedL_append, usedL_cons]
  simp [usedL]
theorem sumK_all (fs : DRow) : sumK fs fs.length = usedL fs := by unfold sumK; rw [List.take_length]
theorem sumK_le (fs : DRow) (k : Nat) : sumK fs k ≤ usedL fs := by
  have h : usedL fs = usedL (fs.take k) + usedL (fs.drop k) := by rw [← usedL_append, List.take_append_drop]
  unfold sumK
  omega
/-- A file that is listed is read, while the disk is up. -/
theorem read_listed {n : Nat} {st : DD} (h : DWf n st) (hd : st.down = false) (k : Nat) (hk : k < st.fs.length) : readD st (st.fs[k].1) = (st.fs[k].2.b, st.fs[k].2.safe, 0) := by
  have hj : st.fs[k]? = some (st.fs[k].1, st.fs[k].2) := by rw [List.getElem?_eq_getElem hk]
  unfold readD
  rw [hd, (at_someA h.rising.nodup hj).1]
  rfl
theorem read_down {st : DD} (hd : st.down = true) (q : DName) : readD st q = ([], 0, 100) := by unfold readD; rw [hd]; rfl

end Go.Proofs.Ytngjmeohleoglaa
