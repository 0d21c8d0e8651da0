/-
  Disks as plain data: files by rising names, and what each call does to them.
  Conditions: none.
-/
import Derived.Test.YtngjmeohleoglaaMapS
namespace Go.Proofs.Ytngjmeohleoglaa
set_option linter.unusedVariables false
set_option linter.unusedSimpArgs false

/-- A file's bytes, and how many of them are safe. -/
structure FD where
  b : List UInt8
  safe : Nat
abbrev DName := List UInt8
abbrev DRow := List (DName × FD)
/-- A disk. -/
structure DD where
  room : Nat
  fuse : Nat
  down : Bool
  fs : DRow

def usedL (l : DRow) : Nat := (l.map fun x => x.2.b.length).sum
def okByte (c : UInt8) : Bool := decide (33 ≤ c.toNat) && decide (c.toNat ≤ 126)
def okName (q : DName) : Bool := decide (0 < q.length) && decide (q.length ≤ 40) && q.all okByte
def insS (q : DName) (v : FD) : DRow → DRow
  | [] => [(q, v)]
  | x :: r => if x.1 < q then x :: insS q v r else (q, v) :: x :: r
def setS (q : DName) (v : FD) (l : DRow) : DRow := insS q v (delA q l)

/-- Rising by name. -/
def Rising (l : DRow) : Prop := (l.map (·.1)).Pairwise (· < ·)

/-- What a disk may be: at most n files. -/
structure DWf (n : Nat) (st : DD) : Prop where
  rising : Rising st.fs
  room : st.room ≤ 9223372036854775807
  used : usedL st.fs ≤ st.room
  fuse : st.fuse ≤ 9223372036854775807
  count : st.fs.length ≤ n
  each : ∀ x ∈ st.fs, x.1.length ≤ 40 ∧ x.2.b.length ≤ 1048576 ∧ x.2.safe ≤ x.2.b.length

def opD (st : DD) (loose : Bool) (fs' : DRow) : DD × Nat :=
  if st.fuse = 1 then ({ st with fs := if loose then fs' else st.fs, fuse := 0, down := true }, 100) else ({ st with fs := fs', fuse := st.fuse - 1 }, 0)
def oldF (st : DD) (q : DName) : FD := (getA q st.fs).getD ⟨[], 0⟩
def appendD (st : DD) (q x : List UInt8) : DD × Nat :=
  if st.down then (st, 100) else if okName q = false then (st, 2) else
  if (oldF st q).b.length + x.length > 1048576 then (st, 3) else if usedL st.fs + x.length > st.room then (st, 6) else
  opD st true (setS q ⟨(oldF st q).b ++ x, (oldF st q).safe⟩ st.fs)
def syncD (st : DD) (q : DName) : DD × Nat :=
  if st.down then (st, 100) else match getA q st.fs with
  | none => (st, 7)
  | some f => opD st false (setS q ⟨f.b, f.b.length⟩ st.fs)
def cutD (st : DD) (q : DName) (n : Int) : DD × Nat :=
  if st.down then (st, 100) else if n < 0 then (st, 2) else match getA q st.fs with
  | none => (st, 7)
  | some f => if n > f.b.length then (st, 2) else opD st false (setS q ⟨f.b.take n.toNat, min f.safe n.toNat⟩ st.fs)
def renameD (st : DD) (q r : DName) : DD × Nat :=
  if st.down then (st, 100) else if (okName q && okName r) = false then (st, 2) else match getA q st.fs with
  | none => (st, 7)
  | some f => opD st false (setS r f (delA q st.fs))
def removeD (st : DD) (q : DName) : DD × Nat :=
  if st.down then (st, 100) else match getA q st.fs with
  | none => (st, 7)
  | some f => opD st false (delA q st.fs)
def readD (st : DD) (q : DName) : List UInt8 × Nat × Nat :=
  if st.down then ([], 0, 100) else match getA q st.fs with
  | none => ([], 0, 7)
  | some f => (f.b, f.safe, 0)
def fuseD (st : DD) (n : Int) : DD := if st.down then st else { st with fuse := n.toNat }
def crashD (st : DD) : DD := { st with fuse := 0, down := true }
/-- How many loose bytes file i keeps. -/
def keepN (keep : List Int) (i : Nat) (f : FD) : Nat := match keep[i]? with
  | none => 0
  | some k => min k.toNat (f.b.length - f.safe)
def wakeF (keep : List Int) (i : Nat) (f : FD) : FD := ⟨f.b.take (f.safe + keepN keep i f), f.safe + keepN keep i f⟩
def wakeL (keep : List Int) (l : DRow) : DRow := l.mapIdx fun i x => (x.1, wakeF keep i x.2)
def wakeD (st : DD) (keep : List Int) : DD := if st.down then { st with down := false, fs := wakeL keep st.fs } else st

/-- A call. -/
structure DAct where
  what : Nat
  name : DName
  to : List UInt8
  n : Int
  keep : List Int
/-- A call of a disk: the disk behind it, and the answer. -/
def doD (st : DD) (x : DAct) : DD × (List UInt8 × Nat × Nat) :=
  if x.what % 9 = 0 then ((appendD st x.name x.to).1, [], 0, (appendD st x.name x.to).2) else
  if x.what % 9 = 1 then ((syncD st x.name).1, [], 0, (syncD st x.name).2) else
  if x.what % 9 = 2 then ((cutD st x.name x.n).1, [], 0, (cutD st x.name x.n).2) else
  if x.what % 9 = 3 then ((renameD st x.name x.to).1, [], 0, (renameD st x.name x.to).2) else
  if x.what % 9 = 4 then ((removeD st x.name).1, [], 0, (removeD st x.name).2) else
  if x.what % 9 = 5 then (st, readD st x.name) else
  if x.what % 9 = 6 then (fuseD st x.n, [], 0, 0) else
  if x.what % 9 = 7 then (crashD st, [], 0, 0) else (wakeD st x.keep, [], 0, 0)

/-! Names, in their order. -/
theorem dlt_irrefl (a : DName) : ¬ a < a := List.lt_irrefl a
theorem dlt_trans {a b c : DName} (h : a < b) (h2 : b < c) : a < c := List.lt_trans h h2
theorem dlt_asymm {a b : DName} (h : a < b) : ¬ b < a := List.lt_asymm h
theorem dlt_ne {a b : DName} (h : a < b) : a ≠ b := fun e => dlt_irrefl b (e ▸ h)
theorem dlt_of {a b : DName} (h : ¬ a < b) (hne : a ≠ b) : b < a := by
  refine Classical.byContradiction fun h2 => hne ?_
  exact List.le_antisymm (List.not_lt.1 h2) (List.not_lt.1 h)

theorem Rising.nodup {l : DRow} (h : Rising l) : (l.map (·.1)).Nodup := h.imp fun h => dlt_ne h
theorem Rising.tail {x : DName × FD} {l : DRow} (h : Rising (x :: l)) : Rising l := (List.pairwise_cons.1 h).2
theorem Rising.head {x : DName × FD} {l : DRow} (h : Rising (x :: l)) : ∀ y ∈ l, x.1 < y.1 := fun y hy => (List.pairwise_cons.1 h).1 _ (List.mem_map.2 ⟨y, hy, rfl⟩)
theorem Rising.del {l : DRow} (h : Rising l) (q : DName) : Rising (delA q l) := h.sublist (delA_sub.map _)
theorem insS_perm (q : DName) (v : FD) : ∀ l : DRow, (insS q v l).Perm ((q, v) :: l)
  | [] => List.Perm.refl _
  | x :: r => by
    unfold insS
    split
    · exact ((insS_perm q v r).cons x).trans (List.Perm.swap _ _ _)
    · exact List.Perm.refl _
theorem Rising.ins {q : DName} {v : FD} : ∀ {l : DRow}, Rising l → (∀ x ∈ l, x.1 ≠ q) → Rising (insS q v l)
  | [], _, _ => by simp [insS, Rising]
  | x :: r, h, hn => by
    unfold insS
    split
    · rename_i hx
      refine List.pairwise_cons.2 ⟨fun y hy => ?_, Rising.ins h.tail fun y hy => hn y (by simp [hy])⟩
      obtain ⟨z, hz, rfl⟩ := List.mem_map.1 hy
      rcases List.mem_cons.1 ((insS_perm q v r).mem_iff.1 hz) with rfl | hz
      · exact hx
      · exact h.head z hz
    · rename_i hx
      have hq : q < x.1 := dlt_of hx (hn x (by simp))
      refine List.pairwise_cons.2 ⟨fun y hy => ?_, h⟩
      obtain ⟨z, hz, rfl⟩ := List.mem_map.1 hy
      rcases List.mem_cons.1 hz with rfl | hz
      · exact hq
      · exact dlt_trans hq (h.head z hz)
theorem delA_ne {q : DName} {l : DRow} : ∀ x ∈ delA q l, x.1 ≠ q := fun x hx => (mem_delA.1 hx).2
theorem Rising.set {q : DName} {v : FD} {l : DRow} (h : Rising l) : Rising (setS q v l) := (h.del q).ins delA_ne
theorem setS_perm (q : DName) (v : FD) (l : DRow) : (setS q v l).Perm ((q, v) :: delA q l) := insS_perm _ _ _
/-- Rows that rise, of the same files, are the same. -/
theorem Rising.eq {l m : DRow} (h : Rising l) (h2 : Rising m) (hp : l.Perm m) : l = m := by
  have e1 : l.Pairwise fun a b => a.1 < b.1 := List.pairwise_map.1 h
  have e2 : m.Pairwise fun a b => a.1 < b.1 := List.pairwise_map.1 h2
  exact List.Perm.eq_of_pairwise (le := fun a b : DName × FD => a.1 < b.1) (fun a b _ _ h3 h4 => absurd h4 (dlt_asymm h3)) e1 e2 hp
theorem insS_at {q : DName} {v : FD} : ∀ {l : DRow} {k : Nat}, (∀ j (h : j < l.length), j < k → l[j].1 < q) → (∀ (h : k < l.length), ¬ l[k].1 < q) → k ≤ l.length → insS q v l = l.take k ++ (q, v) :: l.drop k
  | [], k, _, _, hk => by simp [insS]
  | x :: r, 0, _, h2, _ => by
    have h3 : ¬ x.1 < q := h2 (by simp)
    unfold insS
    rw [if_neg h3]
    rfl
  | x :: r, k + 1, h1, h2, hk => by
    have h3 : x.1 < q := h1 0 (by simp) (by omega)
    unfold insS
    rw [if_pos h3, insS_at (k := k) (fun j hj hjk => h1 (j + 1) (by simp; omega) (by omega)) (fun h => h2 (by simpa using h)) (by simpa using hk)]
    rfl
/-- One that stands at place i. -/
theorem set_at {q : DName} {v u : FD} {l : DRow} (h : Rising l) {i : Nat} (hi : l[i]? = some (q, u)) : l.set i (q, v) = setS q v l := by
  have hn := h.nodup
  have e := (at_someA hn hi).2.1 v
  rw [← e]
  refine Rising.eq ?_ h.set ((putA_perm hn).trans (setS_perm q v l).symm)
  unfold Rising
  have : (putA q v l).map (·.1) = l.map (·.1) := by
    rw [e, List.map_set]
    obtain ⟨hil, hie⟩ := List.getElem?_eq_some_iff.1 hi
    refine List.ext_getElem? fun j => ?_
    rw [List.getElem?_set]
    split
    · rename_i hj
      subst hj
      simp [hil, hie]
    · rfl
  rw [this]
  exact h

/-! Bytes in all. -/
theorem usedL_perm {l m : DRow} (h : l.Perm m) : usedL l = usedL m := (h.map _).sum_nat
theorem usedL_cons (x : DName × FD) (l : DRow) : usedL (x :: l) = x.2.b.length + usedL l := by simp [usedL]
theorem usedL_append (l m : DRow) : usedL (l ++ m) = usedL l + usedL m := by simp [usedL]
theorem perm_del {q : DName} {f : FD} {l : DRow} (hn : (l.map (·.1)).Nodup) (h : getA q l = some f) : l.Perm ((q, f) :: delA q l) := by
  obtain ⟨j, hj⟩ := List.mem_iff_getElem?.1 (getA_mem h)
  rw [(at_someA hn hj).2.2]
  clear hn h
  induction l generalizing j with
  | nil => simp at hj
  | cons x r ih =>
    cases j with
    | zero => simp at hj; subst hj; exact List.Perm.refl _
    | succ j =>
      have := ih j (by simpa using hj)
      exact (this.cons x).trans (List.Perm.swap _ _ _)
theorem used_del {q : DName} {f : FD} {l : DRow} (hn : (l.map (·.1)).Nodup) (h : getA q l = some f) : usedL (delA q l) + f.b.length = usedL l := by
  have e : usedL l = f.b.length + usedL (delA q l) := by rw [usedL_perm (perm_del hn h), usedL_cons]
  omega
theorem used_del_none {q : DName} {l : DRow} (h : getA q l = none) : delA q l = l := delA_none (getA_none_iff.1 h)
theorem used_set (q : DName) (v : FD) (l : DRow) : usedL (setS q v l) = v.b.length + usedL (delA q l) := by rw [usedL_perm (setS_perm q v l), usedL_cons]
theorem usedL_del_le (q : DName) : ∀ l : DRow, usedL (delA q l) ≤ usedL l
  | [] => by simp [delA]
  | x :: r => by
    have hr := usedL_del_le q r
    unfold delA at hr ⊢
    rw [List.filter_cons, usedL_cons]
    split
    · rw [usedL_cons]; omega
    · omega
theorem setS_length (q : DName) (v : FD) (l : DRow) : (setS q v l).length = (delA q l).length + 1 := by rw [(setS_perm q v l).length_eq]; rfl
theorem delA_length_lt {q : DName} {f : FD} {l : DRow} (hn : (l.map (·.1)).Nodup) (h : getA q l = some f) : (delA q l).length + 1 = l.length := by rw [(perm_del hn h).length_eq]; rfl
theorem mem_setS {q : DName} {v : FD} {l : DRow} {x : DName × FD} : x ∈ setS q v l ↔ x = (q, v) ∨ x ∈ delA q l := by rw [(setS_perm q v l).mem_iff, List.mem_cons]

end Go.Proofs.Ytngjmeohleoglaa
