/-
  The contract of what disk's Rename hands to operate.
  Conditions: none but sizes.
-/
import Derived.Test.YtngjmeohleoglaaDiF
import Derived.Test.YtngjmeohleoglaaGaJ
import Derived.Deep.RegionLaw
namespace Go.Proofs.Ytngjmeohleoglaa
open Go.RowKit
set_option linter.unusedVariables false
set_option linter.unusedSimpArgs false
set_option maxRecDepth 100000

/-- A disk whose map is being turned. -/
structure RenR (w0 : World) (nb mb room used fuse : Nat) (down : Bool) (M : List (DName × Value)) (w : World) : Prop where
  box : BoxD w nb room used mb fuse down
  map : MapS strFam w mb M
  mv : Mv (fun k => k = nb ∨ k = mb) w0 w

section
variable {w0 w w' : World} {base nb mb room used fuse b : Nat} {down : Bool} {M : List (DName × Value)} {st : DD} {X A B : List PF} {x : PF} {v : Value} {ty : TypeId}
theorem RenR.start (h : DiskI w base nb mb X st) : RenR w nb mb st.room (usedL st.fs) st.fuse st.down (Lof X) w := ⟨h.box, h.map, Mv.refl _ _⟩
theorem RenR.drew (h : RenR w0 nb mb room used fuse down M w) : RenR w0 nb mb room used fuse down M w.drew := ⟨h.box, h.map.keep rfl, h.mv.drew⟩
theorem RenR.below (h : RenR w0 nb mb room used fuse down M w) (hb : Below w.heap.size w w') : RenR w0 nb mb room used fuse down M w' :=
  ⟨(hb.block _ h.box.lt).trans h.box, h.map.keep (hb.block _ h.map.lt), h.mv.trans (Mv.of_below (F := fun _ => False) hb) fun _ _ e => e.elim⟩
theorem RenR.setUsed (h : RenR w0 nb mb room used fuse down M w) (u : Nat) : RenR w0 nb mb room u fuse down M (w.setCell ⟨nb, 1, none⟩ (.int .i64 u)) :=
  ⟨h.box.set1 u, h.map.keep (heap_setCell_other _ _ _ _ (h.map.neCells h.box).symm), h.mv.setCell (fun _ => .inl rfl) _ _⟩
theorem RenR.drop (h : RenR w0 nb mb room used fuse down M w) {q : DName} (hq : q.length ≤ 140737488355328) :
    ∃ w', (Builtin.delete_ #[48, 9] 0 #[.map (some mb), .string (str8 q)]).run Try.prog w = .ok (.tuple #[]) w' ∧ RenR w0 nb mb room used fuse down (delA q M) w' := by
  obtain ⟨w', h1, h2, h3, h4⟩ := h.map.drop Try.underlying48 (q := q) hq 0
  refine ⟨w', h1, (h3.block _ h.box.lt (fun e => h.map.neCells h.box (by simpa using e))).trans h.box, h2, h.mv.trans (F1 := fun k => k = mb) (Mv.of_grown h3 fun k hk _ => by simpa using hk.symm) fun k _ e => .inr e⟩
theorem RenR.put (h : RenR w0 nb mb room used fuse down M w) {q : DName} (hq : q.length ≤ 140737488355328) (v : Value) :
    ∃ w', (Instr.mapUpdate 48 (.map (some mb)) (.string (str8 q)) v).run Try.prog w = .ok () w' ∧ RenR w0 nb mb room used fuse down (putA q v M) w' := by
  obtain ⟨w', h1, h2, h3, h4⟩ := h.map.store Try.underlying48 (q := q) hq v
  refine ⟨w', h1, (h3.block _ h.box.lt (fun e => h.map.neCells h.box (by simpa using e))).trans h.box, h2, h.mv.trans (F1 := fun k => k = mb) (Mv.of_grown h3 fun k hk _ => by simpa using hk.symm) fun k _ e => .inr e⟩
theorem RenR.look (h : RenR w0 nb mb room used fuse down M w) {q : DName} (hq : q.length ≤ 140737488355328) : (Instr.lookup 48 (.map (some mb)) (.string (str8 q)) true).run Try.prog w = .ok (.tuple #[(getA q M).getD (.pointer none), .bool (getA q M).isSome]) w :=
  h.map.look Try.underlying48 hq (zeroFile w)
theorem DiskI.bxne (h : DiskI w base nb mb X st) (hb : Bx w b v ty) (ht : ty ≠ 50) : b ≠ nb ∧ b ≠ mb := by
  refine ⟨?_, h.map.neCells hb⟩
  rintro rfl
  have := h.box
  unfold BoxD at this
  unfold Bx at hb
  rw [this] at hb
  injection hb with hb
  injection hb with _ h2 _
  exact ht h2.symm
theorem RenR.bx (h : RenR w0 nb mb room used fuse down M w) (hd : DiskI w0 base nb mb X st) (hb : Bx w0 b v ty) (ht : ty ≠ 50) : Bx w b v ty := by
  obtain ⟨h1, h2⟩ := hd.bxne hb ht
  exact hb.keep (h.mv.block b hb.lt (by rintro (e | e); exact h1 e; exact h2 e))
theorem RenR.boxI (h : RenR w0 nb mb room used fuse down M w) (hd : DiskI w0 base nb mb X st) (hx : x ∈ X) : BoxI w x.p x.v x.f.safe := by
  obtain ⟨n1, n2, _⟩ := hd.pne hx
  have f1 := (hd.file x hx).1
  exact (h.mv.block _ f1.lt (by rintro (e | e); exact n1 e; exact n2 e)).trans f1

/-- What Rename's closure leaves. -/
def RenamedD (w : World) (base nb mb : Nat) (st : DD) (X : List PF) (x : PF) (r : DName) : Ending → World → Prop := fun e w' =>
  e = .returned (.tuple #[]) ∧ (∃ Y, DiskI w' base nb mb Y { st with fs := setS r x.f (delA x.q st.fs) } ∧ ∀ y ∈ Y, ∃ z ∈ X, y.p = z.p ∧ y.v = z.v) ∧ Mv (fun k => k = nb ∨ k = mb) w w'
theorem rename_end (h : DiskI w base nb mb (A ++ x :: B) st) (r : DName) {u : Nat} (hr : RenR w nb mb st.room u st.fuse st.down (putA r x.ptr (Lof (A ++ B))) w') (hu : u = usedL (setS r x.f (delA x.q st.fs))) :
    (∃ Y, DiskI w' base nb mb Y { st with fs := setS r x.f (delA x.q st.fs) } ∧ ∀ y ∈ Y, ∃ z ∈ A ++ x :: B, y.p = z.p ∧ y.v = z.v) ∧ Mv (fun k => k = nb ∨ k = mb) w w' := by
  refine ⟨?_, hr.mv⟩
  have hm := hr.map
  have hap := h.apart
  rw [List.pairwise_append, List.pairwise_cons] at hap
  obtain ⟨a1, ⟨a2, a3⟩, a4⟩ := hap
  have hx1 : ∀ y ∈ A ++ B, ApartF y x ∧ ApartF x y := by
    intro y hy
    rcases List.mem_append.1 hy with hy | hy
    · have := a4 y hy x (by simp)
      exact ⟨this, this.1.symm, fun k h1 h2 => this.2 k h2 h1⟩
    · have := a2 y hy
      exact ⟨⟨this.1.symm, fun k h1 h2 => this.2 k h2 h1⟩, this⟩
  have hndAB : ((A ++ B).map (·.q)).Nodup := h.nodup.sublist ((List.Sublist.append (List.Sublist.refl A) (List.sublist_cons_self x B)).map _)
  have hbox := hr.box
  rw [hu] at hbox
  have hperm := perm_mid h
  cases hg : getA r (Dof (A ++ B)) with
  | none =>
    obtain ⟨_, hne⟩ := getA_Lof_none hg
    have e1 : putA r x.ptr (Lof (A ++ B)) = Lof (A ++ B ++ [⟨r, x.p, x.v, x.f⟩]) := by
      rw [putA_none fun y hy => by obtain ⟨z, hz, rfl⟩ := List.mem_map.1 hy; exact hne z hz]
      simp [Lof, PF.ptr]
    rw [e1] at hm
    refine ⟨_, h.remap (w' := w') (A ++ B ++ [⟨r, x.p, x.v, x.f⟩]) _ (fun y hy => ?_) ?_ ?_ hm hbox (fun j hj hjn hjm => hr.mv.block j hj (by rintro (e | e); exact hjn e; exact hjm e)), fun y hy => ?_⟩
    · rcases List.mem_append.1 hy with hy | hy
      · exact ⟨y, by rcases List.mem_append.1 hy with hy | hy <;> simp [hy], rfl, rfl, rfl⟩
      · rw [List.mem_singleton.1 hy]; exact ⟨x, by simp, rfl, rfl, rfl⟩
    · rw [List.pairwise_append]
      exact ⟨pairwise_mid h.apart, by simp, fun y hy z hz => by rw [List.mem_singleton.1 hz]; exact (hx1 y hy).1⟩
    · refine List.Perm.trans ?_ (setS_perm r x.f (delA x.q st.fs)).symm
      have hd : delA r (delA x.q st.fs) = delA x.q st.fs := delA_none fun y hy => by
        have := hperm.mem_iff.2 hy
        obtain ⟨z, hz, rfl⟩ := List.mem_map.1 this
        exact hne z hz
      rw [hd]
      have : Dof (A ++ B ++ [⟨r, x.p, x.v, x.f⟩]) = Dof (A ++ B) ++ [(r, x.f)] := by simp [Dof]
      rw [this]
      exact List.perm_append_comm.trans (hperm.cons _)
    · rcases List.mem_append.1 hy with hy | hy
      · exact ⟨y, by rcases List.mem_append.1 hy with hy | hy <;> simp [hy], rfl, rfl⟩
      · rw [List.mem_singleton.1 hy]; exact ⟨x, by simp, rfl, rfl⟩
  | some f =>
    obtain ⟨A', y, B', hAB, e1, e2, e3⟩ := getA_Lof_some hndAB hg
    have e4 : putA r x.ptr (Lof (A ++ B)) = Lof (A' ++ ⟨r, x.p, x.v, x.f⟩ :: B') := by
      have hn' : ((Lof (A ++ B)).map (·.1)).Nodup := by simpa [Lof, Function.comp_def] using hndAB
      have hj : (Lof (A ++ B))[A'.length]? = some (r, y.ptr) := by rw [hAB]; simp [Lof, e1]
      rw [(at_someA hn' hj).2.1, hAB]
      simp [Lof, PF.ptr]
    rw [e4] at hm
    have hsubAB : ∀ z, z ∈ A' ∨ z ∈ B' → z ∈ A ++ B := fun z hz => by rw [hAB]; rcases hz with hz | hz <;> simp [hz]
    have hsub : ∀ z ∈ A' ++ ⟨r, x.p, x.v, x.f⟩ :: B', ∃ y ∈ A ++ x :: B, z.p = y.p ∧ z.v = y.v ∧ z.f = y.f := by
      intro z hz
      have : (z ∈ A' ∨ z ∈ B') ∨ z = ⟨r, x.p, x.v, x.f⟩ := by
        rcases List.mem_append.1 hz with hz | hz
        · exact .inl (.inl hz)
        · rcases List.mem_cons.1 hz with rfl | hz
          · exact .inr rfl
          · exact .inl (.inr hz)
      rcases this with hz | rfl
      · exact ⟨z, by rcases List.mem_append.1 (hsubAB z hz) with hy | hy <;> simp [hy], rfl, rfl, rfl⟩
      · exact ⟨x, by simp, rfl, rfl, rfl⟩
    refine ⟨_, h.remap (w' := w') (A' ++ ⟨r, x.p, x.v, x.f⟩ :: B') _ hsub ?_ ?_ hm hbox (fun j hj hjn hjm => hr.mv.block j hj (by rintro (e | e); exact hjn e; exact hjm e)), fun z hz => by obtain ⟨y, h1, h2, h3, _⟩ := hsub z hz; exact ⟨y, h1, h2, h3⟩⟩
    · have := pairwise_mid h.apart
      rw [hAB, List.pairwise_append, List.pairwise_cons] at this
      obtain ⟨p1, ⟨p2, p3⟩, p4⟩ := this
      rw [List.pairwise_append, List.pairwise_cons]
      refine ⟨p1, ⟨fun z hz => (hx1 z (hsubAB z (.inr hz))).2, p3⟩, fun z hz u hu => ?_⟩
      rcases List.mem_cons.1 hu with rfl | hu
      · exact (hx1 z (hsubAB z (.inl hz))).1
      · exact p4 z hz u (by simp [hu])
    · refine List.Perm.trans ?_ (setS_perm r x.f (delA x.q st.fs)).symm
      have hd : (Dof (A' ++ B')).Perm (delA r (delA x.q st.fs)) := by
        have := delA_perm (q := r) hperm
        rw [hAB, ← e1, (delA_mid (hAB ▸ hndAB)).2, e1] at this
        exact this
      have e5 : (Dof (A' ++ ⟨r, x.p, x.v, x.f⟩ :: B')).Perm ((r, x.f) :: Dof (A' ++ B')) := by
        simp only [Dof, List.map_append, List.map_cons]
        exact List.perm_middle
      exact e5.trans (hd.cons _)
end

end Go.Proofs.Ytngjmeohleoglaa
