/-
  What an append to a file leaves of a disk.
  Conditions: none but sizes.
-/
import Derived.Test.YtngjmeohleoglaaDiG
import Derived.Test.YtngjmeohleoglaaGaW
namespace Go.Proofs.Ytngjmeohleoglaa
open Go.RowKit
set_option linter.unusedVariables false
set_option linter.unusedSimpArgs false
set_option maxRecDepth 100000

section
variable {w w' w8 : World} {base nb mb u : Nat} {st : DD} {X A B : List PF} {x : PF} {v8 : Value} {t : List UInt8} {q : DName} {f : FD} {p : Nat} {v : Value}
/-- A file more. -/
theorem DiskI.add (h : DiskI w base nb mb X st) {fuse : Nat} {down : Bool} (hq : ∀ x ∈ X, x.q ≠ q) (hp : ∀ x ∈ X, x.p ≠ p) (hv : ∀ x ∈ X, ∀ k, v.ownBlock = some k → x.v.ownBlock ≠ some k) (hbf : BoxI w' p v f.safe) (ho : Own 5 w' base v f.b) (hlow : base ≤ p)
    (hcp : ∀ x ∈ X, x.v.ownBlock ≠ some p) (hmap : MapS strFam w' mb (Lof (X ++ [⟨q, p, v, f⟩]))) (hbox : BoxD w' nb st.room (usedL (setS q f st.fs)) mb fuse down) (hk : ∀ k, k < w.heap.size → k ≠ nb → k ≠ mb → k ≠ p → w'.heap[k]? = w.heap[k]?) :
    DiskI w' base nb mb (X ++ [⟨q, p, v, f⟩]) { room := st.room, fuse := fuse, down := down, fs := setS q f st.fs } := by
  refine ⟨hbox, hmap, ?_, fun y hy => ?_, ?_, ?_⟩
  · have hd : delA q st.fs = st.fs := delA_none fun y hy => by
      have := h.perm.mem_iff.2 hy
      obtain ⟨z, hz, rfl⟩ := List.mem_map.1 this
      exact hq z hz
    refine List.Perm.trans ?_ (setS_perm q f st.fs).symm
    rw [hd]
    have : Dof (X ++ [⟨q, p, v, f⟩]) = Dof X ++ [(q, f)] := by simp [Dof]
    rw [this]
    exact List.perm_append_comm.trans (h.perm.cons _)
  · rcases List.mem_append.1 hy with hy | hy
    · obtain ⟨n1, n2, n3, n4, n5⟩ := h.pne hy
      obtain ⟨f1, f2⟩ := h.file y hy
      exact ⟨(hk _ f1.lt n1 n2 (hp y hy)).trans f1, f2.keep fun g hg => hk g (f2.block g hg).2 (fun e => n3 (by rw [hg, e])) (fun e => n4 (by rw [hg, e])) (fun e => hcp y hy (by rw [hg, e]))⟩
    · rw [List.mem_singleton.1 hy]
      exact ⟨hbf, ho⟩
  · rw [List.pairwise_append]
    exact ⟨h.apart, by simp, fun y hy z hz => by rw [List.mem_singleton.1 hz]; exact ⟨hp y hy, fun k h1 h2 => hv y hy k h2 h1⟩⟩
  · rintro k (rfl | rfl | ⟨y, hy, hk'⟩)
    · exact h.low _ (.inl rfl)
    · exact h.low _ (.inr (.inl rfl))
    · rcases List.mem_append.1 hy with hy | hy
      · exact h.low _ (.inr (.inr ⟨y, hy, hk'⟩))
      · rw [List.mem_singleton.1 hy] at hk'
        rcases hk' with rfl | hk'
        · exact hlow
        · exact (ho.block k hk').1

/-- An append onto a file that is there, on its way. -/
structure AppR (W w8 : World) (nb mb p : Nat) (st : DD) (v v8 : Value) (safe : Nat) : Prop where
  boxI : BoxI w8 p v safe
  boxD : BoxD w8 nb st.room (usedL st.fs) mb st.fuse st.down
  bx : ∀ b u ty, Bx W b u ty → ty ≠ 5 → Bx w8 b u ty
theorem append_old (h : DiskI w base nb mb (A ++ x :: B) st) (hg : getA x.q st.fs = some x.f) (ho : Own 5 w8 base v8 (x.f.b ++ t)) (hgr : w.grownBy w8 x.v.ownBlock) (hwh : v8.ownBlock = x.v.ownBlock ∨ ∃ k, v8.ownBlock = some k ∧ w.heap.size ≤ k)
    (hu : u = usedL st.fs + t.length) :
    AppR w w8 nb mb x.p st x.v v8 x.f.safe ∧ (∀ b v ty, Bx w b v ty → ty ≠ 5 → ty ≠ 69 → Bx (w8.setCell ⟨x.p, 0, none⟩ v8) b v ty) ∧ BoxD (w8.setCell ⟨x.p, 0, none⟩ v8) nb st.room (usedL st.fs) mb st.fuse st.down ∧
    DiskI ((w8.setCell ⟨x.p, 0, none⟩ v8).setCell ⟨nb, 1, none⟩ (.int .i64 u)) base nb mb (A ++ ⟨x.q, x.p, v8, ⟨x.f.b ++ t, x.f.safe⟩⟩ :: B) { st with fs := setS x.q ⟨x.f.b ++ t, x.f.safe⟩ st.fs } ∧
    Mv (fun k => k = nb ∨ k = x.p ∨ x.v.ownBlock = some k) w ((w8.setCell ⟨x.p, 0, none⟩ v8).setCell ⟨nb, 1, none⟩ (.int .i64 u)) := by
  have hx : x ∈ A ++ x :: B := by simp
  obtain ⟨f1, f2⟩ := h.file x hx
  obtain ⟨n1, n2, n3, n4, n5⟩ := h.pne hx
  have k8 : ∀ j, j < w.heap.size → x.v.ownBlock ≠ some j → w8.heap[j]? = w.heap[j]? := fun j hj hne => hgr.block j hj (fun e => hne e.symm)
  have p8 : BoxI w8 x.p x.v x.f.safe := (k8 _ f1.lt n5).trans f1
  have b8 := (k8 _ h.box.lt n3).trans h.box
  have bx8 : ∀ b u ty, Bx w b u ty → ty ≠ 5 → Bx w8 b u ty := fun b u ty hb ht => (k8 _ hb.lt (own8_neD f2 hb (fun e => ht e.symm))).trans hb
  have b9 : BoxD (w8.setCell ⟨x.p, 0, none⟩ v8) nb st.room (usedL st.fs) mb st.fuse st.down := (heap_setCell_other _ _ _ _ n1.symm).trans b8
  have hus : usedL (setS x.q ⟨x.f.b ++ t, x.f.safe⟩ st.fs) = u := by
    have := used_del h.rising hg
    rw [used_set]; simp only [List.length_append]; omega
  refine ⟨⟨p8, b8, bx8⟩, fun b v ty hb h1 h2 => ?_, b9, h.upd v8 ⟨x.f.b ++ t, x.f.safe⟩ ?_ ?_ (fun k hk => ?_) ?_ ?_, ?_⟩
  · have hb8 := bx8 b v ty hb h1
    refine (heap_setCell_other _ _ _ _ (fun e => ?_)).trans hb8
    have e : b = x.p := e
    subst e
    unfold Bx at hb8
    have := p8
    unfold BoxI at this
    rw [this] at hb8
    injection hb8 with hb8
    injection hb8 with _ h4 _
    exact h2 h4.symm
  · exact (heap_setCell_other _ _ _ _ n1).trans (p8.set0 v8)
  · refine ho.keep fun g hg' => ?_
    rw [heap_setCell_other _ _ _ _ (fun e : g = nb => own8_neD ho b8 (by decide) (e ▸ hg')), heap_setCell_other _ _ _ _ (fun e : g = x.p => own8_neD ho p8 (by decide) (e ▸ hg'))]
  · rcases hwh with e | ⟨j, e, hj⟩
    · exact .inl (e ▸ hk)
    · rw [e] at hk; cases hk; exact .inr hj
  · rw [hus]; exact b9.set1 u
  · intro k hk hkn hkp hkv
    rw [heap_setCell_other _ _ _ _ hkn, heap_setCell_other _ _ _ _ hkp]
    exact k8 k hk hkv
  · exact (((Mv.refl _ w).trans (F1 := fun k => x.v.ownBlock = some k) (Mv.of_grown hgr fun k hk _ => hk) (fun k _ e => .inr (.inr e))).setCell (fun _ => .inr (.inl rfl)) _ _).setCell (fun _ => .inl rfl) _ _

/-- An append onto a file that is made. -/
theorem append_new (h : DiskI w base nb mb X st) (hq : ∀ x ∈ X, x.q ≠ q) (hp : ∀ x ∈ X, x.p ≠ p) (hbp : BoxI w p (.slice none 0 0) 0) (hlow : base ≤ p) (hbase : base ≤ w.heap.size) {w6 : World} (h6 : RenR w nb mb st.room (usedL st.fs) st.fuse st.down (putA q (.pointer (some ⟨p, 0, none⟩)) (Lof X)) w6)
    (ho : Own 5 w8 w6.heap.size v8 t) (hgr : w6.grownBy w8 none) (hu : u = usedL st.fs + t.length) :
    AppR w w8 nb mb p st (.slice none 0 0) v8 0 ∧ (∀ b v ty, Bx w b v ty → ty ≠ 50 → ty ≠ 69 → Bx (w8.setCell ⟨p, 0, none⟩ v8) b v ty) ∧ BoxD (w8.setCell ⟨p, 0, none⟩ v8) nb st.room (usedL st.fs) mb st.fuse st.down ∧
    DiskI ((w8.setCell ⟨p, 0, none⟩ v8).setCell ⟨nb, 1, none⟩ (.int .i64 u)) base nb mb (X ++ [⟨q, p, v8, ⟨t, 0⟩⟩]) { st with fs := setS q ⟨t, 0⟩ st.fs } ∧
    Mv (fun k => k = nb ∨ k = mb ∨ k = p) w ((w8.setCell ⟨p, 0, none⟩ v8).setCell ⟨nb, 1, none⟩ (.int .i64 u)) ∧ ∀ k, v8.ownBlock = some k → w.heap.size ≤ k := by
  have npn : p ≠ nb := (h.box.neI hbp).symm
  have npm : p ≠ mb := h.map.neCells hbp
  have hs6 := h6.mv.size
  have k6 : ∀ j, j < w6.heap.size → w8.heap[j]? = w6.heap[j]? := fun j hj => hgr.block j hj (by simp)
  have p8 : BoxI w8 p (.slice none 0 0) 0 := by
    have h1 : BoxI w6 p (.slice none 0 0) 0 := (h6.mv.block _ hbp.lt (by rintro (e | e); exact npn e; exact npm e)).trans hbp
    exact (k6 _ h1.lt).trans h1
  have b8 := (k6 _ h6.box.lt).trans h6.box
  have m8 := h6.map.keep (k6 _ h6.map.lt)
  have bx8 : ∀ b u ty, Bx w b u ty → b ≠ nb → Bx w8 b u ty := fun b u ty hb ht => by
    have h1 : Bx w6 b u ty := hb.keep (h6.mv.block b hb.lt (by rintro (e | e); exact ht e; exact h.map.neCells hb e))
    exact h1.keep (k6 _ h1.lt)
  have b9 : BoxD (w8.setCell ⟨p, 0, none⟩ v8) nb st.room (usedL st.fs) mb st.fuse st.down := (heap_setCell_other _ _ _ _ npn.symm).trans b8
  have hnone : getA q st.fs = none := by
    rw [← h.get q]
    exact getA_none fun y hy => by obtain ⟨z, hz, rfl⟩ := List.mem_map.1 hy; exact hq z hz
  have hus : usedL (setS q ⟨t, 0⟩ st.fs) = u := by rw [used_set, used_del_none hnone]; simp only; omega
  have hv8 : ∀ k, v8.ownBlock = some k → w6.heap.size ≤ k := fun k hk => (ho.block k hk).1
  have hlt : ∀ x ∈ X, ∀ k, x.v.ownBlock = some k → k < w.heap.size := fun x hx k hk => ((h.file x hx).2.block k hk).2
  refine ⟨⟨p8, b8, fun b u ty hb ht => ?_⟩, fun b v ty hb h1 h2 => ?_, b9, h.add (v := v8) (f := ⟨t, 0⟩) hq hp (fun x hx k h1 h2 => ?_) ?_ ?_ hlow (fun x hx e => own8_neD (h.file x hx).2 hbp (by decide) e) ?_ ?_ ?_, ?_, fun k hk => by have := hv8 k hk; omega⟩
  · by_cases e : b = nb
    · subst e
      have := h.box
      unfold BoxD at this
      unfold Bx at hb
      rw [this] at hb
      injection hb with hb
      injection hb with h1 _ _
      simp at h1
    · exact bx8 b u ty hb e
  · have hb8 := bx8 b v ty hb (h.bxne hb h1).1
    refine (heap_setCell_other _ _ _ _ (fun e => ?_)).trans hb8
    have e : b = p := e
    subst e
    unfold Bx at hb8
    have := p8
    unfold BoxI at this
    rw [this] at hb8
    injection hb8 with hb8
    injection hb8 with _ h4 _
    exact h2 h4.symm
  · have := hv8 k h1
    have := hlt x hx k h2
    omega
  · exact (heap_setCell_other _ _ _ _ npn).trans (p8.set0 v8)
  · refine Own.mono (ho.keep fun g hg' => ?_) (by omega)
    rw [heap_setCell_other _ _ _ _ (fun e : g = nb => own8_neD ho b8 (by decide) (e ▸ hg')), heap_setCell_other _ _ _ _ (fun e : g = p => own8_neD ho p8 (by decide) (e ▸ hg'))]
  · have e1 : putA q (.pointer (some ⟨p, 0, none⟩)) (Lof X) = Lof (X ++ [⟨q, p, v8, ⟨t, 0⟩⟩]) := by
      rw [putA_none fun y hy => by obtain ⟨z, hz, rfl⟩ := List.mem_map.1 hy; exact hq z hz]
      simp [Lof, PF.ptr]
    rw [e1] at m8
    exact (m8.keep (heap_setCell_other _ _ _ _ npm.symm)).keep (heap_setCell_other _ _ _ _ h.mbne.symm)
  · rw [hus]; exact b9.set1 u
  · intro k hk hkn hkm hkp
    rw [heap_setCell_other _ _ _ _ hkn, heap_setCell_other _ _ _ _ hkp, k6 k (by omega)]
    exact h6.mv.block k hk (by rintro (e | e); exact hkn e; exact hkm e)
  · have hmv : Mv (fun k => k = nb ∨ k = mb ∨ k = p) w w6 := h6.mv.mono fun k _ e => e.elim .inl fun e => .inr (.inl e)
    exact ((hmv.trans (F1 := fun _ => False) (Mv.of_grown hgr fun k hk _ => by cases hk) (fun k _ e => e.elim)).setCell (fun _ => .inr (.inr rfl)) _ _).setCell (fun _ => .inl rfl) _ _
end

end Go.Proofs.Ytngjmeohleoglaa
