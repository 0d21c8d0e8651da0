/-
  The contracts of what disk's Sync, Cut and Remove hand to operate.
  Conditions: none but sizes.
-/
import Derived.Test.YtngjmeohleoglaaDiE
import Derived.Test.YtngjmeohleoglaaDiC
namespace Go.Proofs.Ytngjmeohleoglaa
open Go.RowKit
set_option linter.unusedVariables false
set_option linter.unusedSimpArgs false
set_option maxRecDepth 100000

/-- A box of one value. -/
def Bx (w : World) (b : Nat) (v : Value) (ty : TypeId) : Prop := w.heap[b]? = some (.cells #[v] ty (0, 0))
section
variable {w w' : World} {base nb mb b : Nat} {st : DD} {X A B : List PF} {x : PF} {v : Value} {ty : TypeId}
theorem Bx.c (h : Bx w b v ty) : w.cell? ⟨b, 0, none⟩ = some v := by rw [cell_of_row _ _ _ _ _ (0, 0) h]; rfl
theorem Bx.lt (h : Bx w b v ty) : b < w.heap.size := (Array.getElem?_eq_some_iff.1 h).1
theorem Bx.fr (h : Bx w b v ty) : w.frozen? ⟨b, 0, none⟩ = false := frozen_of_row w b 0 _ _ h
theorem Bx.new (w : World) (v : Value) (ty : TypeId) : Bx (w.alloc (.cells #[v] ty)) w.heap.size v ty := heap_alloc_new w _
theorem Bx.keep (h : Bx w b v ty) (hk : w'.heap[b]? = w.heap[b]?) : Bx w' b v ty := hk.trans h
theorem DiskI.draw (h : DiskI w base nb mb X st) : DiskI w.drew base nb mb X st := h.keep fun _ _ => rfl
theorem DiskI.rising (h : DiskI w base nb mb X st) : (st.fs.map (·.1)).Nodup := (h.perm.map (·.1)).nodup_iff.1 (by simpa [Dof, Function.comp_def] using h.nodup)

/-- What Sync's closure leaves. -/
def SyncedD (w : World) (base nb mb : Nat) (st : DD) (A B : List PF) (x : PF) : Ending → World → Prop := fun e w' =>
  e = .returned (.tuple #[]) ∧ DiskI w' base nb mb (A ++ ⟨x.q, x.p, x.v, ⟨x.f.b, x.f.b.length⟩⟩ :: B) { st with fs := setS x.q ⟨x.f.b, x.f.b.length⟩ st.fs } ∧ Mv (fun k => k = x.p) w w'
theorem sync1_any (h : DiskI w base nb mb (A ++ x :: B) st) (hg : getA x.q st.fs = some x.f) {fb : Nat} (hfb : Bx w fb (.pointer (some ⟨x.p, 0, none⟩)) 65) :
    Calls Try.prog 49 #[.pointer (some ⟨fb, 0, none⟩)] w (SyncedD w base nb mb st A B x) := by
  have hx : x ∈ A ++ x :: B := by simp
  obtain ⟨f1, f2⟩ := h.file x hx
  obtain ⟨n1, n2, n3, n4, n5⟩ := h.pne hx
  obtain ⟨Ad, c, hv, hlc, hcm⟩ := f2.form
  have hne : ∀ j, j ≠ x.p → ((w.setCell ⟨x.p, 1, none⟩ (.int .i64 x.f.b.length)).drew).heap[j]? = w.heap[j]? := fun j hj => heap_setCell_other _ _ _ _ hj
  have hu : usedL (setS x.q ⟨x.f.b, x.f.b.length⟩ st.fs) = usedL st.fs := by have := used_del h.rising hg; rw [used_set]; simp only; omega
  have HR := Lib.hid (show DiskI ((w.setCell ⟨x.p, 1, none⟩ (.int .i64 x.f.b.length)).drew) base nb mb (A ++ ⟨x.q, x.p, x.v, ⟨x.f.b, x.f.b.length⟩⟩ :: B) { st with fs := setS x.q ⟨x.f.b, x.f.b.length⟩ st.fs } ∧ Mv (fun k => k = x.p) w ((w.setCell ⟨x.p, 1, none⟩ (.int .i64 x.f.b.length)).drew) from by
    refine ⟨h.upd x.v ⟨x.f.b, x.f.b.length⟩ (f1.set1 _) (f2.keep fun g hg' => hne g (fun e => n5 (by rw [hg', e]))) (fun k hk => .inl hk) ?_ fun j hj _ hjp _ => hne j hjp, ((Mv.refl (fun k => k = x.p) w).setCell (fun _ => rfl) _ _).drew⟩
    rw [hu]
    exact (hne nb n1.symm).trans h.box)
  have k0 : w.drew.cell? ⟨fb, 0, none⟩ = some (.pointer (some ⟨x.p, 0, none⟩)) := hfb.c
  have k1 : w.drew.cell? ⟨x.p, 0, none⟩ = some (.slice Ad x.f.b.length c) := by rw [← hv]; exact f1.c0
  have k2 := f1.fr 1
  have k3 : w.drew.cell? ⟨x.p, 1, none⟩ = some (.int .i64 x.f.safe) := f1.c1
  clear h hg hfb f1 f2 hne hu hv
  unfold SyncedD
  go_enter Try.func49, Try.ntmps49
  go_wp2_with fail
  go_region
  first | go_end0 | refine bodyPost_ret (results_none rfl _ _ _) rfl ?_
  exact ⟨rfl, HR.out⟩

/-- What Cut's closure does: shorten. -/
theorem cut1_any (h : DiskI w base nb mb (A ++ x :: B) st) (hg : getA x.q st.fs = some x.f) {db fb ib : Nat} (n : Nat) (hn : n ≤ x.f.b.length) (hl : x.f.b.length ≤ 1048576) (hu : usedL st.fs ≤ 9223372036854775807) (hbase : base ≤ w.heap.size) (hsf : x.f.safe ≤ 9223372036854775807)
    (hdb : Bx w db (.pointer (some ⟨nb, 0, none⟩)) 23) (hfb : Bx w fb (.pointer (some ⟨x.p, 0, none⟩)) 65) (hib : Bx w ib (.int .i64 n) 3) :
    Calls Try.prog 54 #[.pointer (some ⟨db, 0, none⟩), .pointer (some ⟨fb, 0, none⟩), .pointer (some ⟨ib, 0, none⟩)] w (ShortSaid w base nb mb st A B x n) := by
  have HC := Lib.hid (shorten_any h hg n hn hl hu hbase hsf)
  have k0 := hdb.c
  have k1 := hfb.c
  have k2 := hib.c
  clear h hg hn hl hu hbase hsf
  unfold ShortSaid at *
  go_enter Try.func54, Try.ntmps54
  go_wp2_with (go_at_call 41; refine HC.out.mono ?_; rintro e w1 ⟨v', rfl, h1, h2, h3⟩)
  first | go_end0 | refine bodyPost_ret (results_none rfl _ _ _) rfl ?_
  exact ⟨v', rfl, h1, h2, h3⟩

theorem usedL_le_del {q : DName} {f : FD} (h : DiskI w base nb mb X st) (hg : getA q st.fs = some f) : usedL (delA q st.fs) + f.b.length = usedL st.fs := used_del h.rising hg

/-- What Remove's closure leaves. -/
def RemovedD (w : World) (base nb mb : Nat) (st : DD) (A B : List PF) (x : PF) : Ending → World → Prop := fun e w' =>
  e = .returned (.tuple #[]) ∧ DiskI w' base nb mb (A ++ B) { st with fs := delA x.q st.fs } ∧ Mv (fun k => k = nb ∨ k = mb) w w'
theorem pairwise_mid (h : (A ++ x :: B).Pairwise ApartF) : (A ++ B).Pairwise ApartF := h.sublist (List.Sublist.append (List.Sublist.refl A) (List.sublist_cons_self x B))
theorem remove1_any (h : DiskI w base nb mb (A ++ x :: B) st) (hg : getA x.q st.fs = some x.f) (hq : x.q.length ≤ 140737488355328) (hu : usedL st.fs ≤ 9223372036854775807) {db fb sb' : Nat}
    (hdb : Bx w db (.pointer (some ⟨nb, 0, none⟩)) 23) (hsb : Bx w sb' (.string (str8 x.q)) 9) (hfb : Bx w fb (.pointer (some ⟨x.p, 0, none⟩)) 65) :
    Calls Try.prog 57 #[.pointer (some ⟨db, 0, none⟩), .pointer (some ⟨sb', 0, none⟩), .pointer (some ⟨fb, 0, none⟩)] w (RemovedD w base nb mb st A B x) := by
  have hx : x ∈ A ++ x :: B := by simp
  obtain ⟨f1, f2⟩ := h.file x hx
  obtain ⟨n1, n2, n3, n4, n5⟩ := h.pne hx
  obtain ⟨Ad, c, hv, hlc, hcm⟩ := f2.form
  have hud := usedL_le_del h hg
  obtain ⟨w1, hrun, hm1, hg1, hs1⟩ := h.draw.map.drop Try.underlying48 (q := x.q) hq 0
  rw [(delA_mid h.nodup).1] at hm1
  have hrun' : (Builtin.delete_ #[48, 9] 0 #[.map (some mb), .string (str8 x.q)]).run Try.prog w.drew = .ok (.tuple #[]) w1 := hrun
  have k1 : ∀ j, j < w.heap.size → j ≠ mb → w1.heap[j]? = w.heap[j]? := fun j hj hne => hg1.block j hj (fun e => hne (by simpa using e))
  have hbm : ∀ {b v ty}, Bx w b v ty → b ≠ mb := fun hb => h.map.neCells hb
  have b1 : BoxD w1 nb st.room (usedL st.fs) mb st.fuse st.down := (k1 _ h.box.lt h.mbne).trans h.box
  have p1 : BoxI w1 x.p x.v x.f.safe := (k1 _ f1.lt n2).trans f1
  have d1 := hdb.keep (k1 _ hdb.lt (hbm hdb))
  have d2 := hfb.keep (k1 _ hfb.lt (hbm hfb))
  obtain ⟨u', hu'⟩ : ∃ u', u' = usedL (delA x.q st.fs) := ⟨_, rfl⟩
  have e1 : IntKind.i64.wrap ((usedL st.fs : Int) - (x.f.b.length : Int)) = (u' : Int) := by rw [i64_id _ (by omega) (by omega)]; omega
  have hne : ∀ j, j ≠ nb → ((w1.setCell ⟨nb, 1, none⟩ (.int .i64 u')).drew).heap[j]? = w1.heap[j]? := fun j hj => heap_setCell_other _ _ _ _ hj
  have HR := Lib.hid (show DiskI ((w1.setCell ⟨nb, 1, none⟩ (.int .i64 u')).drew) base nb mb (A ++ B) { st with fs := delA x.q st.fs } ∧ Mv (fun k => k = nb ∨ k = mb) w ((w1.setCell ⟨nb, 1, none⟩ (.int .i64 u')).drew) from by
    refine ⟨h.remap (A ++ B) (delA x.q st.fs) (fun y hy => ⟨y, by rcases List.mem_append.1 hy with hy | hy <;> simp [hy], rfl, rfl, rfl⟩) (pairwise_mid h.apart) (perm_mid h) (hm1.keep (hne mb h.mbne.symm)) ?_ fun j hj hjn hjm => (hne j hjn).trans (k1 j hj hjm), ?_⟩
    · rw [← hu']; exact b1.set1 u'
    · refine (((Mv.refl _ w).trans (F1 := fun k => k = mb) (Mv.of_grown (w := w) ⟨hg1.os, hg1.tape, hg1.output, hg1.size, hg1.block⟩ (fun k hk _ => by simpa using hk.symm)) (fun k _ e => .inr e)).setCell (fun _ => .inl rfl) _ _).drew)
  have k0 : w.drew.cell? ⟨db, 0, none⟩ = _ := hdb.c
  have k2 : w.drew.cell? ⟨sb', 0, none⟩ = _ := hsb.c
  have k3 : w.drew.cell? ⟨nb, 2, none⟩ = _ := h.box.c2
  have l0 : w1.drew.cell? ⟨db, 0, none⟩ = _ := d1.c
  have l1 : w1.drew.cell? ⟨fb, 0, none⟩ = _ := d2.c
  have l2 : w1.drew.cell? ⟨nb, 1, none⟩ = _ := b1.c1
  have l3 : w1.drew.cell? ⟨x.p, 0, none⟩ = some (.slice Ad x.f.b.length c) := by rw [← hv]; exact p1.c0
  have l4 := b1.fr 1
  clear h hg hm1 hg1 hs1 k1 hbm b1 p1 d1 d2 hne hud hu hu' f1 f2 hv hlc hdb hsb hfb
  unfold RemovedD
  go_enter Try.func57, Try.ntmps57
  go_wp2_with fail
  go_region
  go_wp2_with fail
  go_region
  first | go_end0 | refine bodyPost_ret (results_none rfl _ _ _) rfl ?_
  exact ⟨rfl, HR.out⟩
end

end Go.Proofs.Ytngjmeohleoglaa
