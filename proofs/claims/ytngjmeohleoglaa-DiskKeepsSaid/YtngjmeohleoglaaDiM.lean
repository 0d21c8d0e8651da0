/-
  Disks in memory: the box, the map of files by their names, the files' boxes and their rows of bytes.
  Conditions: none.
-/
import Derived.Test.YtngjmeohleoglaaDiP
import Derived.Test.YtngjmeohleoglaaP
namespace Go.Proofs.Ytngjmeohleoglaa
open Go.RowKit
set_option linter.unusedVariables false
set_option linter.unusedSimpArgs false

theorem typesSizeD : ∃ m, Try.prog.types.size = m + 1 := ⟨Try.prog.types.size - 1, by have : 0 < Try.prog.types.size := of_decide_eq_true (by kernel_rfl); omega⟩
/-- Keys that are strings. -/
def strFam : KeyFam Try.prog 9 DName where
  kv q := .string (str8 q)
  ok q := q.length ≤ 140737488355328
  law := Maps.string_keyed Try.underlying9
  lit q hq := ⟨.string q, by
    have h0 : q.length ≤ maxLen := by simp only [maxLen]; omega
    simp [keyOf, Try.underlying9, mapKey, str8, ByteArray.size, h0]⟩
  inj p q h := by simpa [str8] using h

/-- The box of a disk. -/
def BoxD (w : World) (nb room used mb fuse : Nat) (down : Bool) : Prop := w.heap[nb]? = some (.cells #[.int .i64 room, .int .i64 used, .map (some mb), .int .i64 fuse, .bool down] 50 (0, 0))
/-- The box of a file. -/
def BoxI (w : World) (p : Nat) (v : Value) (safe : Nat) : Prop := w.heap[p]? = some (.cells #[v, .int .i64 safe] 69 (0, 0))

section
variable {w w' : World} {nb room used mb fuse p safe : Nat} {down : Bool} {v : Value}
theorem BoxD.lt (h : BoxD w nb room used mb fuse down) : nb < w.heap.size := (Array.getElem?_eq_some_iff.1 h).1
theorem BoxD.c0 (h : BoxD w nb room used mb fuse down) : w.cell? ⟨nb, 0, none⟩ = some (.int .i64 room) := by rw [cell_of_row _ _ _ _ _ (0, 0) h]; rfl
theorem BoxD.c1 (h : BoxD w nb room used mb fuse down) : w.cell? ⟨nb, 1, none⟩ = some (.int .i64 used) := by rw [cell_of_row _ _ _ _ _ (0, 0) h]; rfl
theorem BoxD.c2 (h : BoxD w nb room used mb fuse down) : w.cell? ⟨nb, 2, none⟩ = some (.map (some mb)) := by rw [cell_of_row _ _ _ _ _ (0, 0) h]; rfl
theorem BoxD.c3 (h : BoxD w nb room used mb fuse down) : w.cell? ⟨nb, 3, none⟩ = some (.int .i64 fuse) := by rw [cell_of_row _ _ _ _ _ (0, 0) h]; rfl
theorem BoxD.c4 (h : BoxD w nb room used mb fuse down) : w.cell? ⟨nb, 4, none⟩ = some (.bool down) := by rw [cell_of_row _ _ _ _ _ (0, 0) h]; rfl
theorem BoxD.fr (h : BoxD w nb room used mb fuse down) (j : Nat) : w.frozen? ⟨nb, j, none⟩ = false := frozen_of_row w nb j _ _ h
theorem BoxD.set1 (h : BoxD w nb room used mb fuse down) (k : Nat) : BoxD (w.setCell ⟨nb, 1, none⟩ (.int .i64 k)) nb room k mb fuse down := heap_setCell_same w nb 1 _ 50 (.int .i64 k) h
theorem BoxD.set3 (h : BoxD w nb room used mb fuse down) (k : Nat) : BoxD (w.setCell ⟨nb, 3, none⟩ (.int .i64 k)) nb room used mb k down := heap_setCell_same w nb 3 _ 50 (.int .i64 k) h
theorem BoxD.set4 (h : BoxD w nb room used mb fuse down) (k : Bool) : BoxD (w.setCell ⟨nb, 4, none⟩ (.bool k)) nb room used mb fuse k := heap_setCell_same w nb 4 _ 50 (.bool k) h
theorem BoxI.lt (h : BoxI w p v safe) : p < w.heap.size := (Array.getElem?_eq_some_iff.1 h).1
theorem BoxI.c0 (h : BoxI w p v safe) : w.cell? ⟨p, 0, none⟩ = some v := by rw [cell_of_row _ _ _ _ _ (0, 0) h]; rfl
theorem BoxI.c1 (h : BoxI w p v safe) : w.cell? ⟨p, 1, none⟩ = some (.int .i64 safe) := by rw [cell_of_row _ _ _ _ _ (0, 0) h]; rfl
theorem BoxI.fr (h : BoxI w p v safe) (j : Nat) : w.frozen? ⟨p, j, none⟩ = false := frozen_of_row w p j _ _ h
theorem BoxI.set0 (h : BoxI w p v safe) (u : Value) : BoxI (w.setCell ⟨p, 0, none⟩ u) p u safe := heap_setCell_same w p 0 _ 69 u h
theorem BoxI.set1 (h : BoxI w p v safe) (k : Nat) : BoxI (w.setCell ⟨p, 1, none⟩ (.int .i64 k)) p v k := heap_setCell_same w p 1 _ 69 (.int .i64 k) h
theorem BoxD.neI (h : BoxD w nb room used mb fuse down) (h2 : BoxI w p v safe) : nb ≠ p := by
  rintro rfl
  unfold BoxD at h
  rw [h2] at h
  injection h with h
  injection h with _ h2 _
  exact absurd h2 (by decide)
end
theorem own8_neD {e e' : TypeId} {w : World} {base b : Nat} {v : Value} {cs : Array Value} {fr : Nat × Nat} {m : List UInt8} (h : Own e w base v m) (hb : w.heap[b]? = some (.cells cs e' fr)) (he : e ≠ e') : v.ownBlock ≠ some b := by
  intro hv
  rcases h.2 with ⟨rfl, _⟩ | ⟨g, cap, cur, rfl, _, hg, _⟩
  · cases hv
  · cases hv
    rw [hg] at hb
    injection hb with hb
    injection hb with _ h2 _
    exact he h2

/-- A file in memory. -/
structure PF where
  q : DName
  p : Nat
  v : Value
  f : FD
def PF.ptr (x : PF) : Value := .pointer (some ⟨x.p, 0, none⟩)
def Lof (X : List PF) : List (DName × Value) := X.map fun x => (x.q, x.ptr)
def Dof (X : List PF) : DRow := X.map fun x => (x.q, x.f)
/-- The blocks of a disk. -/
def footD (nb mb : Nat) (X : List PF) (k : Nat) : Prop := k = nb ∨ k = mb ∨ ∃ x ∈ X, k = x.p ∨ x.v.ownBlock = some k
def ApartF (x y : PF) : Prop := x.p ≠ y.p ∧ ∀ k, x.v.ownBlock = some k → y.v.ownBlock ≠ some k

structure DiskI (w : World) (base nb mb : Nat) (X : List PF) (st : DD) : Prop where
  box : BoxD w nb st.room (usedL st.fs) mb st.fuse st.down
  map : MapS strFam w mb (Lof X)
  perm : (Dof X).Perm st.fs
  file : ∀ x ∈ X, BoxI w x.p x.v x.f.safe ∧ Own 5 w base x.v x.f.b
  apart : X.Pairwise ApartF
  low : ∀ k, footD nb mb X k → base ≤ k

section
variable {w w' : World} {base nb mb : Nat} {X A B : List PF} {x x' : PF} {st : DD}
theorem DiskI.lt (h : DiskI w base nb mb X st) : ∀ k, footD nb mb X k → k < w.heap.size := by
  rintro k (rfl | rfl | ⟨x, hx, rfl | hk⟩)
  · exact h.box.lt
  · exact h.map.lt
  · exact (h.file x hx).1.lt
  · exact ((h.file x hx).2.block k hk).2
theorem DiskI.keep (h : DiskI w base nb mb X st) (hk : ∀ k, footD nb mb X k → w'.heap[k]? = w.heap[k]?) : DiskI w' base nb mb X st :=
  ⟨(hk _ (.inl rfl)).trans h.box, h.map.keep (hk _ (.inr (.inl rfl))), h.perm, fun x hx => ⟨(hk _ (.inr (.inr ⟨x, hx, .inl rfl⟩))).trans (h.file x hx).1, (h.file x hx).2.keep fun g hg => hk _ (.inr (.inr ⟨x, hx, .inr hg⟩))⟩, h.apart, h.low⟩
theorem DiskI.mbne (h : DiskI w base nb mb X st) : nb ≠ mb := h.map.neCells h.box
theorem DiskI.pne (h : DiskI w base nb mb X st) (hx : x ∈ X) : x.p ≠ nb ∧ x.p ≠ mb ∧ x.v.ownBlock ≠ some nb ∧ x.v.ownBlock ≠ some mb ∧ x.v.ownBlock ≠ some x.p := by
  obtain ⟨h1, h2⟩ := h.file x hx
  refine ⟨(h.box.neI h1).symm, h.map.neCells h1, own8_neD h2 h.box (by decide), fun e => ?_, own8_neD h2 h1 (by decide)⟩
  rcases h2.2 with ⟨e2, _⟩ | ⟨g, cap, cur, e2, _, hg, _⟩
  · rw [e2] at e; cases e
  · rw [e2] at e
    have : g = mb := by simpa [Value.ownBlock] using e
    exact h.map.neCells hg this
theorem DiskI.nodup (h : DiskI w base nb mb X st) : (X.map (·.q)).Nodup := by
  have := h.map.2.2
  simpa [Lof, Function.comp_def] using this
/-- The disk's own box changes: its last numbers. -/
theorem DiskI.setBox (h : DiskI w base nb mb X st) {fuse : Nat} {down : Bool} (hb : BoxD w' nb st.room (usedL st.fs) mb fuse down) (hk : ∀ k, k < w.heap.size → k ≠ nb → w'.heap[k]? = w.heap[k]?) : DiskI w' base nb mb X { st with fuse := fuse, down := down } := by
  have hlt := h.lt
  refine ⟨hb, h.map.keep (hk _ h.map.lt h.mbne.symm), h.perm, fun x hx => ?_, h.apart, h.low⟩
  obtain ⟨n1, n2, n3, n4, n5⟩ := h.pne hx
  obtain ⟨f1, f2⟩ := h.file x hx
  exact ⟨(hk _ f1.lt n1).trans f1, f2.keep fun g hg => hk g (f2.block g hg).2 (fun e => n3 (by rw [hg, e]))⟩
theorem DiskI.setFuse (h : DiskI w base nb mb X st) (k : Nat) : DiskI (w.setCell ⟨nb, 3, none⟩ (.int .i64 k)) base nb mb X { st with fuse := k } :=
  h.setBox (h.box.set3 k) fun j _ hj => heap_setCell_other _ _ _ _ hj
theorem DiskI.setDown (h : DiskI w base nb mb X st) (k : Bool) : DiskI (w.setCell ⟨nb, 4, none⟩ (.bool k)) base nb mb X { st with down := k } :=
  h.setBox (h.box.set4 k) fun j _ hj => heap_setCell_other _ _ _ _ hj

/-- Where a file is. -/
theorem split_of (hg : getA x.q (Lof X) = some x.ptr) : ∃ A y B, X = A ++ y :: B ∧ y.q = x.q ∧ y.p = x.p := by
  have := getA_mem hg
  obtain ⟨y, hy, e⟩ := List.mem_map.1 this
  obtain ⟨A, B, rfl⟩ := List.append_of_mem hy
  simp [PF.ptr] at e
  exact ⟨A, y, B, rfl, e.1, e.2⟩
theorem getA_Lof_none {q : DName} (h : getA q (Dof X) = none) : getA q (Lof X) = none ∧ ∀ x ∈ X, x.q ≠ q := by
  have h1 : ∀ x ∈ X, x.q ≠ q := fun x hx => getA_none_iff.1 h (x.q, x.f) (List.mem_map.2 ⟨x, hx, rfl⟩)
  exact ⟨getA_none fun y hy => by obtain ⟨x, hx, rfl⟩ := List.mem_map.1 hy; exact h1 x hx, h1⟩
theorem getA_Lof_some {q : DName} {f : FD} (hn : (X.map (·.q)).Nodup) (h : getA q (Dof X) = some f) : ∃ A x B, X = A ++ x :: B ∧ x.q = q ∧ x.f = f ∧ getA q (Lof X) = some x.ptr := by
  obtain ⟨x, hx, e⟩ := List.mem_map.1 (getA_mem h)
  simp at e
  obtain ⟨A, B, rfl⟩ := List.append_of_mem hx
  refine ⟨A, x, B, rfl, e.1, e.2, getA_of_mem (by simpa [Lof, Function.comp_def] using hn) (List.mem_map.2 ⟨x, hx, by rw [e.1]⟩)⟩
theorem DiskI.get (h : DiskI w base nb mb X st) (q : DName) : getA q (Dof X) = getA q st.fs :=
  getA_perm h.perm (by simpa [Dof, Function.comp_def] using h.nodup)
theorem DiskI.count (h : DiskI w base nb mb X st) : X.length = st.fs.length := by simpa [Dof] using h.perm.length_eq
theorem mid_ne (hn : ((A ++ x :: B).map (·.q)).Nodup) : ∀ y ∈ A ++ B, y.q ≠ x.q := by
  intro y hy e
  simp only [List.map_append, List.map_cons, List.nodup_append, List.nodup_cons] at hn
  obtain ⟨_, ⟨h2, _⟩, h3⟩ := hn
  rcases List.mem_append.1 hy with hy | hy
  · exact h3 y.q (List.mem_map.2 ⟨y, hy, rfl⟩) x.q (by simp) e
  · exact h2 (by rw [← e]; exact List.mem_map.2 ⟨y, hy, rfl⟩)
theorem delA_mid (hn : ((A ++ x :: B).map (·.q)).Nodup) : delA x.q (Lof (A ++ x :: B)) = Lof (A ++ B) ∧ delA x.q (Dof (A ++ x :: B)) = Dof (A ++ B) := by
  have h := mid_ne hn
  constructor
  · unfold delA Lof
    rw [List.map_append, List.map_cons, List.filter_append, List.filter_cons, if_neg (by simp), ← List.filter_append, ← List.map_append, List.filter_eq_self.2]
    intro y hy
    obtain ⟨z, hz, rfl⟩ := List.mem_map.1 hy
    simpa using h z hz
  · unfold delA Dof
    rw [List.map_append, List.map_cons, List.filter_append, List.filter_cons, if_neg (by simp), ← List.filter_append, ← List.map_append, List.filter_eq_self.2]
    intro y hy
    obtain ⟨z, hz, rfl⟩ := List.mem_map.1 hy
    simpa using h z hz
theorem perm_mid (h : DiskI w base nb mb (A ++ x :: B) st) : (Dof (A ++ B)).Perm (delA x.q st.fs) := by
  have := delA_perm (q := x.q) h.perm
  rwa [(delA_mid h.nodup).2] at this
/-- One file changes. -/
theorem DiskI.upd (h : DiskI w base nb mb (A ++ x :: B) st) (v' : Value) (f' : FD) {fuse : Nat} {down : Bool} (hbf : BoxI w' x.p v' f'.safe) (ho : Own 5 w' base v' f'.b)
    (hrow : ∀ k, v'.ownBlock = some k → x.v.ownBlock = some k ∨ w.heap.size ≤ k) (hbox : BoxD w' nb st.room (usedL (setS x.q f' st.fs)) mb fuse down)
    (hk : ∀ k, k < w.heap.size → k ≠ nb → k ≠ x.p → x.v.ownBlock ≠ some k → w'.heap[k]? = w.heap[k]?) :
    DiskI w' base nb mb (A ++ ⟨x.q, x.p, v', f'⟩ :: B) { room := st.room, fuse := fuse, down := down, fs := setS x.q f' st.fs } := by
  have hx : x ∈ A ++ x :: B := by simp
  obtain ⟨n1, n2, n3, n4, n5⟩ := h.pne hx
  have hap := h.apart
  rw [List.pairwise_append, List.pairwise_cons] at hap
  obtain ⟨a1, ⟨a2, a3⟩, a4⟩ := hap
  have hoth : ∀ y, y ∈ A ∨ y ∈ B → y.p ≠ x.p ∧ ∀ k, y.v.ownBlock = some k → x.v.ownBlock ≠ some k := by
    rintro y (hy | hy)
    · exact a4 y hy x (by simp)
    · have := a2 y hy
      exact ⟨this.1.symm, fun k h1 h2 => this.2 k h2 h1⟩
  have hfile : ∀ y, y ∈ A ∨ y ∈ B → BoxI w' y.p y.v y.f.safe ∧ Own 5 w' base y.v y.f.b := by
    intro y hy
    have hy' : y ∈ A ++ x :: B := by rcases hy with hy | hy <;> simp [hy]
    obtain ⟨m1, m2, m3, m4, m5⟩ := h.pne hy'
    obtain ⟨f1, f2⟩ := h.file y hy'
    obtain ⟨o1, o2⟩ := hoth y hy
    refine ⟨(hk _ f1.lt m1 o1 (own8_neD (h.file x hx).2 f1 (by decide))).trans f1, f2.keep fun g hg => hk g (f2.block g hg).2 (fun e => m3 (by rw [hg, e])) (fun e => ?_) (o2 g hg)⟩
    subst e
    exact own8_neD f2 (h.file x hx).1 (by decide) hg
  have hv : ∀ y, y ∈ A ∨ y ∈ B → ∀ k, y.v.ownBlock = some k → v'.ownBlock ≠ some k := by
    intro y hy k h1 h2
    have hy' : y ∈ A ++ x :: B := by rcases hy with hy | hy <;> simp [hy]
    rcases hrow k h2 with h3 | h3
    · exact (hoth y hy).2 k h1 h3
    · have := ((h.file y hy').2.block k h1).2
      omega
  refine ⟨hbox, ?_, ?_, ?_, ?_, ?_⟩
  · have : Lof (A ++ ⟨x.q, x.p, v', f'⟩ :: B) = Lof (A ++ x :: B) := by simp [Lof, PF.ptr]
    rw [this]
    exact h.map.keep (hk _ h.map.lt h.mbne.symm (fun e => n2 e.symm) n4)
  · have e1 : (Dof (A ++ ⟨x.q, x.p, v', f'⟩ :: B)).Perm ((x.q, f') :: Dof (A ++ B)) := by
      simp only [Dof, List.map_append, List.map_cons]
      exact List.perm_middle
    exact e1.trans (((perm_mid h).cons _).trans (setS_perm _ _ _).symm)
  · intro y hy
    rcases List.mem_append.1 hy with hy | hy
    · exact hfile y (.inl hy)
    · rcases List.mem_cons.1 hy with rfl | hy
      · exact ⟨hbf, ho⟩
      · exact hfile y (.inr hy)
  · rw [List.pairwise_append, List.pairwise_cons]
    refine ⟨a1, ⟨fun y hy => ⟨((hoth y (.inr hy)).1).symm, fun k h1 h2 => hv y (.inr hy) k h2 h1⟩, a3⟩, fun y hy z hz => ?_⟩
    rcases List.mem_cons.1 hz with rfl | hz
    · exact ⟨(hoth y (.inl hy)).1, fun k h1 => hv y (.inl hy) k h1⟩
    · exact a4 y hy z (by simp [hz])
  · rintro k (rfl | rfl | ⟨y, hy, hk'⟩)
    · exact h.low _ (.inl rfl)
    · exact h.low _ (.inr (.inl rfl))
    · rcases List.mem_append.1 hy with hy | hy
      · exact h.low _ (.inr (.inr ⟨y, by simp [hy], hk'⟩))
      · rcases List.mem_cons.1 hy with rfl | hy
        · rcases hk' with rfl | hk'
          · exact h.low _ (.inr (.inr ⟨x, hx, .inl rfl⟩))
          · exact (ho.block k hk').1
        · exact h.low _ (.inr (.inr ⟨y, by simp [hy], hk'⟩))
/-- The map changes: files of the same boxes under these names. -/
theorem DiskI.remap (h : DiskI w base nb mb X st) (Y : List PF) (fs' : DRow) {fuse : Nat} {down : Bool} (hsub : ∀ y ∈ Y, ∃ x ∈ X, y.p = x.p ∧ y.v = x.v ∧ y.f = x.f) (hap : Y.Pairwise ApartF) (hperm : (Dof Y).Perm fs')
    (hmap : MapS strFam w' mb (Lof Y)) (hbox : BoxD w' nb st.room (usedL fs') mb fuse down) (hk : ∀ k, k < w.heap.size → k ≠ nb → k ≠ mb → w'.heap[k]? = w.heap[k]?) :
    DiskI w' base nb mb Y { room := st.room, fuse := fuse, down := down, fs := fs' } := by
  refine ⟨hbox, hmap, hperm, fun y hy => ?_, hap, ?_⟩
  · obtain ⟨x, hx, e1, e2, e3⟩ := hsub y hy
    obtain ⟨n1, n2, n3, n4, n5⟩ := h.pne hx
    obtain ⟨f1, f2⟩ := h.file x hx
    rw [e1, e2, e3]
    exact ⟨(hk _ f1.lt n1 n2).trans f1, f2.keep fun g hg => hk g (f2.block g hg).2 (fun e => n3 (by rw [hg, e])) (fun e => n4 (by rw [hg, e]))⟩
  · rintro k (rfl | rfl | ⟨y, hy, hk'⟩)
    · exact h.low _ (.inl rfl)
    · exact h.low _ (.inr (.inl rfl))
    · obtain ⟨x, hx, e1, e2, e3⟩ := hsub y hy
      rw [e1, e2] at hk'
      exact h.low _ (.inr (.inr ⟨x, hx, hk'⟩))
end

/-- A disk whose blocks are among those of F. -/
def DiskM (w : World) (base nb : Nat) (st : DD) (F : Nat → Prop) : Prop := (∃ mb X, DiskI w base nb mb X st ∧ ∀ k, footD nb mb X k → F k) ∧ ∀ k, F k → base ≤ k ∧ k < w.heap.size
/-- F, and what is new. -/
def newer (F : Nat → Prop) (w w' : World) (k : Nat) : Prop := F k ∨ (w.heap.size ≤ k ∧ k < w'.heap.size)

section
variable {w w' w1 w2 : World} {base nb : Nat} {st st' : DD} {F G : Nat → Prop}
theorem DiskM.keep (h : DiskM w base nb st F) (hm : Mv G w w') (hd : ∀ k, F k → ¬ G k) : DiskM w' base nb st F := by
  obtain ⟨⟨mb, X, h1, h2⟩, h3⟩ := h
  exact ⟨⟨mb, X, h1.keep fun k hk => hm.block k (h3 k (h2 k hk)).2 (hd k (h2 k hk)), h2⟩, fun k hk => ⟨(h3 k hk).1, Nat.lt_of_lt_of_le (h3 k hk).2 hm.size⟩⟩
theorem DiskM.lt (h : DiskM w base nb st F) : nb < w.heap.size ∧ base ≤ nb := by
  obtain ⟨⟨mb, X, h1, h2⟩, h3⟩ := h
  exact ⟨(h3 _ (h2 _ (.inl rfl))).2, (h3 _ (h2 _ (.inl rfl))).1⟩
theorem DiskM.wider (h : DiskM w base nb st F) (hs : ∀ k, F k → G k) (hg : ∀ k, G k → base ≤ k ∧ k < w.heap.size) : DiskM w base nb st G := by
  obtain ⟨⟨mb, X, h1, h2⟩, h3⟩ := h
  exact ⟨⟨mb, X, h1, fun k hk => hs k (h2 k hk)⟩, hg⟩
end

end Go.Proofs.Ytngjmeohleoglaa
