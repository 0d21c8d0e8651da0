/-
  The document's round in memory; what a call of it leaves.
  Conditions: none.
-/
import Derived.Test.YtknfiiacalfelaaCdP
import Derived.Test.YtknfiiacalfelaaCrX
import Derived.Test.YtknfiiacalfelaaBig
import Derived.Deep.QuietTactic
import Derived.BigQuiet
namespace Go.Proofs.Ytknfiiacalfelaa
open Go.RowKit Go.Shelf
set_option linter.unusedVariables false
set_option linter.unusedSimpArgs false

def subC : Code (Tg × Nat) := { enc := fun x => [.string (str8 x.1), .int .u64 x.2], sz := 2, len := fun _ => rfl, one := fun x u hu => by simp at hu; rcases hu with rfl | rfl <;> rfl, pos := by omega }
theorem infoSub : (Try.prog.info? 46).map (fun i => (i.zero, i.size, i.bytes)) = some (some (.agg #[.string ⟨#[]⟩, .int .u64 0]), subC.sz, 24) := by kernel_rfl
/-- The round's box, and its row. -/
structure DI (w : World) (B qb : Nat) (A : Option Addr) (c : Nat) (q : CP) : Prop where
  box : w.heap[qb]? = some (.cells #[.slice A q.l.length c, .string (str8 q.last)] 28 (0, 0))
  row : OwnG subC 46 w B (.slice A q.l.length c) q.l
  ne : ∀ g, (Value.slice A q.l.length c).ownBlock = some g → g ≠ qb
  hB : B ≤ qb
/-- Which blocks are the round's. -/
def FD (qb : Nat) (A : Option Addr) (n c : Nat) (k : Nat) : Prop := k = qb ∨ (Value.slice A n c).ownBlock = some k
section
variable {w w' : World} {B qb : Nat} {A : Option Addr} {c : Nat} {q : CP}
theorem DI.lt (h : DI w B qb A c q) : qb < w.heap.size := (Array.getElem?_eq_some_iff.1 h.box).1
theorem DI.c0 (h : DI w B qb A c q) : w.cell? ⟨qb, 0, none⟩ = some (.slice A q.l.length c) := cell_of_row w qb 0 _ 28 (0, 0) h.box
theorem DI.c1 (h : DI w B qb A c q) : w.cell? ⟨qb, 1, none⟩ = some (.string (str8 q.last)) := cell_of_row w qb 1 _ 28 (0, 0) h.box
theorem DI.fr (h : DI w B qb A c q) (i : Nat) : w.frozen? ⟨qb, i, none⟩ = false := frozen_of_row w qb i _ 28 h.box
theorem DI.foot (h : DI w B qb A c q) : ∀ k, FD qb A q.l.length c k → B ≤ k ∧ k < w.heap.size := fun k hk => by
  rcases hk with rfl | hk
  · exact ⟨h.hB, h.lt⟩
  · exact h.row.block k hk
theorem DI.keep (h : DI w B qb A c q) (hk : ∀ k, FD qb A q.l.length c k → w'.heap[k]? = w.heap[k]?) : DI w' B qb A c q :=
  ⟨(hk qb (.inl rfl)).trans h.box, h.row.keep fun g hg => hk g (.inr hg), h.ne, h.hB⟩
theorem DI.below (h : DI w B qb A c q) (hb : Below w.heap.size w w') : DI w' B qb A c q := h.keep fun k hk => hb.block k (h.foot k hk).2
theorem DI.at_ (h : DI w B qb A c q) {j : Nat} (hj : j < q.l.length) : ∃ b, A = some ⟨b, 0, none⟩ ∧ b ≠ qb ∧ w.cell? ⟨b, j * 2, none⟩ = some (.string (str8 q.l[j].1)) ∧ w.cell? ⟨b, j * 2 + 1, none⟩ = some (.int .u64 (q.l[j].2 : Nat)) ∧ ∀ i, w.frozen? ⟨b, i, none⟩ = false := by
  obtain ⟨b, rfl, _, _, hf, hc⟩ := h.row.at_ (by omega)
  exact ⟨b, rfl, h.ne b rfl, hc j hj 0 (by decide), hc j hj 1 (by decide), hf⟩
end
/-- What only the document's rounds may change. -/
def mineQ (o : Obj) : Prop := ∃ c ty fr, o = .cells c ty fr ∧ (ty = 28 ∨ ty = 46)
theorem not_mineQ {c : Array Value} {ty : TypeId} {fr : Nat × Nat} (h1 : ty ≠ 28) (h2 : ty ≠ 46) : ¬ mineQ (.cells c ty fr) := by
  rintro ⟨c', ty', fr', e, h⟩
  injection e with _ e _
  subst e
  rcases h with h | h
  · exact h1 h
  · exact h2 h
theorem mineP_notQ {o : Obj} (h : mineP o) : ¬ mineQ o := by
  rintro ⟨c, ty, fr, rfl, h2⟩
  rcases h with ⟨c', ty', fr', e, h1⟩ | ⟨es, c', e⟩
  · injection e with _ e _
    subst e
    rcases h1 with rfl | rfl | rfl <;> rcases h2 with h2 | h2 <;> cases h2
  · cases e
theorem mineQ_notP {o : Obj} (h : mineQ o) : ¬ mineP o := fun h2 => mineP_notQ h2 h
theorem mineQ_box (c : Array Value) (fr : Nat × Nat) : mineQ (.cells c 28 fr) := ⟨_, _, _, rfl, .inl rfl⟩
theorem mineQ_row (c : Array Value) (fr : Nat × Nat) : mineQ (.cells c 46 fr) := ⟨_, _, _, rfl, .inr rfl⟩
section
variable {mine : Obj → Prop} {w w' w1 : World}
theorem KeptBy.setCell {k i : Nat} {v : Value} {o : Obj} (hk : w.heap[k]? = some o) (hm : mine o) : KeptBy mine w (w.setCell ⟨k, i, none⟩ v) :=
  ⟨by simp, fun j o' hj ho => (Below.heap_setCell _ _ _ _ (by show j ≠ k; rintro rfl; rw [hk] at hj; cases hj; exact ho hm)).trans hj⟩
theorem OwnG.rowAt {α : Type} {C : Code α} {e : TypeId} {base g : Nat} {v : Value} {l : List α} (h : OwnG C e w base v l) (hg : v.ownBlock = some g) : ∃ c, w.heap[g]? = some (.cells c e (0, 0)) := by
  rcases h.2 with ⟨rfl, _⟩ | ⟨g', cap, cur, rfl, _, hb, _⟩
  · cases hg
  · cases hg
    exact ⟨_, hb⟩
theorem KeptBy.grown {α : Type} {C : Code α} {e : TypeId} {base : Nat} {v : Value} {l : List α} (h : OwnG C e w base v l) (hm : ∀ c, mine (.cells c e (0, 0))) (hg : w.grownBy w' v.ownBlock) : KeptBy mine w w' :=
  ⟨hg.size, fun j o' hj ho => (hg.block j (Array.getElem?_eq_some_iff.1 hj).1 (fun e2 => by
    obtain ⟨c, hc⟩ := h.rowAt e2.symm
    rw [hj] at hc
    cases hc
    exact ho (hm _))).trans hj⟩
theorem belowD_set {B k i : Nat} {v : Value} (h : B ≤ k) : Below B w (w.setCell ⟨k, i, none⟩ v) :=
  ⟨rfl, rfl, rfl, by simp, fun j hj => Below.heap_setCell _ _ _ _ (by show j ≠ k; omega)⟩
end
/-- A round. -/
def DW (w : World) (B qb : Nat) (q : CP) : Prop := ∃ A c, DI w B qb A c q
section
variable {w w' : World} {B qb : Nat} {q : CP}
theorem DW.below (h : DW w B qb q) (hb : Below w.heap.size w w') : DW w' B qb q := by
  obtain ⟨A, c, h1⟩ := h
  exact ⟨A, c, h1.below hb⟩
theorem DW.hB (h : DW w B qb q) : B ≤ w.heap.size := by
  obtain ⟨A, c, h1⟩ := h
  have := h1.lt
  have := h1.hB
  omega
end
/-- What a call leaves of a round that is q' then. -/
structure LeftD (w : World) (B qb : Nat) (q' : CP) (w' : World) : Prop where
  one : DW w' B qb q'
  kept : KeptBy mineQ w w'
  bel : Below B w w'
section
variable {w w1 w' : World} {B qb : Nat} {q q1 : CP}
theorem LeftD.of_below (h : DW w B qb q) (hb : Below w.heap.size w w') : LeftD w B qb q w' := ⟨h.below hb, KeptBy.of_below hb, hb.mono h.hB⟩
theorem LeftD.same (h : DW w B qb q) : LeftD w B qb q w := LeftD.of_below h (Below.refl _ _)
theorem LeftD.trans (h : LeftD w B qb q w1) (h2 : LeftD w1 B qb q1 w') : LeftD w B qb q1 w' := ⟨h2.one, h.kept.trans h2.kept, h.bel.trans h2.bel⟩
theorem LeftD.drew (h : LeftD w B qb q w') : LeftD w B qb q w'.drew := by
  obtain ⟨⟨A, c, h1⟩, h2, h3⟩ := h
  exact ⟨⟨A, c, h1.keep fun _ _ => rfl⟩, ⟨h2.1, h2.2⟩, h3.drew⟩
theorem LeftD.after (hb : Below w.heap.size w w1) (hB : B ≤ w.heap.size) (h2 : LeftD w1 B qb q1 w') : LeftD w B qb q1 w' := ⟨h2.one, (KeptBy.of_below hb).trans h2.kept, (hb.mono hB).trans h2.bel⟩
end
/-- What a call that answers an error leaves. -/
def AnsD (w : World) (B qb : Nat) (r : Nat × CP) (e : Ending) (w' : World) : Prop := e = .returned (.int .i64 r.1) ∧ LeftD w B qb r.2 w'
section
variable {w w' : World} {B qb : Nat} {q : CP} {A : Option Addr} {c : Nat}
/-- A credit is stored. -/
theorem DI.cred (h : DI w B qb A c q) {i b : Nat} (hi : i < q.l.length) (hA : A = some ⟨b, 0, none⟩) (t : Tg) (ht : q.l[i].1 = t) (n : Nat) : DI (w.setCell ⟨b, i * 2 + 1, none⟩ (.int .u64 n)) B qb A c { q with l := q.l.set i (t, n) } := by
  subst hA
  have hne := h.ne b rfl
  refine ⟨?_, ?_, ?_, h.hB⟩
  · rw [Below.heap_setCell _ _ _ _ (by show qb ≠ b; exact fun e => hne e.symm)]
    show _ = some (Obj.cells #[Value.slice _ (q.l.set i (t, n)).length c, Value.string (str8 q.last)] _ (0, 0))
    rw [List.length_set]
    exact h.box
  · have := OwnG.set_ h.row i 1 hi (by decide) (t, n) (.int .u64 n) (by rw [← ht]; rfl)
    show OwnG _ _ _ _ (.slice _ (q.l.set i (t, n)).length c) (q.l.set i (t, n))
    rw [List.length_set]
    exact this
  · show ∀ g, (Value.slice _ (q.l.set i (t, n)).length c).ownBlock = some g → g ≠ qb
    rw [List.length_set]
    exact h.ne
theorem LeftD.cred (h : DI w B qb A c q) {i b : Nat} (hi : i < q.l.length) (hA : A = some ⟨b, 0, none⟩) (t : Tg) (ht : q.l[i].1 = t) (n : Nat) : LeftD w B qb { q with l := q.l.set i (t, n) } (w.setCell ⟨b, i * 2 + 1, none⟩ (.int .u64 n)) := by
  have h1 := h.cred hi hA t ht n
  subst hA
  obtain ⟨cs, hc⟩ := h.row.rowAt (g := b) rfl
  exact ⟨⟨_, _, h1⟩, KeptBy.setCell hc (mineQ_row _ _), belowD_set (h.row.block b rfl).1⟩
/-- The last served one is stored. -/
theorem DI.lastS (h : DI w B qb A c q) (t : Tg) : DI (w.setCell ⟨qb, 1, none⟩ (.string (str8 t))) B qb A c { q with last := t } :=
  ⟨heap_setCell_same w qb 1 _ 28 _ h.box, h.row.keep fun g hg => Below.heap_setCell _ _ _ _ (by show g ≠ qb; exact h.ne g hg), h.ne, h.hB⟩
theorem LeftD.lastS (h : DI w B qb A c q) (t : Tg) : LeftD w B qb { q with last := t } (w.setCell ⟨qb, 1, none⟩ (.string (str8 t))) :=
  ⟨⟨A, c, h.lastS t⟩, KeptBy.setCell h.box (mineQ_box _ _), belowD_set h.hB⟩
/-- Another row of the call's own is stored. -/
theorem DI.rowS {A2 : Option Addr} {n2 c2 : Nat} {l2 : List (Tg × Nat)} {v0 : Value} {la : Tg} (hbox : w.heap[qb]? = some (.cells #[v0, .string (str8 la)] 28 (0, 0))) (hB : B ≤ qb) (ho : OwnG subC 46 w B (.slice A2 n2 c2) l2) (hn : n2 = l2.length) : DI (w.setCell ⟨qb, 0, none⟩ (.slice A2 n2 c2)) B qb A2 c2 ⟨l2, la⟩ := by
  subst hn
  have hne : ∀ g, (Value.slice A2 l2.length c2).ownBlock = some g → g ≠ qb := fun g hg => by
    rintro rfl
    obtain ⟨cs, hc⟩ := ho.rowAt hg
    rw [hbox] at hc
    injection hc with hc
    injection hc with _ hc _
    cases hc
  exact ⟨heap_setCell_same w qb 0 _ 28 _ hbox, ho.keep fun g hg => Below.heap_setCell _ _ _ _ (by show g ≠ qb; exact hne g hg), hne, hB⟩
theorem LeftD.rowS {w0 : World} {A2 : Option Addr} {n2 c2 : Nat} {l2 : List (Tg × Nat)} {v0 : Value} {la : Tg} (hk : KeptBy mineQ w0 w) (hb : Below B w0 w) (hbox : w.heap[qb]? = some (.cells #[v0, .string (str8 la)] 28 (0, 0))) (hB : B ≤ qb) (ho : OwnG subC 46 w B (.slice A2 n2 c2) l2) (hn : n2 = l2.length) : LeftD w0 B qb ⟨l2, la⟩ (w.setCell ⟨qb, 0, none⟩ (.slice A2 n2 c2)) :=
  ⟨⟨_, _, DI.rowS hbox hB ho hn⟩, hk.trans (KeptBy.setCell hbox (mineQ_box _ _)), hb.trans (belowD_set hB)⟩
theorem LeftD.grew {w0 : World} {A2 : Option Addr} {n2 c2 : Nat} {l2 : List (Tg × Nat)} (h : LeftD w0 B qb q w) (hd : DI w B qb A c q) (hg : w.grownBy w' (Value.slice A q.l.length c).ownBlock) (ho : OwnG subC 46 w' B (.slice A2 n2 c2) l2) (hn : n2 = l2.length) : LeftD w0 B qb ⟨l2, q.last⟩ (w'.setCell ⟨qb, 0, none⟩ (.slice A2 n2 c2)) :=
  LeftD.rowS (h.kept.trans (KeptBy.grown hd.row (fun c => mineQ_row _ _) hg)) (h.bel.trans ((Below.refl _ _).grown hg (by have := hd.lt; have := hd.hB; omega) fun k e => (hd.row.block k e).1)) ((hg.block qb hd.lt fun e => hd.ne qb e.symm rfl).trans hd.box) hd.hB ho hn
/-- The box stays where the row grows. -/
theorem DI.boxOf (h : DI w B qb A c q) (hg : w.grownBy w' (Value.slice A q.l.length c).ownBlock) : w'.heap[qb]? = w.heap[qb]? := hg.block qb h.lt fun e => h.ne qb e.symm rfl
end

end Go.Proofs.Ytknfiiacalfelaa
