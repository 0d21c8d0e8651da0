/-
  A round of the program and one of the document's side by side.
  Conditions: none but sizes.
-/
import Derived.Test.YtknfiiacalfelaaCdO
import Derived.Deep.RegionHeld3
import Derived.Deep.CutRange
import Derived.Deep.CutBlock
import Derived.Deep.DeepCutAuto
namespace Go.Proofs.Ytknfiiacalfelaa
open Go.RowKit Go.Shelf
set_option linter.unusedVariables false
set_option linter.unusedSimpArgs false
set_option maxRecDepth 100000

def mineB (o : Obj) : Prop := mineP o ∨ mineQ o
theorem not_mineB {c : Array Value} {ty : TypeId} {fr : Nat × Nat} (h1 : ty ≠ 55) (h2 : ty ≠ 77) (h3 : ty ≠ 64) (h4 : ty ≠ 28) (h5 : ty ≠ 46) : ¬ mineB (.cells c ty fr) := by
  rintro (h | h)
  · exact not_mineP h1 h2 h3 h
  · exact not_mineQ h4 h5 h
theorem KeptBy.more {mine mine' : Obj → Prop} {w w' : World} (h : KeptBy mine w w') (hm : ∀ o, mine o → mine' o) : KeptBy mine' w w' := ⟨h.1, fun k o hk ho => h.2 k o hk fun h => ho (hm o h)⟩
section
variable {w0 W w w' : World} {B pb qb : Nat} {p p' q q' : CP} {r : Ending} {f : FuncId} {args : Array Value}
theorem DW.keepP (h : DW w B qb q) (hk : KeptBy mineP w w') : DW w' B qb q := by
  obtain ⟨A, c, h1⟩ := h
  refine ⟨A, c, h1.keep fun k hkF => ?_⟩
  rcases hkF with rfl | hg
  · exact hk.cells h1.box (mineQ_notP (mineQ_box _ _))
  · obtain ⟨cs, hc⟩ := h1.row.rowAt hg
    exact hk.cells hc (mineQ_notP (mineQ_row _ _))
theorem UnoC.keepQ (h : UnoC w0 pb p w) (hk : KeptBy mineQ w w') (hb : Below w0.heap.size w w') : UnoC w0 pb p w' := by
  obtain ⟨F, h1⟩ := h.one
  refine ⟨h.bel.trans hb, F, h1.keep fun k hkF => ?_⟩
  obtain ⟨o, h2, h3⟩ := h1.mine hkF
  exact (hk.2 k o h2 (mineP_notQ h3)).trans h2.symm
/-- Both rounds, and all others as they were in W. -/
structure AtC (w0 : World) (pb qb : Nat) (p q : CP) (W w : World) : Prop where
  uno : UnoC w0 pb p w
  okq : q.ok
  doc : DW w w0.heap.size qb q
  kept : KeptBy mineB W w
theorem AtC.step (h : AtC w0 pb qb p q W w) (hb : Below w.heap.size w w') : AtC w0 pb qb p q W w' := ⟨h.uno.step hb, h.okq, h.doc.below hb, h.kept.trans (KeptBy.of_below hb)⟩
theorem AtC.from (h : AtC w0 pb qb p q W w) : AtC w0 pb qb p q w w := ⟨h.uno, h.okq, h.doc, KeptBy.refl _ _⟩
theorem AtC.callP (h : AtC w0 pb qb p q W w) (hc : Calls Try.prog f args w fun e w' => e = r ∧ UnoC w0 pb p' w' ∧ KeptBy mineP w w') : Calls Try.prog f args w fun e w' => e = r ∧ AtC w0 pb qb p' q W w' := hc.mono fun e w' hx =>
  ⟨hx.1, hx.2.1, h.okq, h.doc.keepP hx.2.2, h.kept.trans (hx.2.2.more fun o => .inl)⟩
theorem AtC.callQ (h : AtC w0 pb qb p q W w) (ho : q'.ok) (hc : Calls Try.prog f args w fun e w' => e = r ∧ LeftD w w0.heap.size qb q' w') : Calls Try.prog f args w fun e w' => e = r ∧ AtC w0 pb qb p q' W w' := hc.mono fun e w' hx =>
  ⟨hx.1, h.uno.keepQ hx.2.kept hx.2.bel, ho, hx.2.one, h.kept.trans (hx.2.kept.more fun o => .inr)⟩
end
theorem atc_new {w w1 : World} {pb : Nat} (h : UnoC w pb ⟨[], []⟩ w1) : AtC w pb w1.heap.size ⟨[], []⟩ ⟨[], []⟩ (w1.alloc (.cells #[.slice none 0 0, .string ⟨#[]⟩] 28)) (w1.alloc (.cells #[.slice none 0 0, .string ⟨#[]⟩] 28)) := by
  have hb : Below w1.heap.size w1 (w1.alloc (.cells #[.slice none 0 0, .string ⟨#[]⟩] 28)) := (Below.refl _ _).alloc (Nat.le_refl _) _
  exact ⟨h.step hb, h.ok, ⟨none, 0, heap_alloc_new w1 _, OwnG.nil_ _ _ _ _, fun g hg => (by cases hg), h.bel.size⟩, KeptBy.refl _ _⟩
theorem callc_cell {w : World} {d o : Nat} {l : List CallC} (h : ∀ j (h : j < l.length) k, k < callC.sz → w.cell? ⟨d, o + (j * callC.sz + k), none⟩ = (callC.enc l[j])[k]?) {k : Nat} (hk : k < l.length) :
    w.cell? ⟨d, o + k * 4, none⟩ = some (.int .u8 (l[k].what : Nat)) ∧ w.cell? ⟨d, o + k * 4 + 1, none⟩ = some (.string (str8 l[k].tag)) ∧ w.cell? ⟨d, o + k * 4 + 2, none⟩ = some (.int .u32 (l[k].n : Nat)) ∧ w.cell? ⟨d, o + k * 4 + 3, none⟩ = some (.slice l[k].Ak l[k].may.length l[k].ck) :=
  ⟨h k hk 0 (by decide), h k hk 1 (by decide), h k hk 2 (by decide), h k hk 3 (by decide)⟩

/-- What the switch does. -/
def stepC (x : CallC) (q : CP) : CP :=
  if x.what % 6 = 0 then (q.add x.tag).2 else if x.what % 6 = 1 then (q.remove x.tag).2 else if x.what % 6 = 4 then (q.stop x.tag).2 else if x.what % 6 = 5 then (q.turn x.may).2 else (q.give x.tag x.n).2
theorem chgX_len (q : CP) (t : Tg) (f : Nat → Nat) : (q.chg t f).2.l.length = q.l.length := by
  unfold CP.chg
  split
  · exact updA_length f
  · rfl
theorem stepC_len (x : CallC) (q : CP) : (stepC x q).l.length ≤ q.l.length + 1 := by
  unfold stepC
  split
  · unfold CP.add
    split
    · split
      · exact Nat.le_succ _
      · show (q.l ++ [_]).length ≤ _
        simp
    · exact Nat.le_succ _
  split
  · unfold CP.remove
    split
    · exact Nat.le_succ_of_le (List.length_filter_le _ _)
    · exact Nat.le_succ _
  split
  · exact Nat.le_succ_of_le (Nat.le_of_eq (chgX_len _ _ _))
  split
  · unfold CP.turn
    split
    · exact Nat.le_succ _
    · exact Nat.le_succ_of_le (Nat.le_of_eq (updA_length _))
  · exact Nat.le_succ_of_le (Nat.le_of_eq (chgX_len _ _ _))
theorem credit_at {q : CP} (ho : q.ok) {k : Nat} (hk : k < q.l.length) : q.credit q.l[k].1 = (q.l[k].2, 0) := by
  unfold CP.credit
  rw [getA_of_mem ho.nod (show (q.l[k].1, q.l[k].2) ∈ q.l from List.getElem_mem hk)]
theorem credit_idx (q : CP) (t : Tg) : ((q.credit t).2 = 7 ∧ idxA t q.l = none) ∨ ((q.credit t).2 = 0 ∧ ∃ i, idxA t q.l = some i) := by
  have h := isSome_of_idx (t := t) (l := q.l)
  unfold CP.credit
  cases hg : getA t q.l with
  | none =>
    rw [hg] at h
    exact .inl ⟨rfl, by simpa using h⟩
  | some c =>
    rw [hg] at h
    exact .inr ⟨rfl, Option.isSome_iff_exists.1 h⟩

end Go.Proofs.Ytknfiiacalfelaa
