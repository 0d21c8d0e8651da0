/-
  Texts, together: EnI, EnJ, EnK, EnL, EnN, EnO, EnQ.
  Conditions: none but sizes.
-/
import Derived.Test.YtpmafabphlejeaaGreatEnPZ
import Derived.Test.YtpmafabphlejeaaGreatPrIZ
import Derived.Test.YtpmafabphlejeaaGreatXiOZ
import Derived.Test.YtpmafabphlejeaaGreatEnFZ
/-
  Rows of puts that grow; what an entry's reader reads: a name, properties, a branch's name.
  Conditions: none but sizes.
-/
namespace Go.Proofs.YtpmafabphlejeaaGreat
open Go.RowKit
set_option linter.unusedVariables false
set_option linter.unusedSimpArgs false
set_option maxRecDepth 100000

theorem infoPut : (Tryz.prog.info? 35).map (fun i => (i.zero, i.size, i.bytes)) = some (some (.agg #[.string ⟨#[]⟩, .int .u64 0, .string ⟨#[]⟩, .bool false, .bool false, .string ⟨#[]⟩, .int .u8 0, .int .u64 0, .string ⟨#[]⟩, .slice none 0 0, .slice none 0 0, .string ⟨#[]⟩]), putC.sz, 160) := by kernel_rfl
theorem infoRef : (Tryz.prog.info? 37).map (fun i => (i.zero, i.size, i.bytes)) = some (some (.agg #[.string ⟨#[]⟩, .int .u64 0]), refC.sz, 24) := by kernel_rfl

/-- A row of puts of the call's own. -/
structure PRow (base : Nat) (v : Value) (cs : List PutC) (w : World) : Prop where
  own : OwnG putC 35 w base v cs
  sh : ∀ j (h : j < cs.length), PutAt (pm (Free base v (.slice none 0 0)) w) cs[j]
section
variable {base : Nat} {v v' : Value} {cs : List PutC} {w w4 w5 w6 w' : World} {c : PutC}
theorem PRow.nil (base : Nat) (w : World) : PRow base (.slice none 0 0) [] w := ⟨OwnG.nil_ _ _ _ _, fun j h => absurd h (by simp)⟩
theorem PRow.step (h : PRow base v cs w) (hb : Below w.heap.size w w') : PRow base v cs w' :=
  ⟨h.own.keep fun i hi => hb.block i (h.own.block i hi).2, fun j hj => (h.sh j hj).sub (pm_pm hb.size fun k hk hkw => ⟨hk, hb.block k hkw⟩)⟩
theorem PRow.grown {g : Nat} (h : PRow base v cs w) (hg : w.grownBy w' (some g)) (hb : g < base) : PRow base v cs w' :=
  ⟨h.own.keep fun i hi => hg.block i (h.own.block i hi).2 (fun e => by have := Option.some.inj e; have := (h.own.block i hi).1; omega),
    fun j hj => (h.sh j hj).sub (pm_pm hg.size fun k hk hkw => ⟨hk, hg.block k hkw (fun e => by have := Option.some.inj e; have := hk.1; omega)⟩)⟩
theorem PRow.push {g : Nat} (h : PRow base v cs w) (hB : base ≤ w.heap.size) (hg : w.grownBy w4 (some g)) (hgb : g < base) (hc : PutAt (lowm w.heap.size w4) c) (hb5 : Below w4.heap.size w4 w5) (ho : OwnG putC 35 w6 base v' (cs ++ [c]))
    (hg6 : w5.grownBy w6 v.ownBlock) (hv : v'.ownBlock = v.ownBlock ∨ v'.ownBlock = some w5.heap.size) : PRow base v' (cs ++ [c]) w6 := by
  have h4 := h.grown hg hgb
  have hs1 := hg.size
  have hs2 := hb5.size
  refine ⟨ho, fun j hj => ?_⟩
  by_cases hjc : j < cs.length
  · rw [List.getElem_append_left hjc]
    refine (h4.sh j hjc).sub (pm_pm (Nat.le_trans hb5.size hg6.size) fun k hk hkw => ⟨⟨hk.1, ?_, hk.2.2⟩, ?_⟩)
    · rcases hv with e | e
      · rw [e]; exact hk.2.1
      · rw [e]; intro e2; have := Option.some.inj e2; omega
    · exact (hg6.block k (by omega) (fun e => hk.2.1 e.symm)).trans (hb5.block k hkw)
  · have hj0 : j = cs.length := by rw [List.length_append, List.length_singleton] at hj; omega
    subst hj0
    rw [List.getElem_append_right (Nat.le_refl _)]
    simp only [Nat.sub_self, List.getElem_cons_zero]
    refine hc.sub (low_pm (Nat.le_trans hb5.size hg6.size) fun k hk hkw => ⟨⟨by omega, ?_, by simp [Value.ownBlock]⟩, ?_⟩)
    · rcases hv with e | e
      · rw [e]; intro e2; have := (h.own.block k e2).2; omega
      · rw [e]; intro e2; have := Option.some.inj e2; omega
    · exact (hg6.block k (by omega) (fun e => by have := (h.own.block k e.symm).2; omega)).trans (hb5.block k hkw)
theorem PRow.row (h : PRow base v cs w) (hl : cs.length ≤ 1099511627776) : ∃ A n, v = .slice A cs.length n ∧ RowP (lowm base w) A n cs := by
  obtain ⟨A, n, hv, _⟩ := h.own.form
  refine ⟨A, n, hv, ?_, fun j hj => (h.sh j hj).sub (pm_low fun k hk => hk.1), hl⟩
  obtain ⟨d, _, hd⟩ := (h.own.low (Nat.le_refl base)).shows
  rw [hv] at hd
  exact ⟨d, hd⟩
end

theorem PGetSaid.got {l : List UInt8} {w w' : World} {e : Ending} (h : PGetSaid l w e w') : Below w.heap.size w w' ∧ ∃ (x : Cell5) (E : Int), e = .returned (.tuple #[propV (gotPr l) (.int .u8 x.k) (.int .u64 x.n) (.string x.s) (.slice x.a3 x.n3 x.c3) (.slice x.a4 x.n4 x.c4), .int .i64 E]) ∧ ShowsP (lowm w.heap.size w') (gotPr l) (.int .u8 x.k) (.int .u64 x.n) (.string x.s) (.slice x.a3 x.n3 x.c3) (.slice x.a4 x.n4 x.c4) := by
  unfold PGetSaid at h
  unfold gotPr
  cases hg : getPr l with
  | none =>
    rw [hg] at h
    obtain ⟨hb, rfl⟩ := h
    exact ⟨hb, ⟨0, 0, ⟨#[]⟩, none, 0, 0, none, 0, 0⟩, 90, rfl, by decide, by decide, zero_shows _⟩
  | some p =>
    rw [hg] at h
    obtain ⟨hb, v0, v1, v2, v3, v4, rfl, hs⟩ := h
    obtain ⟨x, hx⟩ := hs.app.cell5
    simp only [Cell5.vs, List.cons.injEq, and_true] at hx
    obtain ⟨rfl, rfl, rfl, rfl, rfl⟩ := hx
    exact ⟨hb, x, 0, rfl, hs⟩

end Go.Proofs.YtpmafabphlejeaaGreat
/-
  The contracts of the reader's props and xid.
  Conditions: none but sizes.
-/
namespace Go.Proofs.YtpmafabphlejeaaGreat
open Go.RowKit
set_option linter.unusedVariables false
set_option linter.unusedSimpArgs false
set_option maxRecDepth 100000

theorem textS_le2 (q m : Int) (s : St) : (textS q m s).1.length ≤ lenS s := textS_fst_le _ _ _
theorem grown_set9 {w : World} {r : Option Nat} {w' : World} {b : Nat} (h : w.grownBy w' r) (hb : w.heap.size ≤ b) (x0 x1 x2 x3 x4 x5 x6 x7 x8 : Value) : w.grownBy (set9 w' b x0 x1 x2 x3 x4 x5 x6 x7 x8) r := by
  have hB : Below w.heap.size w' (set9 w' b x0 x1 x2 x3 x4 x5 x6 x7 x8) := set9_below ⟨rfl, rfl, rfl, Nat.le_refl _, fun _ _ => rfl⟩ hb _ _ _ _ _ _ _ _ _
  exact ⟨hB.os.trans h.os, hB.tape.trans h.tape, hB.output.trans h.output, Nat.le_trans h.size hB.size, fun k hk hr => (hB.block k hk).trans (h.block k hk hr)⟩
theorem sub_set9 (w : World) (b : Nat) {B : Nat} (hB : b < B) (x0 x1 x2 x3 x4 x5 x6 x7 x8 : Value) : Sub (lowm B w) (lowm B (set9 w b x0 x1 x2 x3 x4 x5 x6 x7 x8)) := by
  unfold set9
  exact (low_set hB 0 x0).trans ((low_set hB 1 x1).trans ((low_set hB 2 x2).trans ((low_set hB 3 x3).trans ((low_set hB 4 x4).trans ((low_set hB 5 x5).trans ((low_set hB 6 x6).trans ((low_set hB 7 x7).trans (low_set hB 8 x8))))))))

end Go.Proofs.YtpmafabphlejeaaGreat
/-
  The contract of the reader's xid.
  Conditions: none but sizes.
-/
namespace Go.Proofs.YtpmafabphlejeaaGreat
open Go.RowKit
set_option linter.unusedVariables false
set_option linter.unusedSimpArgs false
set_option maxRecDepth 100000

theorem xgot_le (b : List UInt8) : (xgot b).2 ≤ b.length := by
  unfold xgot
  split
  · simp
  · rename_i f g h c hg
    rw [← getD_take] at hg
    have := (gx_some _ f g h c hg).2.2.2.2
    rw [List.length_take] at this
    split
    · simp only []; omega
    · simp
theorem take_left (s : St) : (takeS (lenS s) s).1 = leftB s := by
  cases s with
  | none => rfl
  | some l => show (takeS (l.length : Nat) (some l)).1 = l; simp [takeS]
theorem Frm2.grownG {b g : Nat} {a w w' : World} (h : Frm2 b g a w) (hg : w.grownBy w' (some g)) : Frm2 b g a w' := h.trans (Frm2.of_grown hg)
theorem Frm2.setb {b g : Nat} {a w : World} (h : Frm2 b g a w) (i : Nat) (u : Value) : Frm2 b g a (w.setCell ⟨b, i, none⟩ u) :=
  ⟨h.os, h.tape, h.output, by simpa using h.size, fun k hk h1 h2 => (Below.heap_setCell _ _ _ _ (by show k ≠ b; exact h1)).trans (h.block k hk h1 h2)⟩

end Go.Proofs.YtpmafabphlejeaaGreat
/-
  What decodes a put and a name: the two closures.
  Conditions: none but sizes.
-/
namespace Go.Proofs.YtpmafabphlejeaaGreat
open Go.RowKit
set_option linter.unusedVariables false
set_option linter.unusedSimpArgs false
set_option maxRecDepth 100000

/-- Stores of one cell after the other. -/
def setN (w : World) (b : Nat) : Nat → List Value → World
  | _, [] => w
  | i, v :: vs => setN (w.setCell ⟨b, i, none⟩ v) b (i + 1) vs
theorem setN_row {b : Nat} {t : TypeId} : ∀ (vs : List Value) (i : Nat) (w : World) (cs : Array Value), w.heap[b]? = some (.cells cs t (0, 0)) → (setN w b i vs).heap[b]? = some (.cells ((vs.foldl (fun (p : Array Value × Nat) v => (p.1.setIfInBounds p.2 v, p.2 + 1)) (cs, i)).1) t (0, 0))
  | [], i, w, cs, h => h
  | v :: vs, i, w, cs, h => setN_row vs (i + 1) _ _ (heap_setCell_same w b i cs t v h)
theorem setN_below {B b : Nat} (hb : B ≤ b) : ∀ (vs : List Value) (i : Nat) (w0 w : World), Below B w0 w → Below B w0 (setN w b i vs)
  | [], i, w0, w, h => h
  | v :: vs, i, w0, w, h => setN_below hb vs (i + 1) w0 _ (below_set h hb v)
theorem setN_sub {b B : Nat} (hB : b < B) : ∀ (vs : List Value) (i : Nat) (w : World), Sub (lowm B w) (lowm B (setN w b i vs))
  | [], i, w => ⟨Nat.le_refl _, fun _ _ _ h => h⟩
  | v :: vs, i, w => (low_set hB i v).trans (setN_sub hB vs (i + 1) _)
theorem setN_frm {b g p : Nat} {a : World} (hp : a.heap.size ≤ p) : ∀ (vs : List Value) (i : Nat) (w : World), Frm2 b g a w → Frm2 b g a (setN w p i vs)
  | [], i, w, h => h
  | v :: vs, i, w, h => setN_frm hp vs (i + 1) _ (h.set hp i v)
theorem setN_other {b k : Nat} (hk : k ≠ b) : ∀ (vs : List Value) (i : Nat) (w : World), (setN w b i vs).heap[k]? = w.heap[k]?
  | [], i, w => rfl
  | v :: vs, i, w => (setN_other hk vs (i + 1) _).trans (Below.heap_setCell _ _ _ _ (by show k ≠ b; exact hk))
theorem setN_grown {w w' : World} {r : Option Nat} {b : Nat} (h : w.grownBy w' r) (hb : w.heap.size ≤ b) (i : Nat) (vs : List Value) : w.grownBy (setN w' b i vs) r := by
  have hB : Below w.heap.size w' (setN w' b i vs) := setN_below hb vs i w' w' ⟨rfl, rfl, rfl, Nat.le_refl _, fun _ _ => rfl⟩
  exact ⟨hB.os.trans h.os, hB.tape.trans h.tape, hB.output.trans h.output, Nat.le_trans h.size hB.size, fun k hk hr => (hB.block k hk).trans (h.block k hk hr)⟩

theorem setN_cell {b a : Nat} {u : Value} (ha : a ≠ b) : ∀ (vs : List Value) (i : Nat) (w : World), w.cell? ⟨a, 0, none⟩ = some u → (setN w b i vs).cell? ⟨a, 0, none⟩ = some u
  | [], i, w, h => h
  | v :: vs, i, w, h => setN_cell ha vs (i + 1) _ (keep1 h ha i v)
section
variable {q b g d : Nat} {s s' : St} {w w' : World}
end
theorem lenS_text (q m : Int) (s : St) : lenS (textS q m s).2 ≤ lenS s := textS_lenS _ _ _
theorem lenS_num (q : Int) (s : St) : lenS (numS q s).2 ≤ lenS s := numS_lenS _ _

end Go.Proofs.YtpmafabphlejeaaGreat
/-
  What decodes a put.
  Conditions: none but sizes.
-/
namespace Go.Proofs.YtpmafabphlejeaaGreat
open Go.RowKit
set_option linter.unusedVariables false
set_option linter.unusedSimpArgs false
set_option maxRecDepth 100000

abbrev zPut : Obj := Obj.cells #[.string ⟨#[]⟩, .int .u64 0, .string ⟨#[]⟩, .bool false, .bool false, .string ⟨#[]⟩, .int .u8 0, .int .u64 0, .string ⟨#[]⟩, .slice none 0 0, .slice none 0 0, .string ⟨#[]⟩] 35
/-- The stores of twelve cells. -/
def set12 (w : World) (b : Nat) (x0 x1 x2 x3 x4 x5 x6 x7 x8 x9 x10 x11 : Value) : World := (((((((((((w.setCell ⟨b, 0, none⟩ x0).setCell ⟨b, 1, none⟩ x1).setCell ⟨b, 2, none⟩ x2).setCell ⟨b, 3, none⟩ x3).setCell ⟨b, 4, none⟩ x4).setCell ⟨b, 5, none⟩ x5).setCell ⟨b, 6, none⟩ x6).setCell ⟨b, 7, none⟩ x7).setCell ⟨b, 8, none⟩ x8).setCell ⟨b, 9, none⟩ x9).setCell ⟨b, 10, none⟩ x10).setCell ⟨b, 11, none⟩ x11
theorem set12_eq (w : World) (b : Nat) (x0 x1 x2 x3 x4 x5 x6 x7 x8 x9 x10 x11 : Value) : set12 w b x0 x1 x2 x3 x4 x5 x6 x7 x8 x9 x10 x11 = setN w b 0 [x0, x1, x2, x3, x4, x5, x6, x7, x8, x9, x10, x11] := rfl
theorem put_box {w : World} {b : Nat} (h : w.heap[b]? = some (.cells #[Value.string ⟨#[]⟩, .int .u64 0, .string ⟨#[]⟩, .bool false, .bool false, .string ⟨#[]⟩, .int .u8 0, .int .u64 0, .string ⟨#[]⟩, .slice none 0 0, .slice none 0 0, .string ⟨#[]⟩] 35 (0, 0))) : ((w.cell? ⟨b, 0, none⟩ = some (.string ⟨#[]⟩) ∧ w.cell? ⟨b, 1, none⟩ = some (.int .u64 0) ∧ w.cell? ⟨b, 2, none⟩ = some (.string ⟨#[]⟩) ∧ w.cell? ⟨b, 3, none⟩ = some (.bool false) ∧ w.cell? ⟨b, 4, none⟩ = some (.bool false) ∧ w.cell? ⟨b, 5, none⟩ = some (.string ⟨#[]⟩)) ∧ (w.cell? ⟨b, 6, none⟩ = some (.int .u8 0) ∧ w.cell? ⟨b, 7, none⟩ = some (.int .u64 0) ∧ w.cell? ⟨b, 8, none⟩ = some (.string ⟨#[]⟩) ∧ w.cell? ⟨b, 9, none⟩ = some (.slice none 0 0) ∧ w.cell? ⟨b, 10, none⟩ = some (.slice none 0 0) ∧ w.cell? ⟨b, 11, none⟩ = some (.string ⟨#[]⟩))) ∧ ((w.frozen? ⟨b, 0, none⟩ = false ∧ w.frozen? ⟨b, 1, none⟩ = false ∧ w.frozen? ⟨b, 2, none⟩ = false ∧ w.frozen? ⟨b, 3, none⟩ = false ∧ w.frozen? ⟨b, 4, none⟩ = false ∧ w.frozen? ⟨b, 5, none⟩ = false) ∧ (w.frozen? ⟨b, 6, none⟩ = false ∧ w.frozen? ⟨b, 7, none⟩ = false ∧ w.frozen? ⟨b, 8, none⟩ = false ∧ w.frozen? ⟨b, 9, none⟩ = false ∧ w.frozen? ⟨b, 10, none⟩ = false ∧ w.frozen? ⟨b, 11, none⟩ = false)) := by
  have hq : ∀ i, w.cell? ⟨b, i, none⟩ = (#[Value.string ⟨#[]⟩, .int .u64 0, .string ⟨#[]⟩, .bool false, .bool false, .string ⟨#[]⟩, .int .u8 0, .int .u64 0, .string ⟨#[]⟩, .slice none 0 0, .slice none 0 0, .string ⟨#[]⟩] : Array Value)[i]? := fun i => cell_of_row w b i _ 35 (0, 0) h
  have fq := fun i => frozen_of_row w b i _ 35 h
  exact ⟨⟨⟨hq 0, hq 1, hq 2, hq 3, hq 4, hq 5⟩, ⟨hq 6, hq 7, hq 8, hq 9, hq 10, hq 11⟩⟩, ⟨⟨fq 0, fq 1, fq 2, fq 3, fq 4, fq 5⟩, ⟨fq 6, fq 7, fq 8, fq 9, fq 10, fq 11⟩⟩⟩
end Go.Proofs.YtpmafabphlejeaaGreat
/-
  What decodes the lists of puts and of names.
  Conditions: none but sizes.
-/
namespace Go.Proofs.YtpmafabphlejeaaGreat
open Go.RowKit
set_option linter.unusedVariables false
set_option linter.unusedSimpArgs false
set_option maxRecDepth 100000

theorem listS_succ {α : Type} (item : St → α × St) (k : Nat) (s : St) : listS item false (k + 1) s = ((listS item false k s).1 ++ [(item (listS item false k s).2).1], (item (listS item false k s).2).2) := by
  show (if false = true ∧ _ then _ else _) = _
  rw [if_neg (fun h => by cases h.1)]
theorem listS_len {α : Type} (item : St → α × St) : ∀ (k : Nat) (s : St), (listS item false k s).1.length = k
  | 0, s => rfl
  | k + 1, s => by rw [listS_succ]; simp [listS_len item k s]
theorem lenS_put (nm pm bm : Int) (s : St) : lenS (putS nm pm bm s).2 ≤ lenS s := by
  unfold putS
  exact Nat.le_trans (lenS_text _ _ _) (Nat.le_trans (lenS_text _ _ _) (Nat.le_trans (lenS_num _ _) (lenS_text _ _ _)))
theorem lenS_ref (nm : Int) (s : St) : lenS (refS nm s).2 ≤ lenS s := by
  unfold refS
  exact Nat.le_trans (lenS_num _ _) (lenS_text _ _ _)
theorem lenS_list {α : Type} (item : St → α × St) (h : ∀ s, lenS (item s).2 ≤ lenS s) : ∀ (k : Nat) (s : St), lenS (listS item false k s).2 ≤ lenS s
  | 0, s => Nat.le_refl _
  | k + 1, s => by rw [listS_succ]; exact Nat.le_trans (h _) (lenS_list item h k s)
theorem num1_lt (s : St) : (numS 1 s).1 < 256 := by
  have h := numOf_lt (takeS 1 s).1
  have h2 := takeS_len 1 s
  have h3 : (takeS 1 s).1.length ≤ 1 := by omega
  have h4 : (256 : Nat) ^ (takeS 1 s).1.length ≤ 256 ^ 1 := Nat.pow_le_pow_right (by decide) h3
  show numOf (takeS 1 s).1 < 256
  omega

end Go.Proofs.YtpmafabphlejeaaGreat
/-
  The contract of entry.decoded.
  Conditions: none but sizes.
-/
namespace Go.Proofs.YtpmafabphlejeaaGreat
open Go.RowKit
set_option linter.unusedVariables false
set_option linter.unusedSimpArgs false
set_option maxRecDepth 100000

abbrev zEnt : Obj := Obj.cells #[.int .u8 0, .string ⟨#[]⟩, .int .u64 0, .int .u32 0, .string ⟨#[]⟩, .string ⟨#[]⟩, .slice none 0 0, .slice none 0 0] 57
section
variable {w wx wy : World} {q b g d E : Nat} {x x' : EntC} {s s' : St}
end
theorem BoxE.name {w : World} {E : Nat} {x : EntC} (h : BoxE w E x) (u : ByteArray) : BoxE (w.setCell ⟨E, 1, none⟩ (.string u)) E { x with name := u } := heap_setCell_same w E 1 _ 57 (.string u) h
theorem BoxE.num {w : World} {E : Nat} {x : EntC} (h : BoxE w E x) (u : Nat) : BoxE (w.setCell ⟨E, 2, none⟩ (.int .u64 u)) E { x with n := u } := heap_setCell_same w E 2 _ 57 (.int .u64 u) h
theorem BoxE.sxf {w : World} {E : Nat} {x : EntC} (h : BoxE w E x) (u : Nat) : BoxE (w.setCell ⟨E, 3, none⟩ (.int .u32 u)) E { x with xf := u } := heap_setCell_same w E 3 _ 57 (.int .u32 u) h
theorem BoxE.sxg {w : World} {E : Nat} {x : EntC} (h : BoxE w E x) (u : ByteArray) : BoxE (w.setCell ⟨E, 4, none⟩ (.string u)) E { x with xg := u } := heap_setCell_same w E 4 _ 57 (.string u) h
theorem BoxE.sxh {w : World} {E : Nat} {x : EntC} (h : BoxE w E x) (u : ByteArray) : BoxE (w.setCell ⟨E, 5, none⟩ (.string u)) E { x with xh := u } := heap_setCell_same w E 5 _ 57 (.string u) h
theorem BoxE.sps {w : World} {E : Nat} {x : EntC} (h : BoxE w E x) (A : Option Addr) (c : Nat) (cs : List PutC) : BoxE (w.setCell ⟨E, 6, none⟩ (.slice A cs.length c)) E { x with A1 := A, c1 := c, cs := cs } := heap_setCell_same w E 6 _ 57 (.slice A cs.length c) h
theorem BoxE.sts {w : World} {E : Nat} {x : EntC} (h : BoxE w E x) (A : Option Addr) (c : Nat) (rs : List RefE) : BoxE (w.setCell ⟨E, 7, none⟩ (.slice A rs.length c)) E { x with A2 := A, c2 := c, rs := rs } := heap_setCell_same w E 7 _ 57 (.slice A rs.length c) h

/-- The stores of eight cells. -/
def set8 (w : World) (b : Nat) (x0 x1 x2 x3 x4 x5 x6 x7 : Value) : World := (((((((w.setCell ⟨b, 0, none⟩ x0).setCell ⟨b, 1, none⟩ x1).setCell ⟨b, 2, none⟩ x2).setCell ⟨b, 3, none⟩ x3).setCell ⟨b, 4, none⟩ x4).setCell ⟨b, 5, none⟩ x5).setCell ⟨b, 6, none⟩ x6).setCell ⟨b, 7, none⟩ x7
theorem set8_eq (w : World) (b : Nat) (x0 x1 x2 x3 x4 x5 x6 x7 : Value) : set8 w b x0 x1 x2 x3 x4 x5 x6 x7 = setN w b 0 [x0, x1, x2, x3, x4, x5, x6, x7] := rfl
theorem ent_zero {w : World} {b : Nat} (h : w.heap[b]? = some zEnt) : ((w.cell? ⟨b, 0, none⟩ = some (.int .u8 0) ∧ w.cell? ⟨b, 1, none⟩ = some (.string ⟨#[]⟩) ∧ w.cell? ⟨b, 2, none⟩ = some (.int .u64 0) ∧ w.cell? ⟨b, 3, none⟩ = some (.int .u32 0)) ∧ (w.cell? ⟨b, 4, none⟩ = some (.string ⟨#[]⟩) ∧ w.cell? ⟨b, 5, none⟩ = some (.string ⟨#[]⟩) ∧ w.cell? ⟨b, 6, none⟩ = some (.slice none 0 0) ∧ w.cell? ⟨b, 7, none⟩ = some (.slice none 0 0))) ∧
    ((w.frozen? ⟨b, 0, none⟩ = false ∧ w.frozen? ⟨b, 1, none⟩ = false ∧ w.frozen? ⟨b, 2, none⟩ = false ∧ w.frozen? ⟨b, 3, none⟩ = false) ∧ (w.frozen? ⟨b, 4, none⟩ = false ∧ w.frozen? ⟨b, 5, none⟩ = false ∧ w.frozen? ⟨b, 6, none⟩ = false ∧ w.frozen? ⟨b, 7, none⟩ = false)) := by
  have hq : ∀ i, w.cell? ⟨b, i, none⟩ = (#[Value.int .u8 0, .string ⟨#[]⟩, .int .u64 0, .int .u32 0, .string ⟨#[]⟩, .string ⟨#[]⟩, .slice none 0 0, .slice none 0 0] : Array Value)[i]? := fun i => cell_of_row w b i _ 57 (0, 0) h
  have fq := fun i => frozen_of_row w b i _ 57 h
  exact ⟨⟨⟨hq 0, hq 1, hq 2, hq 3⟩, ⟨hq 4, hq 5, hq 6, hq 7⟩⟩, ⟨⟨fq 0, fq 1, fq 2, fq 3⟩, ⟨fq 4, fq 5, fq 6, fq 7⟩⟩⟩
theorem set8_row {w : World} {b : Nat} (x0 x1 x2 x3 x4 x5 x6 x7 : Value) (h : w.heap[b]? = some zEnt) : (set8 w b x0 x1 x2 x3 x4 x5 x6 x7).heap[b]? = some (.cells #[x0, x1, x2, x3, x4, x5, x6, x7] 57 (0, 0)) := by
  have h9 := setN_row [x0, x1, x2, x3, x4, x5, x6, x7] 0 w _ h
  simp only [List.foldl_cons, List.foldl_nil, List.setIfInBounds_toArray, List.set_cons_zero, List.set_cons_succ, Nat.zero_add, Nat.reduceAdd] at h9
  rw [set8_eq]
  exact h9
theorem set8_below {B b : Nat} {w0 w : World} (h : Below B w0 w) (hb : B ≤ b) (x0 x1 x2 x3 x4 x5 x6 x7 : Value) : Below B w0 (set8 w b x0 x1 x2 x3 x4 x5 x6 x7) := by rw [set8_eq]; exact setN_below hb _ 0 _ _ h
theorem set8_sub (w : World) (b : Nat) {B : Nat} (hB : b < B) (x0 x1 x2 x3 x4 x5 x6 x7 : Value) : Sub (lowm B w) (lowm B (set8 w b x0 x1 x2 x3 x4 x5 x6 x7)) := by rw [set8_eq]; exact setN_sub hB _ 0 w

/-- What decoded tells. -/
def DecSaidE (l : List UInt8) (w : World) (e : Ending) (w' : World) : Prop :=
  ∃ x : EntC, e = .returned (entV x) ∧ x.e = decG 40 8192 4096 false l ∧ ShowsE (lowm w.heap.size w') x ∧ Few x.cs ∧ Below w.heap.size w w'
theorem gotPr_cnt (l : List UInt8) : cntT (gotPr l).app ≤ 1000000 := by
  unfold gotPr
  cases h : getPr l with
  | none => decide
  | some p =>
    have hv := (get_some h).1.2.2
    rcases hv with ⟨_, hc⟩ | hz
    · exact Nat.le_trans (pcheck_cnt hc) (by decide)
    · show cntT p.app ≤ _
      rw [hz]; decide
theorem list_got (nm pm bm : Int) (stop : Bool) : ∀ (k : Nat) (s : St), ∀ e ∈ (listS (putS nm pm bm) stop k s).1, cntT e.p.app ≤ 1000000
  | 0, s, e, h => absurd h (by simp [listS])
  | k + 1, s, e, h => by
    unfold listS at h
    split at h
    · exact list_got nm pm bm stop k s e h
    · rcases List.mem_append.1 h with h | h
      · exact list_got nm pm bm stop k s e h
      · rw [List.mem_singleton.1 h]
        exact gotPr_cnt _
theorem sets_all (k : Nat) : ((uName k = true ∧ uNum k = true ∧ uX k = false ∧ uWork k = false) ∨ (uName k = true ∧ uNum k = false ∧ uX k = false ∧ uWork k = false) ∨ (uName k = false ∧ uNum k = false ∧ uX k = false ∧ uWork k = true) ∨ (uName k = false ∧ uNum k = false ∧ uX k = true ∧ uWork k = true) ∨
    (uName k = false ∧ uNum k = true ∧ uX k = true ∧ uWork k = false) ∨ (uName k = false ∧ uNum k = false ∧ uX k = true ∧ uWork k = false)) ∨ (uName k = false ∧ uNum k = false ∧ uX k = false ∧ uWork k = false) := by
  cases h : kindOK k with
  | true => exact .inl (sets_of k h)
  | false =>
    right
    unfold kindOK at h
    have := of_decide_eq_false h
    unfold uName uNum uX uWork
    refine ⟨decide_eq_false ?_, decide_eq_false ?_, decide_eq_false ?_, decide_eq_false ?_⟩ <;> omega
theorem name_yes {k : Nat} {s : St} {nm : ByteArray} {s1 : St} (h : (nm, s1) = nameS 40 k s) (hu : uName k = true) : nm = str8 (textS 1 40 s).1 ∧ s1 = (textS 1 40 s).2 := by
  unfold nameS at h; rw [if_pos hu] at h; exact ⟨congrArg Prod.fst h, congrArg Prod.snd h⟩
theorem name_not {k : Nat} {s : St} {nm : ByteArray} {s1 : St} (h : (nm, s1) = nameS 40 k s) (hu : uName k = false) : nm = ⟨#[]⟩ ∧ s = s1 := by
  unfold nameS at h; rw [if_neg (by rw [hu]; decide)] at h; exact ⟨congrArg Prod.fst h, (congrArg Prod.snd h).symm⟩
theorem nr_yes {k : Nat} {s : St} {n : Nat} {s1 : St} (h : (n, s1) = nrS k s) (hu : uNum k = true) : n = (numS 8 s).1 ∧ s1 = (numS 8 s).2 := by
  unfold nrS at h; rw [if_pos hu] at h; exact ⟨congrArg Prod.fst h, congrArg Prod.snd h⟩
theorem nr_not {k : Nat} {s : St} {n : Nat} {s1 : St} (h : (n, s1) = nrS k s) (hu : uNum k = false) : n = 0 ∧ s = s1 := by
  unfold nrS at h; rw [if_neg (by rw [hu]; decide)] at h; exact ⟨congrArg Prod.fst h, (congrArg Prod.snd h).symm⟩
theorem x_yes {k : Nat} {s : St} {f : Nat} {g h : ByteArray} {s1 : St} (hx : ((f, g, h), s1) = xS false k s) (hu : uX k = true) : ((f, g, h), s1) = xidS false s := by
  unfold xS at hx; rwa [if_pos hu] at hx
theorem x_not {k : Nat} {s : St} {f : Nat} {g h : ByteArray} {s1 : St} (hx : ((f, g, h), s1) = xS false k s) (hu : uX k = false) : f = 0 ∧ g = ⟨#[]⟩ ∧ h = ⟨#[]⟩ ∧ s = s1 := by
  unfold xS at hx; rw [if_neg (by rw [hu]; decide)] at hx
  simp only [Prod.mk.injEq] at hx
  exact ⟨hx.1.1, hx.1.2.1, hx.1.2.2, hx.2.symm⟩
theorem lenS_xid (s : St) : lenS (xidS false s).2 ≤ lenS s := by
  unfold xidS
  simp only []
  rw [if_neg (by decide)]
  show ((leftB s).drop _).length ≤ _
  rw [List.length_drop]
  have : (leftB s).length = lenS s := by cases s <;> rfl
  omega

theorem xid_sizes {s s1 : St} {f : Nat} {g h : ByteArray} (hx : ((f, g, h), s1) = xidS false s) (hl : lenS s ≤ 140737488351232) : f < 4294967296 ∧ g.size ≤ 140737488351232 ∧ h.size ≤ 140737488351232 := by
  have e : (f, g, h) = (xgot (leftB s)).1 := by
    have := congrArg Prod.fst hx
    exact this
  have hf := xgot_lt (leftB s)
  rw [← e] at hf
  refine ⟨hf, ?_⟩
  unfold xgot at e
  split at e
  · simp only [Prod.mk.injEq] at e
    obtain ⟨_, rfl, rfl⟩ := e
    exact ⟨by decide, by decide⟩
  · split at e
    · rename_i hm
      simp only [Prod.mk.injEq] at e
      obtain ⟨_, rfl, rfl⟩ := e
      unfold mayX at hm
      exact ⟨by omega, by omega⟩
    · simp only [Prod.mk.injEq] at e
      obtain ⟨_, rfl, rfl⟩ := e
      exact ⟨by decide, by decide⟩

end Go.Proofs.YtpmafabphlejeaaGreat
