/-
  Texts, together: PrI, PrJ, PrQ.
  Conditions: none but sizes.
-/
import Derived.Test.YtpmafabphlejeaaGreatPrGZ
import Derived.Test.YtpmafabphlejeaaGreatPrDZ
/-
  The contracts of props.decoded and of props.Get.
  Conditions: none but sizes.
-/
namespace Go.Proofs.YtpmafabphlejeaaGreat
open Go.RowKit
set_option linter.unusedVariables false
set_option linter.unusedSimpArgs false

abbrev zbox : Obj := Obj.cells #[.string ⟨#[]⟩, .bool false, .bool false, .string ⟨#[]⟩, .int .u8 0, .int .u64 0, .string ⟨#[]⟩, .slice none 0 0, .slice none 0 0] 33
def BoxZP (w : World) (b : Nat) (p : PropP) : Prop := BoxPr w b p (.int .u8 0) (.int .u64 0) (.string ⟨#[]⟩) (.slice none 0 0) (.slice none 0 0)
theorem BoxZP.dur {w : World} {b : Nat} {p : PropP} (h : BoxZP w b p) (x : Bool) : BoxZP (w.setCell ⟨b, 1, none⟩ (.bool x)) b { p with dur := x } := heap_setCell_same w b 1 _ 33 (.bool x) h
theorem BoxZP.red {w : World} {b : Nat} {p : PropP} (h : BoxZP w b p) (x : Bool) : BoxZP (w.setCell ⟨b, 2, none⟩ (.bool x)) b { p with red := x } := heap_setCell_same w b 2 _ 33 (.bool x) h
theorem BoxZP.key {w : World} {b : Nat} {p : PropP} (h : BoxZP w b p) (x : ByteArray) : BoxZP (w.setCell ⟨b, 0, none⟩ (.string x)) b { p with key := x } := heap_setCell_same w b 0 _ 33 (.string x) h
theorem BoxZP.id {w : World} {b : Nat} {p : PropP} (h : BoxZP w b p) (x : ByteArray) : BoxZP (w.setCell ⟨b, 3, none⟩ (.string x)) b { p with id := x } := heap_setCell_same w b 3 _ 33 (.string x) h
theorem BoxZP.fr {w : World} {b : Nat} {p : PropP} (h : BoxZP w b p) (i : Nat) : w.frozen? ⟨b, i, none⟩ = false := frozen_of_row w b i _ 33 h

/-- The stores of nine cells. -/
def set9 (w : World) (b : Nat) (x0 x1 x2 x3 x4 x5 x6 x7 x8 : Value) : World :=
  ((((((((w.setCell ⟨b, 0, none⟩ x0).setCell ⟨b, 1, none⟩ x1).setCell ⟨b, 2, none⟩ x2).setCell ⟨b, 3, none⟩ x3).setCell ⟨b, 4, none⟩ x4).setCell ⟨b, 5, none⟩ x5).setCell ⟨b, 6, none⟩ x6).setCell ⟨b, 7, none⟩ x7).setCell ⟨b, 8, none⟩ x8
theorem set9_row {w : World} {b : Nat} (x0 x1 x2 x3 x4 x5 x6 x7 x8 : Value) {y0 y1 y2 y3 y4 y5 y6 y7 y8 : Value} (h : w.heap[b]? = some (.cells #[y0, y1, y2, y3, y4, y5, y6, y7, y8] 33 (0, 0))) :
    (set9 w b x0 x1 x2 x3 x4 x5 x6 x7 x8).heap[b]? = some (.cells #[x0, x1, x2, x3, x4, x5, x6, x7, x8] 33 (0, 0)) := by
  have r1 : (w.setCell ⟨b, 0, none⟩ x0).heap[b]? = some (.cells #[x0, y1, y2, y3, y4, y5, y6, y7, y8] 33 (0, 0)) := heap_setCell_same _ b 0 _ 33 x0 h
  have r2 : ((w.setCell ⟨b, 0, none⟩ x0).setCell ⟨b, 1, none⟩ x1).heap[b]? = some (.cells #[x0, x1, y2, y3, y4, y5, y6, y7, y8] 33 (0, 0)) := heap_setCell_same _ b 1 _ 33 x1 r1
  have r3 : (((w.setCell ⟨b, 0, none⟩ x0).setCell ⟨b, 1, none⟩ x1).setCell ⟨b, 2, none⟩ x2).heap[b]? = some (.cells #[x0, x1, x2, y3, y4, y5, y6, y7, y8] 33 (0, 0)) := heap_setCell_same _ b 2 _ 33 x2 r2
  have r4 : ((((w.setCell ⟨b, 0, none⟩ x0).setCell ⟨b, 1, none⟩ x1).setCell ⟨b, 2, none⟩ x2).setCell ⟨b, 3, none⟩ x3).heap[b]? = some (.cells #[x0, x1, x2, x3, y4, y5, y6, y7, y8] 33 (0, 0)) := heap_setCell_same _ b 3 _ 33 x3 r3
  have r5 : (((((w.setCell ⟨b, 0, none⟩ x0).setCell ⟨b, 1, none⟩ x1).setCell ⟨b, 2, none⟩ x2).setCell ⟨b, 3, none⟩ x3).setCell ⟨b, 4, none⟩ x4).heap[b]? = some (.cells #[x0, x1, x2, x3, x4, y5, y6, y7, y8] 33 (0, 0)) := heap_setCell_same _ b 4 _ 33 x4 r4
  have r6 : ((((((w.setCell ⟨b, 0, none⟩ x0).setCell ⟨b, 1, none⟩ x1).setCell ⟨b, 2, none⟩ x2).setCell ⟨b, 3, none⟩ x3).setCell ⟨b, 4, none⟩ x4).setCell ⟨b, 5, none⟩ x5).heap[b]? = some (.cells #[x0, x1, x2, x3, x4, x5, y6, y7, y8] 33 (0, 0)) := heap_setCell_same _ b 5 _ 33 x5 r5
  have r7 : (((((((w.setCell ⟨b, 0, none⟩ x0).setCell ⟨b, 1, none⟩ x1).setCell ⟨b, 2, none⟩ x2).setCell ⟨b, 3, none⟩ x3).setCell ⟨b, 4, none⟩ x4).setCell ⟨b, 5, none⟩ x5).setCell ⟨b, 6, none⟩ x6).heap[b]? = some (.cells #[x0, x1, x2, x3, x4, x5, x6, y7, y8] 33 (0, 0)) := heap_setCell_same _ b 6 _ 33 x6 r6
  have r8 : ((((((((w.setCell ⟨b, 0, none⟩ x0).setCell ⟨b, 1, none⟩ x1).setCell ⟨b, 2, none⟩ x2).setCell ⟨b, 3, none⟩ x3).setCell ⟨b, 4, none⟩ x4).setCell ⟨b, 5, none⟩ x5).setCell ⟨b, 6, none⟩ x6).setCell ⟨b, 7, none⟩ x7).heap[b]? = some (.cells #[x0, x1, x2, x3, x4, x5, x6, x7, y8] 33 (0, 0)) := heap_setCell_same _ b 7 _ 33 x7 r7
  have r9 : (((((((((w.setCell ⟨b, 0, none⟩ x0).setCell ⟨b, 1, none⟩ x1).setCell ⟨b, 2, none⟩ x2).setCell ⟨b, 3, none⟩ x3).setCell ⟨b, 4, none⟩ x4).setCell ⟨b, 5, none⟩ x5).setCell ⟨b, 6, none⟩ x6).setCell ⟨b, 7, none⟩ x7).setCell ⟨b, 8, none⟩ x8).heap[b]? = some (.cells #[x0, x1, x2, x3, x4, x5, x6, x7, x8] 33 (0, 0)) := heap_setCell_same _ b 8 _ 33 x8 r8
  unfold set9
  exact r9
theorem set9_below {B b : Nat} {w0 w : World} (h : Below B w0 w) (hb : B ≤ b) (x0 x1 x2 x3 x4 x5 x6 x7 x8 : Value) : Below B w0 (set9 w b x0 x1 x2 x3 x4 x5 x6 x7 x8) := by
  unfold set9
  have h0 := below_set h (j := 0) hb x0
  have h1 := below_set h0 (j := 1) hb x1
  have h2 := below_set h1 (j := 2) hb x2
  have h3 := below_set h2 (j := 3) hb x3
  have h4 := below_set h3 (j := 4) hb x4
  have h5 := below_set h4 (j := 5) hb x5
  have h6 := below_set h5 (j := 6) hb x6
  have h7 := below_set h6 (j := 7) hb x7
  exact below_set h7 (j := 8) hb x8
theorem set9_aft {B b : Nat} {w7 w : World} (h : Aft B w7 w) (hb : b < B) (x0 x1 x2 x3 x4 x5 x6 x7 x8 : Value) : Aft B w7 (set9 w b x0 x1 x2 x3 x4 x5 x6 x7 x8) := by
  unfold set9
  have h0 := Aft.set h (p := b) (.inl hb) 0 x0
  have h1 := Aft.set h0 (p := b) (.inl hb) 1 x1
  have h2 := Aft.set h1 (p := b) (.inl hb) 2 x2
  have h3 := Aft.set h2 (p := b) (.inl hb) 3 x3
  have h4 := Aft.set h3 (p := b) (.inl hb) 4 x4
  have h5 := Aft.set h4 (p := b) (.inl hb) 5 x5
  have h6 := Aft.set h5 (p := b) (.inl hb) 6 x6
  have h7 := Aft.set h6 (p := b) (.inl hb) 7 x7
  exact Aft.set h7 (p := b) (.inl hb) 8 x8
section
variable {w wx wy : World} {g d : Nat} {s : St} {bp : Nat} {p : PropP} {g1 d1 : Nat} {s1 : St} {b1 f1 : Nat}
end

/-- What decoded tells. -/
def DecSaidP (l : List UInt8) (w : World) (e : Ending) (w' : World) : Prop :=
  ∃ (k n : Nat) (ss : ByteArray) (a3 : Option Addr) (n3 c3 : Nat) (a4 : Option Addr) (n4 c4 : Nat), e = .returned (propV (decPr l) (.int .u8 k) (.int .u64 n) (.string ss) (.slice a3 n3 c3) (.slice a4 n4 c4)) ∧ ShowsT (lowm w.heap.size w') (decPr l).app [.int .u8 k, .int .u64 n, .string ss, .slice a3 n3 c3, .slice a4 n4 c4] ∧ Below w.heap.size w w'
theorem lenS_next (s : St) : lenS (nextPr s).1.2 ≤ lenS s ∧ lenS (nextPr s).2 ≤ lenS s := by
  have h1 : (textS 4 (lenS s) s).1.length ≤ lenS s := textS_fst_le _ _ _
  refine ⟨?_, textS_lenS _ _ _⟩
  show lenS (numS 2 (numS 2 (some (textS 4 (lenS s) s).1)).2).2 ≤ _
  exact Nat.le_trans (numS_lenS _ _) (Nat.le_trans (numS_lenS _ _) h1)
theorem lenS_txtR (f b : Nat) (s : St) : lenS (txtR f b s).2 ≤ lenS s := by
  unfold txtR
  split
  · exact textS_lenS _ _ _
  · exact Nat.le_refl _

/-- What Get tells. -/
def PGetSaid (l : List UInt8) (w : World) (e : Ending) (w' : World) : Prop :=
  Below w.heap.size w w' ∧ match getPr l with
    | none => e = .returned (.tuple #[propV zPr (.int .u8 (0 : Nat)) (.int .u64 (0 : Nat)) (.string ⟨#[]⟩) (.slice none 0 0) (.slice none 0 0), .int .i64 90])
    | some p => ∃ v0 v1 v2 v3 v4, e = .returned (.tuple #[propV p v0 v1 v2 v3 v4, .int .i64 0]) ∧ ShowsP (lowm w.heap.size w') p v0 v1 v2 v3 v4

end Go.Proofs.YtpmafabphlejeaaGreat
/-
  The contract of props.Get.
  Conditions: none but sizes.
-/
namespace Go.Proofs.YtpmafabphlejeaaGreat
open Go.RowKit
set_option linter.unusedVariables false
set_option linter.unusedSimpArgs false

theorem results_cell_tmp {P : Program} {fn : Func} {p u : Tmp} {ty : TypeId} (h : fn.results = #[.cell p ty, .tmp u]) (tmps : Array Value) (w : World) (g : Nat) (t : TypeId) (cs : Array Value) (fr : Nat × Nat) (d : TypeDesc)
    (hp : tmps.getD p undef = .pointer (some ⟨g, 0, none⟩)) (hg : w.heap[g]? = some (.cells cs t fr))
    (hu : P.underlying ty = some d) (hd : (match d with | .struct _ | .array _ _ => true | _ => false) = true) (hi : (P.info? ty).map (·.size) = some cs.size) :
    (results fn tmps).run P w = .ok (.tuple #[.agg cs, tmps.getD u undef]) w := by
  have hp' : tmps[p]?.getD undef = .pointer (some ⟨g, 0, none⟩) := by simpa using hp
  simp [results, h, hp', asAddr, run_loadVar_row w g t ty cs fr d hg hu hd hi]
theorem aft_below {B : Nat} {w w' : World} (hb : Below w.heap.size w w') : Aft B w w' := ⟨hb.size, fun k _ hk => hb.block k hk⟩
theorem Aft.trans {B : Nat} {a b c : World} (h : Aft B a b) (k : Aft B b c) : Aft B a c := ⟨Nat.le_trans h.size k.size, fun i h1 h2 => (k.block i h1 (Nat.lt_of_lt_of_le h2 h.size)).trans (h.block i h1 h2)⟩

theorem get_said_no {l : List UInt8} {w w' : World} {e : Ending} (h : getPr l = none) (hb : Below w.heap.size w w') (he : e = .returned (.tuple #[propV zPr (.int .u8 (0 : Nat)) (.int .u64 (0 : Nat)) (.string ⟨#[]⟩) (.slice none 0 0) (.slice none 0 0), .int .i64 90])) : PGetSaid l w e w' := by
  unfold PGetSaid; rw [h]; exact ⟨hb, he⟩
theorem get_said_ok {l : List UInt8} {p : PropP} {v0 v1 v2 v3 v4 : Value} {w w' : World} {e : Ending} (h : getPr l = some p) (hb : Below w.heap.size w w') (he : e = .returned (.tuple #[propV p v0 v1 v2 v3 v4, .int .i64 0])) (hs : ShowsP (lowm w.heap.size w') p v0 v1 v2 v3 v4) : PGetSaid l w e w' := by
  unfold PGetSaid; rw [h]; exact ⟨hb, v0, v1, v2, v3, v4, he, hs⟩
theorem dec_sizes (l : List UInt8) (hl : l.length ≤ 140737488351232) : (decPr l).key.size ≤ 140737488351232 ∧ (decPr l).id.size ≤ 140737488351232 := by
  have h1 := lenS_next (some l)
  have h2 := lenS_next (nextPr (some l)).2
  have hll : lenS (some l) = l.length := rfl
  have hx : ∀ f b s, (txtR f b s).1.length ≤ lenS s := fun f b s => by
    unfold txtR
    split
    · exact textS_fst_le _ _ _
    · simp
  constructor
  · show (str8 _).size ≤ _
    rw [str8_size]
    exact Nat.le_trans (hx _ _ _) (by omega)
  · show (str8 _).size ≤ _
    rw [str8_size]
    exact Nat.le_trans (hx _ _ _) (by omega)
theorem getPr_yes {l : List UInt8} (h : validPr (decPr l)) (h2 : encPr (decPr l) = l) : getPr l = some (decPr l) := by
  unfold getPr; rw [if_pos ⟨h, h2⟩]
theorem getPr_no {l : List UInt8} (h : ¬ (validPr (decPr l) ∧ encPr (decPr l) = l)) : getPr l = none := by
  unfold getPr; rw [if_neg h]

theorem pcheck_cnt {t : Tree} (h : checkT t = 0) : cntT t ≤ 200 := by
  unfold checkT at h
  split at h
  · cases h
  · split at h
    · cases h
    · omega
theorem appR_cnt (f b : Nat) (s : St) : cntT (appR f b s) ≤ 1000000 := by
  unfold appR
  split
  · cases hg : getP (takeS (lenS s) s).1 with
    | none => simp only []; decide
    | some y =>
      obtain ⟨t, n⟩ := y
      simp only []
      have := pcheck_cnt (put_get hg).1
      omega
  · decide
theorem decPr_cnt (l : List UInt8) : cntT (decPr l).app ≤ 1000000 := appR_cnt _ _ _
theorem errno_ne (e : Nat) (h : e ≠ 0) : ((e : Int) != 0) = true := by simp; omega

end Go.Proofs.YtpmafabphlejeaaGreat
/-
  The contract of the law's own head.
  Conditions: none.
-/
namespace Go.Proofs.YtpmafabphlejeaaGreat
open Go.RowKit
set_option linter.unusedVariables false
set_option linter.unusedSimpArgs false

def pH1 : PropP := ⟨⟨#[113]⟩, true, false, ⟨#[]⟩, prZ⟩
def pH2 : PropP := ⟨⟨#[]⟩, false, true, ⟨#[]⟩, prZ⟩
theorem valid_pH1 : validPr pH1 := ⟨by decide, by decide, .inr rfl⟩
theorem valid_pH2 : validPr pH2 := ⟨by decide, by decide, .inr rfl⟩
theorem enc_pH1 : encPr pH1 = [0, 0, 0, 6, 4, 1, 0, 5, 1, 113] := by decide +kernel
theorem enc_pH2 : encPr pH2 = [0, 0, 0, 4, 4, 1, 0, 2] := by decide +kernel
theorem get_pH2 : getPr (sb ⟨#[0, 0, 0, 4, 4, 1, 0, 2]⟩) = some pH2 := by
  have := get_enc valid_pH2
  rw [enc_pH2] at this
  exact this
theorem get_nil9 : getPr (sb ⟨#[]⟩) = none := by
  cases h : getPr (sb ⟨#[]⟩) with
  | none => rfl
  | some p =>
    obtain ⟨_, h2⟩ := get_some h
    have h3 := congrArg List.length h2
    have h4 : (encPr p).length ≥ 8 := by
      unfold encPr
      rw [List.length_append, partB_len]
      omega
    rw [h3] at h4
    exact absurd h4 (by decide)

/-- Properties in two boxes of the call's own. -/
structure TwoP (w0 : World) (p q : PropP) (a0 a1 a2 a3 a4 b0 b1 b2 b3 b4 : Value) (w : World) : Prop where
  a : BoxPr w w0.heap.size p a0 a1 a2 a3 a4
  b : BoxPr w (w0.heap.size + 1) q b0 b1 b2 b3 b4
  bel : Below w0.heap.size w0 w
section
variable {w0 w w' : World} {p q : PropP} {a0 a1 a2 a3 a4 b0 b1 b2 b3 b4 : Value}
theorem TwoP.new (w0 : World) (p q : PropP) (a0 a1 a2 a3 a4 b0 b1 b2 b3 b4 : Value) : TwoP w0 p q a0 a1 a2 a3 a4 b0 b1 b2 b3 b4 ((w0.alloc (Obj.cells #[.string p.key, .bool p.dur, .bool p.red, .string p.id, a0, a1, a2, a3, a4] 33)).alloc (Obj.cells #[.string q.key, .bool q.dur, .bool q.red, .string q.id, b0, b1, b2, b3, b4] 33)) := by
  have hB1 := below_boxV w0 (Obj.cells #[.string p.key, .bool p.dur, .bool p.red, .string p.id, a0, a1, a2, a3, a4] 33)
  have hB2 := below_boxV (w0.alloc (Obj.cells #[.string p.key, .bool p.dur, .bool p.red, .string p.id, a0, a1, a2, a3, a4] 33)) (Obj.cells #[.string q.key, .bool q.dur, .bool q.red, .string q.id, b0, b1, b2, b3, b4] 33)
  have hX2 := BoxPr.new (p := q) (v0 := b0) (v1 := b1) (v2 := b2) (v3 := b3) (v4 := b4) (w0.alloc (Obj.cells #[.string p.key, .bool p.dur, .bool p.red, .string p.id, a0, a1, a2, a3, a4] 33))
  rw [World.size_alloc] at hX2
  exact ⟨BoxPr.kept (BoxPr.new w0) hB2 (Nat.le_refl _), hX2, hB1.trans (hB2.mono hB1.size)⟩
theorem TwoP.step (h : TwoP w0 p q a0 a1 a2 a3 a4 b0 b1 b2 b3 b4 w) (hb : Below w.heap.size w w') : TwoP w0 p q a0 a1 a2 a3 a4 b0 b1 b2 b3 b4 w' :=
  ⟨h.a.kept hb (Nat.le_refl _), h.b.kept hb (Nat.le_refl _), h.bel.trans (hb.mono h.bel.size)⟩
theorem TwoP.drew (h : TwoP w0 p q a0 a1 a2 a3 a4 b0 b1 b2 b3 b4 w) : TwoP w0 p q a0 a1 a2 a3 a4 b0 b1 b2 b3 b4 w.drew := h.step (below_drew1 (Below.refl _ _))
theorem TwoP.cells (h : TwoP w0 p q a0 a1 a2 a3 a4 b0 b1 b2 b3 b4 w) :
    ((w.cell? ⟨w0.heap.size, 0, none⟩ = some (.string p.key) ∧ w.cell? ⟨w0.heap.size, 1, none⟩ = some (.bool p.dur) ∧ w.cell? ⟨w0.heap.size, 2, none⟩ = some (.bool p.red) ∧ w.cell? ⟨w0.heap.size, 3, none⟩ = some (.string p.id)) ∧
      (w.cell? ⟨w0.heap.size, 4, none⟩ = some a0 ∧ w.cell? ⟨w0.heap.size, 5, none⟩ = some a1 ∧ w.cell? ⟨w0.heap.size, 6, none⟩ = some a2 ∧ w.cell? ⟨w0.heap.size, 7, none⟩ = some a3 ∧ w.cell? ⟨w0.heap.size, 8, none⟩ = some a4)) ∧
    ((w.cell? ⟨w0.heap.size + 1, 0, none⟩ = some (.string q.key) ∧ w.cell? ⟨w0.heap.size + 1, 1, none⟩ = some (.bool q.dur) ∧ w.cell? ⟨w0.heap.size + 1, 2, none⟩ = some (.bool q.red) ∧ w.cell? ⟨w0.heap.size + 1, 3, none⟩ = some (.string q.id)) ∧
      (w.cell? ⟨w0.heap.size + 1, 4, none⟩ = some b0 ∧ w.cell? ⟨w0.heap.size + 1, 5, none⟩ = some b1 ∧ w.cell? ⟨w0.heap.size + 1, 6, none⟩ = some b2 ∧ w.cell? ⟨w0.heap.size + 1, 7, none⟩ = some b3 ∧ w.cell? ⟨w0.heap.size + 1, 8, none⟩ = some b4)) := ⟨h.a.cells, h.b.cells⟩
theorem TwoP.calls {f : FuncId} {args : Array Value} {r : Ending} (hc : ∀ w, TwoP w0 p q a0 a1 a2 a3 a4 b0 b1 b2 b3 b4 w → Calls Tryz.prog f args w fun e w' => e = r ∧ Below w.heap.size w w') :
    ∀ w, TwoP w0 p q a0 a1 a2 a3 a4 b0 b1 b2 b3 b4 w → Calls Tryz.prog f args w fun e w' => e = r ∧ TwoP w0 p q a0 a1 a2 a3 a4 b0 b1 b2 b3 b4 w' :=
  fun w h => (hc w h).mono fun e w' he => ⟨he.1, h.step he.2⟩
end
/-- What Put tells, properties that may be or not. -/
noncomputable def putPr (p : PropP) : ByteArray := by classical exact if validPr p then str8 (encPr p) else ⟨#[]⟩
theorem pput_any (p : PropP) (v0 v1 v2 v3 v4 : Value) (w : World) (h : ShowsP w p v0 v1 v2 v3 v4) (hc : cntT p.app ≤ 1000000) :
    Calls Tryz.prog 93 #[propV p v0 v1 v2 v3 v4] w fun e w' => e = .returned (.tuple #[.string (putPr p), .int .i64 (errP p)]) ∧ Below w.heap.size w w' := by
  by_cases hv : validPr p
  · have := pput_ok p v0 v1 v2 v3 v4 w h hc hv
    rw [errP_ok hv]
    unfold putPr
    rw [if_pos hv]
    exact this
  · have := pput_no p v0 v1 v2 v3 v4 w h hc hv
    rw [errP_no hv]
    unfold putPr
    rw [if_neg hv]
    exact this

end Go.Proofs.YtpmafabphlejeaaGreat
