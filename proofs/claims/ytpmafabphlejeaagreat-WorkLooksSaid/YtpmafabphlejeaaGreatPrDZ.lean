/-
  Texts, together: PrD, PrE.
  Conditions: none but sizes.
-/
import Derived.Test.YtpmafabphlejeaaGreatPrAZ
import Derived.Test.YtpmafabphlejeaaGreatValDZ
/-
  The contracts of the closure that writes a part, and of props.Put.
  Conditions: none but sizes.
-/
namespace Go.Proofs.YtpmafabphlejeaaGreat
open Go.RowKit
set_option linter.unusedVariables false
set_option linter.unusedSimpArgs false

/-- What the closure does to the cell of 'out'. -/
def WriteSaid (g : Nat) (w : World) (L : List UInt8) (e : Ending) (w' : World) : Prop :=
  e = .returned (.tuple #[]) ∧ ∃ v', w'.heap[g]? = some (.cells #[v'] 133 (0, 0)) ∧ Own 5 w' w.heap.size v' L ∧ w.grownBy w' (some g)

set_option maxRecDepth 100000 in
set_option maxHeartbeats 4000000 in
theorem write_any (g d D c f : Nat) (A : Option Addr) (n k : Nat) (v : Value) (l : List UInt8) (ps : List Part8) (w : World) (hg : w.heap[g]? = some (.cells #[v] 133 (0, 0))) (hv : Shows w d v l) (hl : l.length ≤ 900000) (hn : ps.length = n)
    (hps : ShowsG partC8 w D (.slice A n k) ps) (hp : ∀ p ∈ ps, Shows w p.2.2.1 (.slice p.1 p.2.2.2.length p.2.1) p.2.2.2) (hb : (cat8 ps).length ≤ 900000) :
    Calls Tryz.prog 116 #[.int .u64 c, .int .u64 f, .slice A n k, .pointer (some ⟨g, 0, none⟩)] w (WriteSaid g w (l ++ partB c f (cat8 ps))) := by
  obtain ⟨Av, cv, rfl, _⟩ := id hv
  have hglt := (Array.getElem?_eq_some_iff.1 hg).1
  have hgc : w.cell? ⟨g, 0, none⟩ = some (.slice Av l.length cv) := cell_of_row w g 0 _ 133 (0, 0) hg
  have HP0 := Lib.hid (fun W => put_any2 (.slice none 0 0) [] 0 c 2 W (Shows.nil_ _ _) (by simp) (by omega))
  have HP1 := Lib.hid (fun W v' d' (h : Shows W d' v' (be 2 c)) => put_any2 v' (be 2 c) d' f 2 W h (by rw [be_length]; omega) (by omega))
  have HC := Lib.hid (fun w' (hbw : Below w.heap.size w w') => concat8_any A k n D ps w' hn (hps.below' hbw (Nat.le_refl _)) (fun p hpm => (hp p hpm).keep hbw.size (fun hpos => hbw.block _ ((hp p hpm).lt hpos))) (by omega))
  have HV := Lib.hid (fun w' (hbw : Below w.heap.size w w') => hv.keep hbw.size (fun hpos => hbw.block _ (hv.lt hpos)))
  have HG := Lib.hid hg
  have hX : (be 2 c ++ (be 2 f ++ cat8 ps)).length = 4 + (cat8 ps).length := by simp only [List.length_append, be_length]; omega
  have HT := Lib.hid (fun W v' d' (h : Shows W d' v' l) => putText_any v' l d' 4 (str8 (be 2 c ++ (be 2 f ++ cat8 ps))) W h (by rw [str8_size, hX]; omega) (by omega) (by rw [str8_size, hX]; omega))
  have hfin : l ++ (be 4 (str8 (be 2 c ++ (be 2 f ++ cat8 ps))).size ++ sb (str8 (be 2 c ++ (be 2 f ++ cat8 ps)))) = l ++ partB c f (cat8 ps) := by rw [str8_size, sb_str8]; rfl
  rw [hfin] at HT
  clear hfin
  generalize l ++ partB c f (cat8 ps) = L at *
  clear hps hp hg hv hn
  go_enter Tryz.func116, Tryz.ntmps116
  go_wp2_with fail
  refine (HP0.out _).mono ?_
  rintro e w1 ⟨v1, rfl, ho1, hb1⟩
  rw [List.nil_append] at ho1
  obtain ⟨g1, _, hs1⟩ := ho1.shows
  have HO1 := Lib.hid (HP1.out _ _ _ hs1)
  clear ho1 hs1
  go_wp2_with fail
  refine HO1.out.mono ?_
  rintro e w2 ⟨v2, rfl, ho2, hb2⟩
  have hb12 := hb1.trans (hb2.mono hb1.size)
  have HB2 := Lib.hid hb12
  have HC2 := Lib.hid (HC.out _ hb12)
  clear hb12
  go_wp2_with fail
  refine HC2.out.mono ?_
  rintro e w3 ⟨v3, rfl, ho3, hb3⟩
  obtain ⟨g3, _, hs3⟩ := ho3.shows
  have ho2' : Own 5 w3 w1.heap.size v2 (be 2 c ++ be 2 f) := ho2.keep fun q hq => hb3.block q (ho2.block q hq).2
  have hb13 := HB2.out.trans (hb3.mono HB2.out.size)
  have hz13 := hb13.size
  have hz1 := hb1.size
  have hz2 := hb2.size
  have hz3 := hb3.size
  have HB13 := Lib.hid hb13
  have hob := ho2'.block
  have HOB := Lib.hid hob
  clear ho2 ho3 hb13 hob
  go_wp2_with (at_builtin
               refine wpList_append8 _ rfl (.tmp 13) (.tmp 15) 133 rfl w1.heap.size 5 Tryz.underlying133 info8 v2 _ rfl ho2' g3 v3 _ rfl hs3 (by simp only [List.length_append, be_length]; omega) (by omega) ?_
               intro v4 w4 ho4 hg4
               have hb4 : Below w.heap.size w w4 := HB13.out.grown hg4 hz13 (fun q hq => by have := (HOB.out q hq).1; omega)
               obtain ⟨g4, _, hs4⟩ := ho4.shows
               rw [List.append_assoc] at hs4
               have hcv := conv_at hs4
               have hg4c : w4.cell? ⟨g, 0, none⟩ = some (.slice Av l.length cv) := (hb4.cell (p := ⟨g, 0, none⟩) hglt).trans hgc
               have HB4 := Lib.hid hb4
               clear hb4 ho4 hs4 hg4)
  have HV4 := Lib.hid (HT.out _ _ _ (HV.out _ HB4.out))
  refine HV4.out.mono ?_
  rintro e w5 ⟨v5, rfl, ho5, hb5⟩
  obtain ⟨A5, c5, rfl, _, _⟩ := ho5.form
  have hb45 := HB4.out.trans (hb5.mono HB4.out.size)
  have hfr : w5.frozen? ⟨g, 0, none⟩ = false := frozen_of_row w5 g 0 _ 133 ((hb45.block g hglt).trans HG.out)
  have hgc5 : w5.cell? ⟨g, 0, none⟩ = some (.slice Av l.length cv) := (hb45.cell (p := ⟨g, 0, none⟩) hglt).trans hgc
  have hz4 := HB4.out.size
  have HB5 := Lib.hid hb45
  have HO5 := Lib.hid ho5
  clear hb45 ho5 hg4c
  go_wp2_with fail
  go_end0
  have hs := heap_setCell_same w5 g 0 _ 133 (.slice A5 L.length c5) ((HB5.out.block g hglt).trans HG.out)
  refine ⟨rfl, _, by simpa using hs, ?_, ?_⟩
  · refine (HO5.out.mono hz4).keep fun q hq => Below.heap_setCell _ _ _ _ (fun e => ?_)
    have := (HO5.out.block q hq).1
    simp at e
    omega
  · exact ⟨HB5.out.os, HB5.out.tape, HB5.out.output, by simpa [World.setCell] using HB5.out.size, fun q hq hne => (Below.heap_setCell _ _ _ _ (fun e => hne (by rw [e]))).trans (HB5.out.block q hq)⟩

/-- The cell of 'out', the box of the properties, and what is new. -/
structure OutAt (w : World) (p : PropP) (v0 v1 v2 v3 v4 : Value) (g : Nat) (L : List UInt8) (wx : World) : Prop where
  bel : Below w.heap.size w wx
  box : BoxPr wx w.heap.size p v0 v1 v2 v3 v4
  gt : w.heap.size < g
  cell : ∃ A c d, wx.heap[g]? = some (.cells #[.slice A L.length c] 133 (0, 0)) ∧ Shows wx d (.slice A L.length c) L ∧ (0 < L.length → d ≠ g)
theorem OutAt.glt {w wx : World} {p : PropP} {v0 v1 v2 v3 v4 : Value} {g : Nat} {L : List UInt8} (h : OutAt w p v0 v1 v2 v3 v4 g L wx) : g < wx.heap.size := by
  obtain ⟨A, c, d, h1, _⟩ := h.cell
  exact (Array.getElem?_eq_some_iff.1 h1).1
theorem OutAt.kept {w wx wy : World} {p : PropP} {v0 v1 v2 v3 v4 : Value} {g : Nat} {L : List UInt8} (h : OutAt w p v0 v1 v2 v3 v4 g L wx) (hb : Below wx.heap.size wx wy) : OutAt w p v0 v1 v2 v3 v4 g L wy := by
  obtain ⟨A, c, d, h1, h2, h3⟩ := h.cell
  exact ⟨h.bel.trans (hb.mono h.bel.size), h.box.kept hb (Nat.le_refl _), h.gt, A, c, d, (hb.block g h.glt).trans h1, h2.keep hb.size (fun hp => hb.block _ (h2.lt hp)), h3⟩
theorem OutAt.drew {w wx : World} {p : PropP} {v0 v1 v2 v3 v4 : Value} {g : Nat} {L : List UInt8} (h : OutAt w p v0 v1 v2 v3 v4 g L wx) : OutAt w p v0 v1 v2 v3 v4 g L wx.drew := h.kept (below_drew1 (Below.refl _ _))
theorem OutAt.alloc {w wx : World} {p : PropP} {v0 v1 v2 v3 v4 : Value} {g : Nat} {L : List UInt8} (h : OutAt w p v0 v1 v2 v3 v4 g L wx) (o : Obj) : OutAt w p v0 v1 v2 v3 v4 g L (wx.alloc o) := h.kept (below_boxV _ _)
/-- The closure writes. -/
theorem OutAt.write {w wx : World} {p : PropP} {v0 v1 v2 v3 v4 : Value} {g : Nat} {L : List UInt8} (h : OutAt w p v0 v1 v2 v3 v4 g L wx) (hl : L.length ≤ 900000) (D c f n k : Nat) (A : Option Addr) (ps : List Part8) (hn : ps.length = n)
    (hps : ShowsG partC8 wx D (.slice A n k) ps) (hp : ∀ p ∈ ps, Shows wx p.2.2.1 (.slice p.1 p.2.2.2.length p.2.1) p.2.2.2) (hb : (cat8 ps).length ≤ 900000) :
    Calls Tryz.prog 116 #[.int .u64 c, .int .u64 f, .slice A n k, .pointer (some ⟨g, 0, none⟩)] wx fun e w' => e = .returned (.tuple #[]) ∧ OutAt w p v0 v1 v2 v3 v4 g (L ++ partB c f (cat8 ps)) w' := by
  obtain ⟨A', c', d, h1, h2, h3⟩ := h.cell
  refine (write_any g d D c f A n k _ L ps wx h1 h2 hl hn hps hp hb).mono ?_
  rintro e w' ⟨rfl, v', g1, g2, g3⟩
  have hg := h.gt
  have hglt := h.glt
  obtain ⟨q, q1, q2, hq⟩ := g2.shows' g3.size
  obtain ⟨A2, c2, rfl, _, _⟩ := g2.form
  exact ⟨rfl, h.bel.trans ⟨g3.os, g3.tape, g3.output, g3.size, fun k hk => g3.block k (Nat.lt_of_lt_of_le hk h.bel.size) (fun e => by have := Option.some.inj e; omega)⟩, (g3.block _ h.box.lt (fun e => by have := Option.some.inj e; omega)).trans h.box, hg, A2, c2, q, g1, hq, fun _ => by omega⟩

theorem pput_cat1 (x : List UInt8) (A : Option Addr) (c d : Nat) : cat8 [(A, c, d, x)] = x := by simp [cat8]
theorem pput_cat2 (x y : List UInt8) (A B : Option Addr) (c d k q : Nat) : cat8 [(A, c, d, x), (B, k, q, y)] = x ++ y := by simp [cat8]
theorem row1 (w : World) (A : Option Addr) (c d : Nat) (x : List UInt8) : ShowsG partC8 (w.alloc (Obj.cells #[.slice A x.length c] 133)) w.heap.size (.slice (some ⟨w.heap.size, 0, none⟩) 1 1) [(A, c, d, x)] :=
  ShowsG.lit (C := partC8) [(A, c, d, x)] (by simp [Code.all, partC8]) (by simp [maxLen])
theorem row2 (w : World) (A B : Option Addr) (c d k q : Nat) (x y : List UInt8) : ShowsG partC8 (w.alloc (Obj.cells #[.slice A x.length c, .slice B y.length k] 133)) w.heap.size (.slice (some ⟨w.heap.size, 0, none⟩) 2 2) [(A, c, d, x), (B, k, q, y)] :=
  ShowsG.lit (C := partC8) [(A, c, d, x), (B, k, q, y)] (by simp [Code.all, partC8]) (by simp [maxLen])

set_option maxRecDepth 100000 in
set_option maxHeartbeats 4000000 in
theorem pput_no (p : PropP) (v0 v1 v2 v3 v4 : Value) (w : World) (h : ShowsP w p v0 v1 v2 v3 v4) (hc : cntT p.app ≤ 1000000) (hv : ¬ validPr p) :
    Calls Tryz.prog 93 #[propV p v0 v1 v2 v3 v4] w fun e w' => e = .returned (.tuple #[.string ⟨#[]⟩, .int .i64 90]) ∧ Below w.heap.size w w' := by
  obtain ⟨k0, n0, s0, a3, n3, c3', a4, n4, c4', hvs⟩ := h.app.cells5
  simp only [List.cons.injEq, and_true] at hvs
  obtain ⟨rfl, rfl, rfl, rfl, rfl⟩ := hvs
  have HC := Lib.hid (fun w' (hb : Below w.heap.size w w') => pcheck_any p _ _ _ _ _ w' (h.kept hb (Nat.le_refl _)) hc)
  rw [errP_no hv] at HC
  simp only [Int.cast_ofNat_Int] at HC
  have hb0 := below_boxV w (Obj.cells #[.string p.key, .bool p.dur, .bool p.red, .string p.id, .int .u8 k0, .int .u64 n0, .string s0, .slice a3 n3 c3', .slice a4 n4 c4'] 33)
  have hX := BoxPr.new (p := p) (v0 := .int .u8 k0) (v1 := .int .u64 n0) (v2 := .string s0) (v3 := .slice a3 n3 c3') (v4 := .slice a4 n4 c4') w
  obtain ⟨⟨x0, x1, x2, x3⟩, x4, x5, x6, x7, x8⟩ := hX.cells
  have HB := Lib.hid hb0
  unfold propV at HC ⊢
  clear hb0 hX h hc hv
  go_enter Tryz.func93, Tryz.ntmps93
  go_wp2_with fail
  refine (HC.out _ HB.out).mono ?_
  rintro e w1 ⟨rfl, hb1⟩
  go_wp2_with fail
  go_ret2
  exact ⟨rfl, HB.out.trans (hb1.mono HB.out.size)⟩

end Go.Proofs.YtpmafabphlejeaaGreat
/-
  The contract of props.Put for properties that may be.
  Conditions: none but sizes.
-/
namespace Go.Proofs.YtpmafabphlejeaaGreat
open Go.RowKit
set_option linter.unusedVariables false
set_option linter.unusedSimpArgs false

theorem mem1 {α : Type} {P : α → Prop} {a : α} (h : P a) : ∀ p ∈ [a], P p := fun p hp => by rw [List.mem_singleton] at hp; rw [hp]; exact h
theorem mem2 {α : Type} {P : α → Prop} {a b : α} (h : P a) (k : P b) : ∀ p ∈ [a, b], P p := fun p hp => by
  rcases List.mem_cons.1 hp with hp | hp
  · rw [hp]; exact h
  · rw [List.mem_singleton] at hp; rw [hp]; exact k
theorem shows_far {w w' : World} {d : Nat} {v : Value} {l : List UInt8} (h : Shows w d v l) (hb : Below w.heap.size w w') : Shows w' d v l := h.keep hb.size (fun hp => hb.block _ (h.lt hp))
theorem OutAt.write1 {w wx : World} {p : PropP} {v0 v1 v2 v3 v4 : Value} {g : Nat} {L : List UInt8} (h : OutAt w p v0 v1 v2 v3 v4 g L wx) (hl : L.length ≤ 900000) (C : Int) (D c f d k : Nat) (A : Option Addr) (x : List UInt8)
    (hps : ShowsG partC8 wx D (.slice (some ⟨D, 0, none⟩) 1 1) [(A, k, d, x)]) (hp : Shows wx d (.slice A x.length k) x) (hb : x.length ≤ 900000) (hC : C = (c : Int)) :
    Calls Tryz.prog 116 #[.int .u64 C, .int .u64 f, .slice (some ⟨D, 0, none⟩) 1 1, .pointer (some ⟨g, 0, none⟩)] wx fun e w' => e = .returned (.tuple #[]) ∧ OutAt w p v0 v1 v2 v3 v4 g (L ++ partB c f x) w' := by
  subst hC
  have := h.write hl D c f 1 1 (some ⟨D, 0, none⟩) [(A, k, d, x)] rfl hps (mem1 hp) (by rw [pput_cat1]; exact hb)
  rwa [pput_cat1] at this
theorem OutAt.write2 {w wx : World} {p : PropP} {v0 v1 v2 v3 v4 : Value} {g : Nat} {L : List UInt8} (h : OutAt w p v0 v1 v2 v3 v4 g L wx) (hl : L.length ≤ 900000) (C : Int) (D c f d k e q : Nat) (A B : Option Addr) (x y : List UInt8)
    (hps : ShowsG partC8 wx D (.slice (some ⟨D, 0, none⟩) 2 2) [(A, k, d, x), (B, q, e, y)]) (hp : Shows wx d (.slice A x.length k) x) (hq : Shows wx e (.slice B y.length q) y) (hb : x.length + y.length ≤ 900000) (hC : C = (c : Int)) :
    Calls Tryz.prog 116 #[.int .u64 C, .int .u64 f, .slice (some ⟨D, 0, none⟩) 2 2, .pointer (some ⟨g, 0, none⟩)] wx fun e w' => e = .returned (.tuple #[]) ∧ OutAt w p v0 v1 v2 v3 v4 g (L ++ partB c f (x ++ y)) w' := by
  subst hC
  have := h.write hl D c f 2 2 (some ⟨D, 0, none⟩) [(A, k, d, x), (B, q, e, y)] rfl hps (mem2 hp hq) (by rw [pput_cat2, List.length_append]; exact hb)
  rwa [pput_cat2] at this
theorem OutAt.cells {w wx : World} {p : PropP} {v0 v1 v2 v3 v4 : Value} {g : Nat} {L : List UInt8} (h : OutAt w p v0 v1 v2 v3 v4 g L wx) : (wx.cell? ⟨w.heap.size, 0, none⟩ = some (.string p.key) ∧ wx.cell? ⟨w.heap.size, 1, none⟩ = some (.bool p.dur) ∧ wx.cell? ⟨w.heap.size, 2, none⟩ = some (.bool p.red) ∧ wx.cell? ⟨w.heap.size, 3, none⟩ = some (.string p.id)) ∧
    (wx.cell? ⟨w.heap.size, 4, none⟩ = some v0 ∧ wx.cell? ⟨w.heap.size, 5, none⟩ = some v1 ∧ wx.cell? ⟨w.heap.size, 6, none⟩ = some v2 ∧ wx.cell? ⟨w.heap.size, 7, none⟩ = some v3 ∧ wx.cell? ⟨w.heap.size, 8, none⟩ = some v4) := h.box.cells

set_option maxRecDepth 100000 in
set_option maxHeartbeats 4000000 in
theorem pput_ok (p : PropP) (v0 v1 v2 v3 v4 : Value) (w : World) (h : ShowsP w p v0 v1 v2 v3 v4) (hc : cntT p.app ≤ 1000000) (hv : validPr p) :
    Calls Tryz.prog 93 #[propV p v0 v1 v2 v3 v4] w fun e w' => e = .returned (.tuple #[.string (str8 (encPr p)), .int .i64 0]) ∧ Below w.heap.size w w' := by
  obtain ⟨k0, n0, s0, a3, n3, c3', a4, n4, c4', hvs⟩ := h.app.cells5
  simp only [List.cons.injEq, and_true] at hvs
  obtain ⟨rfl, rfl, rfl, rfl, rfl⟩ := hvs
  have HC := Lib.hid (fun w' (hb : Below w.heap.size w w') => pcheck_any p _ _ _ _ _ w' (h.kept hb (Nat.le_refl _)) hc)
  rw [errP_ok hv] at HC
  simp only [Int.cast_ofNat_Int] at HC
  have hb0 := below_boxV w (Obj.cells #[.string p.key, .bool p.dur, .bool p.red, .string p.id, .int .u8 k0, .int .u64 n0, .string s0, .slice a3 n3 c3', .slice a4 n4 c4'] 33)
  have hX := BoxPr.new (p := p) (v0 := .int .u8 k0) (v1 := .int .u64 n0) (v2 := .string s0) (v3 := .slice a3 n3 c3') (v4 := .slice a4 n4 c4') w
  obtain ⟨⟨x0, x1, x2, x3⟩, x4, x5, x6, x7, x8⟩ := hX.cells
  have HFF := Lib.hid (fun w' => firstFlags_any p (.int .u8 k0) (.int .u64 n0) (.string s0) (.slice a3 n3 c3') (.slice a4 n4 c4') w')
  have HSF := Lib.hid (fun w' (hb : Below w.heap.size w w') => secondFlags_any p (.int .u8 k0) (.int .u64 n0) (.string s0) (.slice a3 n3 c3') (.slice a4 n4 c4') w' (h.app.kept hb (Nat.le_refl _)))
  have HTK := Lib.hid (fun w' => ptext_any p.key w' hv.1)
  have HTI := Lib.hid (fun w' => ptext_any p.id w' hv.2.1)
  have HVA := Lib.hid (fun w' (hb : Below w.heap.size w w') => pvalues_any p.app _ w' (h.app.kept hb (Nat.le_refl _)) hv.2.2)
  have l1 := txtF_len _ hv.1
  have l2 := txtF_len _ hv.2.1
  have l3 := appF_len hv.2.2
  have HL := Lib.hid (enc_len hv)
  have hencE : encPr p = partB 1025 (fA p) (txtF p.key) ++ (if fB p = 0 then [] else partB 1027 (fB p) (txtF p.id ++ appF p.app)) := rfl
  rw [hencE] at HL ⊢
  have HB := Lib.hid (And.intro hb0 hX)
  have hmf : ∀ (fn : Fn) (first cap : Array Value) (w : World), (Instr.makeFunc fn first cap).run Tryz.prog w = .ok (.func fn first cap) w := fun _ _ _ _ => rfl
  unfold propV at *
  have hfb := fB_lt p
  have hpl := partB_len 1025 (fA p) (txtF p.key)
  generalize fA p = F1 at *
  generalize fB p = F2 at *
  generalize txtF p.key = X1 at *
  generalize txtF p.id = X2 at *
  generalize appF p.app = X3 at *
  obtain ⟨P1, hP1⟩ : ∃ P1, P1 = partB 1025 F1 X1 := ⟨_, rfl⟩
  rw [← hP1] at HL hpl ⊢
  have hpl2 : P1.length ≤ 900000 := by omega
  clear hpl
  have HP1 := Lib.hid hP1
  obtain ⟨RR, hRR⟩ : ∃ RR, RR = str8 (P1 ++ (if F2 = 0 then [] else partB 1027 F2 (X2 ++ X3))) := ⟨_, rfl⟩
  rw [← hRR]
  have HRR := Lib.hid hRR
  clear hRR
  clear hb0 hX h hc hv hencE hP1
  go_enter Tryz.func93, Tryz.ntmps93
  go_wp2_with fail
  refine (HC.out _ HB.out.1).mono ?_
  rintro e w1 ⟨rfl, hb1⟩
  have hO0 : OutAt w p (.int .u8 k0) (.int .u64 n0) (.string s0) (.slice a3 n3 c3') (.slice a4 n4 c4') w1.heap.size [] (w1.alloc (Obj.cells #[.slice none 0 0] 133)) :=
    ⟨(HB.out.1.trans (hb1.mono HB.out.1.size)).alloc (by have := hb1.size; simp at this; omega) _, (HB.out.2.kept hb1 (Nat.le_refl _)).kept (below_boxV _ _) (Nat.le_refl _), by have := hb1.size; simp at this; omega, none, 0, w1.heap.size + 1, heap_alloc_new w1 _, Shows.nil_ _ _, fun h => absurd h (by simp)⟩
  have hOd := hO0.drew
  obtain ⟨⟨x0, x1, x2, x3⟩, x4, x5, x6, x7, x8⟩ := hO0.cells
  have HO0 := Lib.hid hO0
  clear hO0
  go_upto_region 6 with fail
  generalize w1.heap.size = g at *
  go_cut [] from 14 to 22 (fun wx => OutAt w p (.int .u8 k0) (.int .u64 n0) (.string s0) (.slice a3 n3 c3') (.slice a4 n4 c4') g P1 wx)
  case first =>
    go_region_held3 (fun w' => (w'.cell? ⟨w.heap.size, 0, none⟩ = some (.string p.key) ∧ w'.cell? ⟨w.heap.size, 1, none⟩ = some (.bool p.dur) ∧ w'.cell? ⟨w.heap.size, 2, none⟩ = some (.bool p.red) ∧ w'.cell? ⟨w.heap.size, 3, none⟩ = some (.string p.id)) ∧
        (w'.cell? ⟨w.heap.size, 4, none⟩ = some (.int .u8 k0) ∧ w'.cell? ⟨w.heap.size, 5, none⟩ = some (.int .u64 n0) ∧ w'.cell? ⟨w.heap.size, 6, none⟩ = some (.string s0) ∧ w'.cell? ⟨w.heap.size, 7, none⟩ = some (.slice a3 n3 c3') ∧ w'.cell? ⟨w.heap.size, 8, none⟩ = some (.slice a4 n4 c4')))
      (first | exact OutAt.cells (by assumption) | exact OutAt.cells (OutAt.alloc (by assumption) _))
      (first
        | (go_at_call 120
           with_reducible refine (HFF.out _).mono ?_
           rintro eF wF ⟨rfl, hkF⟩
           have hOF := OutAt.kept (by first | assumption | exact OutAt.alloc (by assumption) _) hkF)
        | (go_at_call 121
           with_reducible refine (HTK.out _).mono ?_
           rintro eT wT ⟨vT, rfl, hoT, hkT⟩
           obtain ⟨gT, _, hsT⟩ := hoT.shows
           obtain ⟨AT, cT, rfl, _, _⟩ := hoT.form
           have hOT := OutAt.kept (by first | assumption | exact OutAt.alloc (by assumption) _) hkT
           clear hoT)
        | (go_at_call 116
           with_reducible refine (OutAt.write1 (OutAt.alloc hOT _) (by simp) 1025 wT.heap.size 1025 F1 gT cT AT X1 (row1 wT AT cT gT X1) (shows_far hsT (below_boxV _ _)) (by omega) rfl).mono ?_
           rintro eW wW ⟨rfl, hOW⟩)
        | (go_at_call 116
           with_reducible refine (OutAt.write1 (OutAt.alloc hOF _) (by simp) 1025 wF.heap.size 1025 F1 gT cT AT X1 (row1 wF AT cT gT X1) (shows_far (shows_far hsT hkF) (below_boxV _ _)) (by omega) rfl).mono ?_
           rintro eW wW ⟨rfl, hOW⟩)
        | (go_at_call 116
           with_reducible refine (OutAt.write1 hOF (by simp) 1025 wT.heap.size 1025 F1 gT cT AT X1 ((row1 wT AT cT gT X1).below' hkF (Nat.le_refl _)) (shows_far (shows_far hsT (below_boxV _ _)) hkF) (by omega) rfl).mono ?_
           rintro eW wW ⟨rfl, hOW⟩))
    all_goals
      go_wp2_with fail
      go_meet
      rw [HP1.out]
      exact hOW
  case rest =>
    obtain ⟨⟨x0, x1, x2, x3⟩, x4, x5, x6, x7, x8⟩ := hcut.cells
    have HS1 := Lib.hid (HSF.out _ hcut.bel)
    have HC1 := Lib.hid hcut
    clear hcut hOd
    by_cases hz : F2 = 0
    · have t1 : ((F2 : Int) != 0) = false := by simp; omega
      have HZ := Lib.hid hz
      clear hz
      go_wp2_with fail
      with_reducible refine HS1.out.mono ?_
      rintro e w3 ⟨rfl, hb3⟩
      have hO3 := HC1.out.kept hb3
      obtain ⟨A3, c3, d3, g1, g2, g3⟩ := hO3.cell
      have hgc : w3.cell? ⟨g, 0, none⟩ = some (.slice A3 P1.length c3) := cell_of_row w3 g 0 _ 133 (0, 0) g1
      have hcv := conv_at g2
      have HO3 := Lib.hid hO3.bel
      clear hO3 g1 g2 x0 x1 x2 x3 x4 x5 x6 x7 x8
      go_wp2_with fail
      go_ret2
      exact ⟨by rw [HRR.out, if_pos HZ.out, List.append_nil]; rfl, HO3.out⟩
    · have t1 : ((F2 : Int) != 0) = true := by simp; omega
      have HZ := Lib.hid hz
      clear hz
      go_wp2_with fail
      with_reducible refine HS1.out.mono ?_
      rintro e w3 ⟨rfl, hb3⟩
      have hO3 := HC1.out.kept hb3
      obtain ⟨⟨x0, x1, x2, x3⟩, x4, x5, x6, x7, x8⟩ := hO3.cells
      have hO3d := hO3.drew
      have HVB := Lib.hid (fun wx (ho : OutAt w p (.int .u8 k0) (.int .u64 n0) (.string s0) (.slice a3 n3 c3') (.slice a4 n4 c4') g P1 wx) => HVA.out wx ho.bel)
      clear hO3
      go_upto_region 9 with fail
      go_cut [] from 26 to 36 (fun wx => OutAt w p (.int .u8 k0) (.int .u64 n0) (.string s0) (.slice a3 n3 c3') (.slice a4 n4 c4') g (P1 ++ partB 1027 F2 (X2 ++ X3)) wx)
      case first =>
        go_region_held3 (fun w' => (w'.cell? ⟨w.heap.size, 0, none⟩ = some (.string p.key) ∧ w'.cell? ⟨w.heap.size, 1, none⟩ = some (.bool p.dur) ∧ w'.cell? ⟨w.heap.size, 2, none⟩ = some (.bool p.red) ∧ w'.cell? ⟨w.heap.size, 3, none⟩ = some (.string p.id)) ∧
            (w'.cell? ⟨w.heap.size, 4, none⟩ = some (.int .u8 k0) ∧ w'.cell? ⟨w.heap.size, 5, none⟩ = some (.int .u64 n0) ∧ w'.cell? ⟨w.heap.size, 6, none⟩ = some (.string s0) ∧ w'.cell? ⟨w.heap.size, 7, none⟩ = some (.slice a3 n3 c3') ∧ w'.cell? ⟨w.heap.size, 8, none⟩ = some (.slice a4 n4 c4')))
          (first | exact OutAt.cells (by assumption) | exact OutAt.cells (OutAt.alloc (by assumption) _))
          (first
            | (go_at_call 123
               with_reducible refine (HVB.out _ (by assumption)).mono ?_
               rintro eF wF ⟨vF, rfl, hoF, hkF⟩
               obtain ⟨gF, _, hsF⟩ := hoF.shows
               obtain ⟨AF, cF, rfl, _, _⟩ := hoF.form
               have hOF := OutAt.kept (by assumption) hkF
               clear hoF)
            | (go_at_call 121
               with_reducible refine (HTI.out _).mono ?_
               rintro eT wT ⟨vT, rfl, hoT, hkT⟩
               obtain ⟨gT, _, hsT⟩ := hoT.shows
               obtain ⟨AT, cT, rfl, _, _⟩ := hoT.form
               have hOT := OutAt.kept (by assumption) hkT
               clear hoT)
            | (go_at_call 116
               with_reducible refine (OutAt.write2 (OutAt.alloc hOT _) (by omega) 1027 wT.heap.size 1027 F2 gT cT gF cF AT AF X2 X3 (row2 wT AT AF cT gT cF gF X2 X3) (shows_far hsT (below_boxV _ _)) (shows_far (shows_far hsF hkT) (below_boxV _ _)) (by omega) rfl).mono ?_
               rintro eW wW ⟨rfl, hOW⟩)
            | (go_at_call 116
               with_reducible refine (OutAt.write2 (OutAt.alloc hOF _) (by omega) 1027 wF.heap.size 1027 F2 gT cT gF cF AT AF X2 X3 (row2 wF AT AF cT gT cF gF X2 X3) (shows_far (shows_far hsT hkF) (below_boxV _ _)) (shows_far hsF (below_boxV _ _)) (by omega) rfl).mono ?_
               rintro eW wW ⟨rfl, hOW⟩))
        all_goals
          go_wp2_with fail
          go_meet
          exact hOW
      case rest =>
        obtain ⟨A3, c3, d3, g1, g2, g3⟩ := hcut.cell
        have hgc : wc.cell? ⟨g, 0, none⟩ = some (.slice A3 (P1 ++ partB 1027 F2 (X2 ++ X3)).length c3) := cell_of_row wc g 0 _ 133 (0, 0) g1
        have hcv := conv_at g2
        have HO3 := Lib.hid hcut.bel
        have HEQ : Hid (RR = str8 (P1 ++ partB 1027 F2 (X2 ++ X3))) := Lib.hid (by rw [HRR.out, if_neg HZ.out])
        clear hcut g1 g2 g3 x0 x1 x2 x3 x4 x5 x6 x7 x8
        generalize P1 ++ partB 1027 F2 (X2 ++ X3) = PP at *
        go_wp2_with fail
        go_ret2
        exact ⟨by rw [HEQ.out]; rfl, HO3.out⟩

end Go.Proofs.YtpmafabphlejeaaGreat
