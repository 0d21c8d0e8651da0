/-
  The contracts of the reader's two methods of package value, value and elements.
  Conditions: at most 880000 bytes are left, at most 200 values.
-/
import Derived.Test.YtnafibnhmhbfiaaValG
import Derived.Test.YtnafibnhmhbfiaaRefRd
import Derived.Deep.RegionWith
import Derived.Deep.CutBlock
import Derived.StillTailTactics
import Derived.Deep.CutRange
import Derived.Deep.DeepCutAuto
import Derived.Laws.ResultCell
namespace Go.Proofs.Ytnafibnhmhbfiaa
open Go.RowKit
set_option linter.unusedVariables false
set_option linter.unusedSimpArgs false

/-- Block b is the reader of values; its reader of bytes lies in block g, the bytes in block d. -/
structure VR (w : World) (b g d m : Nat) (s : St) : Prop where
  box : w.heap[b]? = some (.cells #[.pointer (some ⟨g, 0, none⟩), .int .i64 m] 84 (0, 0))
  rs : RS w g d s
  bg : b ≠ g
  bd : b ≠ d
  dg : d ≤ g
theorem VR.lt {w : World} {b g d m : Nat} {s : St} (h : VR w b g d m s) : b < w.heap.size := (Array.getElem?_eq_some_iff.1 h.box).1
theorem VR.c0 {w : World} {b g d m : Nat} {s : St} (h : VR w b g d m s) : w.cell? ⟨b, 0, none⟩ = some (.pointer (some ⟨g, 0, none⟩)) := by rw [cell_of_row w b 0 _ 84 (0, 0) h.box]; rfl
theorem VR.c1 {w : World} {b g d m : Nat} {s : St} (h : VR w b g d m s) : w.cell? ⟨b, 1, none⟩ = some (.int .i64 m) := by rw [cell_of_row w b 1 _ 84 (0, 0) h.box]; rfl
theorem VR.keep {w w' : World} {b g d m : Nat} {s : St} (h : VR w b g d m s) (hb : Below w.heap.size w w') : VR w' b g d m s :=
  ⟨(hb.block b h.lt).trans h.box, h.rs.keep hb.size (hb.block g h.rs.lt) (fun hd => hb.block d hd), h.bg, h.bd, h.dg⟩
/-- The reader of bytes has gone on. -/
theorem VR.read {w w' : World} {b g d m : Nat} {s s' : St} (h : VR w b g d m s) (hr : RS w' g d s') (hg : w.grownBy w' (some g)) : VR w' b g d m s' :=
  ⟨(hg.block b h.lt (fun e => h.bg (Option.some.inj e))).trans h.box, hr, h.bg, h.bd, h.dg⟩
/-- One value less. -/
theorem VR.less {w : World} {b g d m : Nat} {s : St} (h : VR w b g d m s) (m' : Nat) (u : Value) (hu : u = .int .i64 m') : VR (w.setCell ⟨b, 1, none⟩ u) b g d m' s := by
  subst hu
  refine ⟨?_, ?_, h.bg, h.bd, h.dg⟩
  · exact heap_setCell_same _ b 1 _ 84 (.int .i64 m') h.box
  · exact h.rs.keep (by simp) (Below.heap_setCell _ _ _ _ (Ne.symm h.bg)) (fun _ => Below.heap_setCell _ _ _ _ (Ne.symm h.bd))
theorem Frm2.less (b g : Nat) (w : World) (i : Nat) (u : Value) : Frm2 b g w (w.setCell ⟨b, i, none⟩ u) :=
  ⟨rfl, rfl, rfl, by simp, fun k _ h1 _ => Below.heap_setCell _ _ _ _ h1⟩

theorem VR.setOther {w : World} {b g d m : Nat} {s : St} (h : VR w b g d m s) (p i : Nat) (u : Value) (hp : b ≠ p) (hg : g < p) : VR (w.setCell ⟨p, i, none⟩ u) b g d m s := by
  have hdg := h.dg
  exact ⟨(Below.heap_setCell _ _ _ _ hp).trans h.box, h.rs.keep (by simp) (Below.heap_setCell _ _ _ _ (by show g ≠ p; omega)) (fun hd => Below.heap_setCell _ _ _ _ (by show d ≠ p; omega)), h.bg, h.bd, h.dg⟩
theorem VR.drew {w : World} {b g d m : Nat} {s : St} (h : VR w b g d m s) : VR w.drew b g d m s := ⟨h.box, h.rs.keep (Nat.le_refl _) rfl (fun _ => rfl), h.bg, h.bd, h.dg⟩
theorem Frm2.drew {b g : Nat} {a w : World} (h : Frm2 b g a w) : Frm2 b g a w.drew := ⟨h.os, h.tape, h.output, h.size, h.block⟩
/-- What reading a value says. -/
def ValSaid (b g d : Nat) (w : World) (r : Option (Tree × Nat × St)) (e : Ending) (w' : World) : Prop :=
  Frm2 b g w w' ∧ match r with
    | none => e = .panicked refu
    | some (t, m', s') => ∃ vs, e = .returned (.agg vs.toArray) ∧ ShowsT (lowm w.heap.size w') t vs ∧ VR w' b g d m' s'
def ItemsSaid (b g d k : Nat) (w : World) (r : Option (Tree × Nat × St)) (e : Ending) (w' : World) : Prop :=
  Frm2 b g w w' ∧ match r with
    | none => e = .panicked refu ∨ ∃ a3 n3 c3 a4 n4 c4 m', e = .returned (.tuple #[.slice a3 n3 c3, .slice a4 n4 c4]) ∧ VR w' b g d m' none
    | some (t, m', s') => ∃ a3 n3 c3 a4 n4 c4 ks l, t = .node k 0 ⟨#[]⟩ ks l ∧ s' ≠ none ∧ e = .returned (.tuple #[.slice a3 n3 c3, .slice a4 n4 c4]) ∧ ShowsT (lowm w.heap.size w') t [.int .u8 k, .int .u64 (0 : Nat), .string ⟨#[]⟩, .slice a3 n3 c3, .slice a4 n4 c4] ∧ VR w' b g d m' s'

theorem takeS_fst_le (n : Int) (s : St) : (takeS n s).1.length ≤ lenS s := by
  cases s with
  | none => simp [takeS]
  | some l => simp only [takeS]; split <;> simp [lenS] <;> omega
theorem textT_fst_le (most : Int) (p : Nat × St) : (textT most p).1.length ≤ lenS p.2 := by
  unfold textT
  split
  · exact Nat.zero_le _
  · exact takeS_fst_le _ _
theorem textS_fst_le (q most : Int) (s : St) : (textS q most s).1.length ≤ lenS s := Nat.le_trans (textT_fst_le _ _) (numS_lenS _ _)

theorem numS1_lt (s : St) : (numS 1 s).1 < 256 := by
  unfold numS
  rw [if_pos (by decide)]
  have h1 := numOf_lt (takeS 1 s).1
  have h2 := takeS_len 1 s
  have h3 : (takeS 1 s).1.length ≤ 1 := by omega
  exact Nat.lt_of_lt_of_le h1 (Nat.le_trans (Nat.pow_le_pow_right (by omega) h3) (by decide))

set_option maxRecDepth 100000 in
set_option maxHeartbeats 4000000 in
theorem value_any (f : Nat) (b g d m : Nat) (s : St) (w : World) (hR : VR w b g d m s) (hm : m ≤ 200) (hs : lenS s ≤ 880000)
    (hi : ∀ m1 s1 w1 k, m = m1 + 1 → (layD k).list = true → lenS s1 ≤ 880000 → k < 256 → VR w1 b g d m1 s1 → Calls Try.prog 78 #[.pointer (some ⟨b, 0, none⟩), .agg (layD k).cells] w1 (ItemsSaid b g d k w1 (listP (valP f) k (layD k).keys m1 s1))) :
    Calls Try.prog 49 #[.pointer (some ⟨b, 0, none⟩)] w (ValSaid b g d w (valP (f + 1) m s)) := by
  have hblt := hR.lt
  have hglt := hR.rs.lt
  cases m with
  | zero =>
    show Calls Try.prog 49 _ w (ValSaid b g d w none)
    unfold ValSaid
    have c1 := hR.c1
    have hbW : Below w.heap.size w (w.alloc (Obj.cells #[.int .u8 0, .int .u64 0, .string ⟨#[]⟩, .slice none 0 0, .slice none 0 0] 27)) := below_boxV _ _
    have c1' : ∀ o, (w.alloc o).cell? ⟨b, 1, none⟩ = some (.int .i64 0) := fun o => by rw [World.cell?_alloc_lt _ _ _ hblt]; exact c1
    go_enter Try.func49, Try.ntmps49
    go_wp2_with fail
    refine (must_no _).mono ?_
    rintro e w1 ⟨rfl, rfl⟩
    exact ⟨rfl, Frm2.of_below hbW, rfl⟩
  | succ m =>
    obtain ⟨W0, hW0⟩ : ∃ W0, W0 = w.alloc (Obj.cells #[.int .u8 0, .int .u64 0, .string ⟨#[]⟩, .slice none 0 0, .slice none 0 0] 27) := ⟨_, rfl⟩
    have hb0 : Below w.heap.size w W0 := by rw [hW0]; exact below_boxV _ _
    have hR0 := hR.keep hb0
    have hX0 : BoxV W0 w.heap.size (.int .u8 0) (.int .u64 0) (.string ⟨#[]⟩) (.slice none 0 0) (.slice none 0 0) := by rw [hW0]; exact BoxV.new w
    have hs0 : W0.heap.size = w.heap.size + 1 := by rw [hW0]; simp
    have c1' : ∀ o, (w.alloc o).cell? ⟨b, 1, none⟩ = some (.int .i64 ((m + 1 : Nat) : Int)) := fun o => by rw [World.cell?_alloc_lt _ _ _ hblt]; exact hR.c1
    obtain ⟨N, hN⟩ : ∃ N, N = m + 1 := ⟨_, rfl⟩
    rw [← hN] at c1' hR0 hm
    have hN0 : (0 : Int) < (N : Int) := by omega
    have hN1 : 0 < N := by omega
    have hNm : (N : Int) - 1 = (m : Int) := by omega
    have hNb : (N : Int) ≤ 200 := by omega
    have HNm := Lib.hid hNm
    have c1 := hR0.c1
    have c0 := hR0.c0
    have fz1 : W0.frozen? ⟨b, 1, none⟩ = false := frozen_of_row W0 b 1 _ 84 hR0.box
    obtain ⟨r, hr⟩ : ∃ r, r = valP (f + 1) (m + 1) s := ⟨_, rfl⟩
    rw [← hr]
    have HR := Lib.hid hr
    have HI := Lib.hid hi
    have HX0 := Lib.hid hX0
    have HB0 := Lib.hid hb0
    have HR0 := Lib.hid hR0
    clear hr hi hX0 hb0 hR0 hR hNm hN
    go_enter Try.func49, Try.ntmps49
    go_wp2_with fail
    refine (must_yes _).mono ?_
    rintro e w1 ⟨rfl, rfl⟩
    rw [← hW0]
    have HW0 := Lib.hid hW0
    clear c1' hW0
    go_upto_region 3 with fail
    obtain ⟨W1, hW1⟩ : ∃ W1, W1 = W0.setCell ⟨b, 1, none⟩ (.int .i64 ((N : Int) - 1)) := ⟨_, rfl⟩
    have hR1 : VR W1 b g d m s := by rw [hW1]; exact HR0.out.less m _ (by rw [HNm.out])
    have hs1 : W1.heap.size = W0.heap.size := by rw [hW1]; simp
    have hF1 : Frm2 b g w W1 := by rw [hW1]; exact (Frm2.of_below HB0.out).trans (Frm2.less b g W0 1 _)
    have hX1 : BoxV W1 w.heap.size (.int .u8 0) (.int .u64 0) (.string ⟨#[]⟩) (.slice none 0 0) (.slice none 0 0) := by
      rw [hW1]
      exact (Below.heap_setCell _ _ _ _ (by show w.heap.size ≠ b; omega)).trans HX0.out
    have hk := numS1_lt s
    have hnum := num_any g d s 1 W1 hR1.rs (by omega)
    have hs1l : lenS (numS 1 s).2 ≤ 880000 := Nat.le_trans (numS_lenS 1 s) hs
    rw [← hW1]
    have c0 := hR1.c0
    have HNU := Lib.hid hnum
    have HR1 := Lib.hid hR1
    have HX1 := Lib.hid hX1
    have hval : valP (f + 1) (m + 1) s = if 0 < (layD (numS 1 s).1).num then finP (.node (numS 1 s).1 (numS (layD (numS 1 s).1).num (numS 1 s).2).1 ⟨#[]⟩ [] []) m (numS (layD (numS 1 s).1).num (numS 1 s).2).2
      else if 0 < (layD (numS 1 s).1).text then finP (.node (numS 1 s).1 0 (str8 (textS (layD (numS 1 s).1).text (layD (numS 1 s).1).bytes (numS 1 s).2).1) [] []) m (textS (layD (numS 1 s).1).text (layD (numS 1 s).1).bytes (numS 1 s).2).2
      else if (layD (numS 1 s).1).list = true then listP (valP f) (numS 1 s).1 (layD (numS 1 s).1).keys m (numS 1 s).2
      else finP (.node (numS 1 s).1 0 ⟨#[]⟩ [] []) m (numS 1 s).2 := rfl
    rw [hval] at HR
    clear hW1 hnum hR1 hX1 hval HR0 HX0 HB0 HW0 c1 fz1
    generalize (numS 1 s).2 = s1 at *
    generalize (numS 1 s).1 = k at *
    have HL := Lib.hid (fun w => layoutOf_any k w)
    have hk8 : IntKind.u8.wrap (k : Int) = (k : Int) := by rw [IntKind.wrap_u8]; omega
    have hlc8 := lay_cases k
    have HI1 := Lib.hid (fun w1 (hl : (layD k).list = true) hv => HI.out m s1 w1 k rfl hl hs1l hk hv)
    clear HI
    generalize hy : layD k = y at *
    obtain ⟨yn, ym, yt, yb, yl, yk⟩ := y
    simp only [Lay.cells] at HL HI1 HR
    go_wp2_with fail
    refine HNU.out.mono ?_
    rintro e w2 ⟨rfl, hr2, hg2⟩
    have hR2 := HR1.out.read hr2 hg2
    have hF2 := hF1.trans (Frm2.of_grown hg2)
    have hX2 : BoxV w2 w.heap.size (.int .u8 0) (.int .u64 0) (.string ⟨#[]⟩) (.slice none 0 0) (.slice none 0 0) := (hg2.block _ HX1.out.lt (fun e => by have := Option.some.inj e; omega)).trans HX1.out
    have hs2 := hX2.lt
    clear hr2 hg2 HNU HR1 HX1 hF1 c0
    go_wp2_with fail
    refine (HL.out _).mono ?_
    rintro e w3 ⟨rfl, hb3⟩
    have hbV : Below w2.heap.size w2 (w2.alloc (Obj.cells #[.int .u8 k, .int .u64 0, .string ⟨#[]⟩, .slice none 0 0, .slice none 0 0] 27)) := below_boxV _ _
    have hVV := BoxV.new (v0 := .int .u8 k) (v1 := .int .u64 0) (v2 := .string ⟨#[]⟩) (v3 := .slice none 0 0) (v4 := .slice none 0 0) w2
    have hsV : (w2.alloc (Obj.cells #[.int .u8 k, .int .u64 0, .string ⟨#[]⟩, .slice none 0 0, .slice none 0 0] 27)).heap.size = w2.heap.size + 1 := by simp
    have hV3 := hVV.kept hb3 (Nat.le_refl _)
    have hB3 : Below w2.heap.size w2 w3 := hbV.trans (hb3.mono hbV.size)
    have hs3 := hV3.lt
    obtain ⟨W4, hW4⟩ : ∃ W4, W4 = w3.alloc (Obj.cells #[.int .i64 yn, .int .u64 ym, .int .i64 yt, .int .i64 yb, .bool yl, .bool yk] 115) := ⟨_, rfl⟩
    have hb4 : Below w3.heap.size w3 W4 := by rw [hW4]; exact (Below.refl _ _).alloc (Nat.le_refl _) _
    have hB4 : Below w2.heap.size w2 W4 := hB3.trans (hb4.mono hB3.size)
    have hR4 := hR2.keep hB4
    have hF4 := hF2.trans (Frm2.of_below (b := b) (g := g) hB4)
    have hX4 := hX2.kept hB4 (Nat.le_refl _)
    have hV4 := hV3.kept hb4 (Nat.le_refl _)
    have hL4 : W4.heap[w3.heap.size]? = some (.cells #[.int .i64 yn, .int .u64 ym, .int .i64 yt, .int .i64 yb, .bool yl, .bool yk] 115 (0, 0)) := by rw [hW4]; exact heap_alloc_new _ _
    have hcellW : ∀ (W' : World), W'.heap[w3.heap.size]? = some (.cells #[.int .i64 yn, .int .u64 ym, .int .i64 yt, .int .i64 yb, .bool yl, .bool yk] 115 (0, 0)) → ∀ i, W'.cell? ⟨w3.heap.size, i, none⟩ = (#[Value.int .i64 yn, .int .u64 ym, .int .i64 yt, .int .i64 yb, .bool yl, .bool yk] : Array Value)[i]? := fun W' h' i => by rw [cell_of_row W' _ i _ 115 (0, 0) h']
    have y0 : W4.cell? ⟨w3.heap.size, 0, none⟩ = some (.int .i64 yn) := hcellW W4 hL4 0
    have y1 : W4.cell? ⟨w3.heap.size, 1, none⟩ = some (.int .u64 ym) := hcellW W4 hL4 1
    have y2 : W4.cell? ⟨w3.heap.size, 2, none⟩ = some (.int .i64 yt) := hcellW W4 hL4 2
    have y3 : W4.cell? ⟨w3.heap.size, 3, none⟩ = some (.int .i64 yb) := hcellW W4 hL4 3
    have y4 : W4.cell? ⟨w3.heap.size, 4, none⟩ = some (.bool yl) := hcellW W4 hL4 4
    have y5 : W4.cell? ⟨w3.heap.size, 5, none⟩ = some (.bool yk) := hcellW W4 hL4 5
    have hs4 : w3.heap.size < W4.heap.size := (Array.getElem?_eq_some_iff.1 hL4).1
    go_upto_block 0 with fail
    rw [← hW4]
    clear hb3 hbV hVV hsV hV3 hcellW hW4 hb4 hB3 hR2 hF2 hX2 hB4
    have c0 := hR4.c0
    have v0 := hV4.c0
    go_cut [2, 3] from 26 to 68 (fun s2 s3 wx => s2 = .pointer (some ⟨w.heap.size, 0, none⟩) ∧ s3 = .pointer (some ⟨w2.heap.size, 0, none⟩) ∧ Frm2 b g w wx ∧ BoxV wx w.heap.size (.int .u8 0) (.int .u64 0) (.string ⟨#[]⟩) (.slice none 0 0) (.slice none 0 0) ∧
      ∃ (n m' : Nat) (str : ByteArray) (a3 a4 : Option Addr) (n3 c3 n4 c4 : Nat) (ks : List ByteArray) (l : List Tree) (s' : St), VR wx b g d m' s' ∧ BoxV wx w2.heap.size (.int .u8 k) (.int .u64 n) (.string str) (.slice a3 n3 c3) (.slice a4 n4 c4) ∧
        Hid ((s' ≠ none → ShowsT (lowm (w.heap.size + 1) wx) (.node k n str ks l) [.int .u8 k, .int .u64 n, .string str, .slice a3 n3 c3, .slice a4 n4 c4]) ∧ r = finP (.node k n str ks l) m' s'))
    case rest =>
      obtain ⟨rfl, rfl, hFc, hXc, n, m', str, a3, a4, n3, c3, n4, c4, ks, l, s', hRc, hVc, HSH⟩ := hcut
      have c0 := hRc.c0
      have e0 := hVc.c0
      have e1 := hVc.c1
      have e2 := hVc.c2
      have e3 := hVc.c3
      have e4 := hVc.c4
      cases s' with
      | none =>
        obtain ⟨lx, hlx⟩ := hRc.rs
        have HB := Lib.hid (fun w (h : Rdr w g d lx false) => bad_yes g d lx w h)
        have hrn : r = none := by rw [HSH.out.2]; rfl
        subst hrn
        go_wp2_with fail
        refine (HB.out _ hlx).mono ?_
        rintro e w5 ⟨rfl, rfl⟩
        go_wp2_with fail
        refine (must_no _).mono ?_
        rintro e w5 ⟨rfl, rfl⟩
        exact ⟨rfl, hFc, rfl⟩
      | some lx =>
        have HB := Lib.hid (fun w (h : Rdr w g d lx true) => bad_no g d lx w h)
        go_wp2_with fail
        refine (HB.out _ hRc.rs).mono ?_
        rintro e w5 ⟨rfl, rfl⟩
        go_wp2_with fail
        refine (must_yes _).mono ?_
        rintro e w5 ⟨rfl, rfl⟩
        have x0 := hXc.c0
        have x1 := hXc.c1
        have x2 := hXc.c2
        have x3 := hXc.c3
        have x4 := hXc.c4
        have fz : ∀ i, wc.frozen? ⟨w.heap.size, i, none⟩ = false := fun i => frozen_of_row wc w.heap.size i _ 27 hXc
        have r1 := heap_setCell_same _ w.heap.size 0 _ 27 (.int .u8 k) hXc
        have r2 := heap_setCell_same _ w.heap.size 1 _ 27 (.int .u64 n) r1
        have r3 := heap_setCell_same _ w.heap.size 2 _ 27 (.string str) r2
        have r4 := heap_setCell_same _ w.heap.size 3 _ 27 (.slice a3 n3 c3) r3
        have r5 := heap_setCell_same _ w.heap.size 4 _ 27 (.slice a4 n4 c4) r4
        have HR5 := Lib.hid r5
        have hSH := HSH.out.1 (by simp)
        have hrr : r = some (.node k n str ks l, m', some lx) := HSH.out.2
        subst hrr
        have hRf := ((((hRc.setOther w.heap.size 0 (.int .u8 k) (by omega) (by omega)).setOther w.heap.size 1 (.int .u64 n) (by omega) (by omega)).setOther w.heap.size 2 (.string str) (by omega) (by omega)).setOther w.heap.size 3 (.slice a3 n3 c3) (by omega) (by omega)).setOther w.heap.size 4 (.slice a4 n4 c4) (by omega) (by omega)
        have hFf := ((((hFc.set (Nat.le_refl _) 0 (.int .u8 k)).set (Nat.le_refl _) 1 (.int .u64 n)).set (Nat.le_refl _) 2 (.string str)).set (Nat.le_refl _) 3 (.slice a3 n3 c3)).set (Nat.le_refl _) 4 (.slice a4 n4 c4)
        have hSf := (((((hSH.sub (low_set (Nat.lt_succ_self _) 0 (.int .u8 k))).sub (low_set (Nat.lt_succ_self _) 1 (.int .u64 n))).sub (low_set (Nat.lt_succ_self _) 2 (.string str))).sub (low_set (Nat.lt_succ_self _) 3 (.slice a3 n3 c3))).sub (low_set (Nat.lt_succ_self _) 4 (.slice a4 n4 c4))).sub (low_anti (Nat.le_succ _))
        have HF := Lib.hid (And.intro hFf (And.intro hSf hRf))
        clear r1 r2 r3 r4 r5 hSH HSH hRf hFf hSf
        go_wp2_with fail
        exact bodyPost_ret (results_cell_row rfl _ _ w.heap.size 27 _ (0, 0) _ rfl HR5.out Try.underlying27 rfl (by kernel_rfl)) rfl ⟨HF.out.1, [.int .u8 k, .int .u64 n, .string str, .slice a3 n3 c3, .slice a4 n4 c4], rfl, HF.out.2.1, HF.out.2.2⟩
    case first =>
      have e1 := hV4.c1
      have e2 := hV4.c2
      have e3 := hV4.c3
      have e4 := hV4.c4
      have fz : ∀ i, W4.frozen? ⟨w2.heap.size, i, none⟩ = false := fun i => frozen_of_row W4 w2.heap.size i _ 27 hV4
      rcases hlc8 with e | e | e | e | e | e | e | e <;> obtain ⟨rfl, rfl, rfl, rfl, rfl, rfl⟩ := Lay.mk.inj e <;> clear e
      case inl =>
        have hR5 := hR4.drew
        have hF5 := hF4.drew
        have hX5 : BoxV W4.drew w.heap.size (.int .u8 0) (.int .u64 0) (.string ⟨#[]⟩) (.slice none 0 0) (.slice none 0 0) := hX4
        have hV5 : BoxV W4.drew w2.heap.size (.int .u8 k) (.int .u64 0) (.string ⟨#[]⟩) (.slice none 0 0) (.slice none 0 0) := hV4
        have hN5 := num_any g d s1 1 W4.drew hR5.rs (by omega)
        have HN5 := Lib.hid hN5
        have HSHOW := Lib.hid (fun w => (ShowsT.make (n := (numS 1 s1).1) (s := ⟨#[]⟩) (ks := []) (l := []) hk (numS_lt 1 s1) (ShowsG.nil_ _ _ 0) (by simp) (by simp) (Nat.zero_le _) (ListT.nil _) : ShowsT w _ _))
        clear hN5
        go_upto_region 6 with fail
        go_still_tail 6, (by kernel_rfl)
        change wpList _ _ _ _ _ W4.drew
        generalize W4.drew = W5 at *
        go_wp2_with fail
        refine HN5.out.mono ?_
        rintro e w6 ⟨rfl, hr6, hg6⟩
        have hR6 := hR5.read hr6 hg6
        have hX6 : BoxV w6 w.heap.size (.int .u8 0) (.int .u64 0) (.string ⟨#[]⟩) (.slice none 0 0) (.slice none 0 0) := (hg6.block _ hX5.lt (fun e => by have := Option.some.inj e; omega)).trans hX5
        have hV6 : BoxV w6 w2.heap.size (.int .u8 k) (.int .u64 0) (.string ⟨#[]⟩) (.slice none 0 0) (.slice none 0 0) := (hg6.block _ hV5.lt (fun e => by have := Option.some.inj e; omega)).trans hV5
        have hF6 := hF5.trans (Frm2.of_grown hg6)
        have g1 := hV6.c1
        have fz6 : ∀ i, w6.frozen? ⟨w2.heap.size, i, none⟩ = false := fun i => frozen_of_row w6 w2.heap.size i _ 27 hV6
        have HFIN := Lib.hid (And.intro hR6 (And.intro hX6 (And.intro hV6 hF6)))
        clear hR6 hX6 hV6 hF6 hr6 hg6
        go_wp2_with fail
        go_meet
        exact ⟨rfl, rfl, HFIN.out.2.2.2.set (by omega) 1 _, (Below.heap_setCell _ _ _ _ (by show w.heap.size ≠ w2.heap.size; omega)).trans HFIN.out.2.1,
          (numS 1 s1).1, m, ⟨#[]⟩, none, none, 0, 0, 0, 0, [], [], (numS 1 s1).2, HFIN.out.1.setOther _ _ _ (by omega) (by omega), heap_setCell_same _ w2.heap.size 1 _ 27 (.int .u64 (numS 1 s1).1) HFIN.out.2.2.1, Lib.hid ⟨fun _ => HSHOW.out _, by rw [HR.out, if_pos (by decide)]; rfl⟩⟩
      case inr.inl =>
        have hR5 := hR4.drew
        have hF5 := hF4.drew
        have hX5 : BoxV W4.drew w.heap.size (.int .u8 0) (.int .u64 0) (.string ⟨#[]⟩) (.slice none 0 0) (.slice none 0 0) := hX4
        have hV5 : BoxV W4.drew w2.heap.size (.int .u8 k) (.int .u64 0) (.string ⟨#[]⟩) (.slice none 0 0) (.slice none 0 0) := hV4
        have hN5 := num_any g d s1 1 W4.drew hR5.rs (by omega)
        have HN5 := Lib.hid hN5
        have HSHOW := Lib.hid (fun w => (ShowsT.make (n := (numS 1 s1).1) (s := ⟨#[]⟩) (ks := []) (l := []) hk (numS_lt 1 s1) (ShowsG.nil_ _ _ 0) (by simp) (by simp) (Nat.zero_le _) (ListT.nil _) : ShowsT w _ _))
        clear hN5
        go_upto_region 6 with fail
        go_still_tail 6, (by kernel_rfl)
        change wpList _ _ _ _ _ W4.drew
        generalize W4.drew = W5 at *
        go_wp2_with fail
        refine HN5.out.mono ?_
        rintro e w6 ⟨rfl, hr6, hg6⟩
        have hR6 := hR5.read hr6 hg6
        have hX6 : BoxV w6 w.heap.size (.int .u8 0) (.int .u64 0) (.string ⟨#[]⟩) (.slice none 0 0) (.slice none 0 0) := (hg6.block _ hX5.lt (fun e => by have := Option.some.inj e; omega)).trans hX5
        have hV6 : BoxV w6 w2.heap.size (.int .u8 k) (.int .u64 0) (.string ⟨#[]⟩) (.slice none 0 0) (.slice none 0 0) := (hg6.block _ hV5.lt (fun e => by have := Option.some.inj e; omega)).trans hV5
        have hF6 := hF5.trans (Frm2.of_grown hg6)
        have g1 := hV6.c1
        have fz6 : ∀ i, w6.frozen? ⟨w2.heap.size, i, none⟩ = false := fun i => frozen_of_row w6 w2.heap.size i _ 27 hV6
        have HFIN := Lib.hid (And.intro hR6 (And.intro hX6 (And.intro hV6 hF6)))
        clear hR6 hX6 hV6 hF6 hr6 hg6
        go_wp2_with fail
        go_meet
        exact ⟨rfl, rfl, HFIN.out.2.2.2.set (by omega) 1 _, (Below.heap_setCell _ _ _ _ (by show w.heap.size ≠ w2.heap.size; omega)).trans HFIN.out.2.1,
          (numS 1 s1).1, m, ⟨#[]⟩, none, none, 0, 0, 0, 0, [], [], (numS 1 s1).2, HFIN.out.1.setOther _ _ _ (by omega) (by omega), heap_setCell_same _ w2.heap.size 1 _ 27 (.int .u64 (numS 1 s1).1) HFIN.out.2.2.1, Lib.hid ⟨fun _ => HSHOW.out _, by rw [HR.out, if_pos (by decide)]; rfl⟩⟩
      case inr.inr.inl =>
        have hR5 := hR4.drew
        have hF5 := hF4.drew
        have hX5 : BoxV W4.drew w.heap.size (.int .u8 0) (.int .u64 0) (.string ⟨#[]⟩) (.slice none 0 0) (.slice none 0 0) := hX4
        have hV5 : BoxV W4.drew w2.heap.size (.int .u8 k) (.int .u64 0) (.string ⟨#[]⟩) (.slice none 0 0) (.slice none 0 0) := hV4
        have hN5 := num_any g d s1 8 W4.drew hR5.rs (by omega)
        have HN5 := Lib.hid hN5
        have HSHOW := Lib.hid (fun w => (ShowsT.make (n := (numS 8 s1).1) (s := ⟨#[]⟩) (ks := []) (l := []) hk (numS_lt 8 s1) (ShowsG.nil_ _ _ 0) (by simp) (by simp) (Nat.zero_le _) (ListT.nil _) : ShowsT w _ _))
        clear hN5
        go_upto_region 6 with fail
        go_still_tail 6, (by kernel_rfl)
        change wpList _ _ _ _ _ W4.drew
        generalize W4.drew = W5 at *
        go_wp2_with fail
        refine HN5.out.mono ?_
        rintro e w6 ⟨rfl, hr6, hg6⟩
        have hR6 := hR5.read hr6 hg6
        have hX6 : BoxV w6 w.heap.size (.int .u8 0) (.int .u64 0) (.string ⟨#[]⟩) (.slice none 0 0) (.slice none 0 0) := (hg6.block _ hX5.lt (fun e => by have := Option.some.inj e; omega)).trans hX5
        have hV6 : BoxV w6 w2.heap.size (.int .u8 k) (.int .u64 0) (.string ⟨#[]⟩) (.slice none 0 0) (.slice none 0 0) := (hg6.block _ hV5.lt (fun e => by have := Option.some.inj e; omega)).trans hV5
        have hF6 := hF5.trans (Frm2.of_grown hg6)
        have g1 := hV6.c1
        have fz6 : ∀ i, w6.frozen? ⟨w2.heap.size, i, none⟩ = false := fun i => frozen_of_row w6 w2.heap.size i _ 27 hV6
        have HFIN := Lib.hid (And.intro hR6 (And.intro hX6 (And.intro hV6 hF6)))
        clear hR6 hX6 hV6 hF6 hr6 hg6
        go_wp2_with fail
        go_meet
        exact ⟨rfl, rfl, HFIN.out.2.2.2.set (by omega) 1 _, (Below.heap_setCell _ _ _ _ (by show w.heap.size ≠ w2.heap.size; omega)).trans HFIN.out.2.1,
          (numS 8 s1).1, m, ⟨#[]⟩, none, none, 0, 0, 0, 0, [], [], (numS 8 s1).2, HFIN.out.1.setOther _ _ _ (by omega) (by omega), heap_setCell_same _ w2.heap.size 1 _ 27 (.int .u64 (numS 8 s1).1) HFIN.out.2.2.1, Lib.hid ⟨fun _ => HSHOW.out _, by rw [HR.out, if_pos (by decide)]; rfl⟩⟩
      case inr.inr.inr.inl =>
        have hR5 := hR4.drew
        have hF5 := hF4.drew
        have hX5 : BoxV W4.drew w.heap.size (.int .u8 0) (.int .u64 0) (.string ⟨#[]⟩) (.slice none 0 0) (.slice none 0 0) := hX4
        have hV5 : BoxV W4.drew w2.heap.size (.int .u8 k) (.int .u64 0) (.string ⟨#[]⟩) (.slice none 0 0) (.slice none 0 0) := hV4
        have hN5 := text_any g d s1 2 4096 W4.drew hR5.rs (by omega) (by omega) (by omega)
        have HN5 := Lib.hid hN5
        have HSHOW := Lib.hid (fun w => (ShowsT.make (n := 0) (s := str8 (textS 2 4096 s1).1) (ks := []) (l := []) hk (by decide) (ShowsG.nil_ _ _ 0) (by simp) (by simp) (by have := textS_fst_le 2 4096 s1; rw [str8_size]; omega) (ListT.nil _) : ShowsT w _ _))
        clear hN5
        go_upto_region 8 with fail
        go_still_tail 8, (by kernel_rfl)
        change wpList _ _ _ _ _ W4.drew
        generalize W4.drew = W5 at *
        go_wp2_with fail
        refine HN5.out.mono ?_
        rintro e w6 ⟨rfl, hr6, hg6⟩
        have hR6 := hR5.read hr6 hg6
        have hX6 : BoxV w6 w.heap.size (.int .u8 0) (.int .u64 0) (.string ⟨#[]⟩) (.slice none 0 0) (.slice none 0 0) := (hg6.block _ hX5.lt (fun e => by have := Option.some.inj e; omega)).trans hX5
        have hV6 : BoxV w6 w2.heap.size (.int .u8 k) (.int .u64 0) (.string ⟨#[]⟩) (.slice none 0 0) (.slice none 0 0) := (hg6.block _ hV5.lt (fun e => by have := Option.some.inj e; omega)).trans hV5
        have hF6 := hF5.trans (Frm2.of_grown hg6)
        have g1 := hV6.c2
        have fz6 : ∀ i, w6.frozen? ⟨w2.heap.size, i, none⟩ = false := fun i => frozen_of_row w6 w2.heap.size i _ 27 hV6
        have HFIN := Lib.hid (And.intro hR6 (And.intro hX6 (And.intro hV6 hF6)))
        clear hR6 hX6 hV6 hF6 hr6 hg6
        go_wp2_with fail
        go_meet
        exact ⟨rfl, rfl, HFIN.out.2.2.2.set (by omega) 2 _, (Below.heap_setCell _ _ _ _ (by show w.heap.size ≠ w2.heap.size; omega)).trans HFIN.out.2.1,
          0, m, str8 (textS 2 4096 s1).1, none, none, 0, 0, 0, 0, [], [], (textS 2 4096 s1).2, HFIN.out.1.setOther _ _ _ (by omega) (by omega), heap_setCell_same _ w2.heap.size 2 _ 27 (.string (str8 (textS 2 4096 s1).1)) HFIN.out.2.2.1, Lib.hid ⟨fun _ => HSHOW.out _, by rw [HR.out, if_neg (by decide), if_pos (by decide)]; rfl⟩⟩
      case inr.inr.inr.inr.inl =>
        have hR5 := hR4.drew
        have hF5 := hF4.drew
        have hX5 : BoxV W4.drew w.heap.size (.int .u8 0) (.int .u64 0) (.string ⟨#[]⟩) (.slice none 0 0) (.slice none 0 0) := hX4
        have hV5 : BoxV W4.drew w2.heap.size (.int .u8 k) (.int .u64 0) (.string ⟨#[]⟩) (.slice none 0 0) (.slice none 0 0) := hV4
        have hN5 := text_any g d s1 4 4096 W4.drew hR5.rs (by omega) (by omega) (by omega)
        have HN5 := Lib.hid hN5
        have HSHOW := Lib.hid (fun w => (ShowsT.make (n := 0) (s := str8 (textS 4 4096 s1).1) (ks := []) (l := []) hk (by decide) (ShowsG.nil_ _ _ 0) (by simp) (by simp) (by have := textS_fst_le 4 4096 s1; rw [str8_size]; omega) (ListT.nil _) : ShowsT w _ _))
        clear hN5
        go_upto_region 8 with fail
        go_still_tail 8, (by kernel_rfl)
        change wpList _ _ _ _ _ W4.drew
        generalize W4.drew = W5 at *
        go_wp2_with fail
        refine HN5.out.mono ?_
        rintro e w6 ⟨rfl, hr6, hg6⟩
        have hR6 := hR5.read hr6 hg6
        have hX6 : BoxV w6 w.heap.size (.int .u8 0) (.int .u64 0) (.string ⟨#[]⟩) (.slice none 0 0) (.slice none 0 0) := (hg6.block _ hX5.lt (fun e => by have := Option.some.inj e; omega)).trans hX5
        have hV6 : BoxV w6 w2.heap.size (.int .u8 k) (.int .u64 0) (.string ⟨#[]⟩) (.slice none 0 0) (.slice none 0 0) := (hg6.block _ hV5.lt (fun e => by have := Option.some.inj e; omega)).trans hV5
        have hF6 := hF5.trans (Frm2.of_grown hg6)
        have g1 := hV6.c2
        have fz6 : ∀ i, w6.frozen? ⟨w2.heap.size, i, none⟩ = false := fun i => frozen_of_row w6 w2.heap.size i _ 27 hV6
        have HFIN := Lib.hid (And.intro hR6 (And.intro hX6 (And.intro hV6 hF6)))
        clear hR6 hX6 hV6 hF6 hr6 hg6
        go_wp2_with fail
        go_meet
        exact ⟨rfl, rfl, HFIN.out.2.2.2.set (by omega) 2 _, (Below.heap_setCell _ _ _ _ (by show w.heap.size ≠ w2.heap.size; omega)).trans HFIN.out.2.1,
          0, m, str8 (textS 4 4096 s1).1, none, none, 0, 0, 0, 0, [], [], (textS 4 4096 s1).2, HFIN.out.1.setOther _ _ _ (by omega) (by omega), heap_setCell_same _ w2.heap.size 2 _ 27 (.string (str8 (textS 4 4096 s1).1)) HFIN.out.2.2.1, Lib.hid ⟨fun _ => HSHOW.out _, by rw [HR.out, if_neg (by decide), if_pos (by decide)]; rfl⟩⟩
      case inr.inr.inr.inr.inr.inl =>
        have HIw := Lib.hid (HI1.out W4 rfl hR4)
        have hrr : r = _ := HR.out
        rw [if_neg (by decide), if_neg (by decide), if_pos rfl] at hrr
        rw [← hrr] at HIw
        have hlow : Hid (∀ w' t vs, ShowsT (lowm W4.heap.size w') t vs → ShowsT (lowm (w.heap.size + 1) w') t vs) := Lib.hid (fun w' t vs h => h.sub (low_anti (by omega)))
        have HX4 := Lib.hid hX4
        have HV4 := Lib.hid hV4
        have HF4 := Lib.hid hF4
        have HRR := Lib.hid hrr
        clear HI1 HL hrr hX4 hV4 hF4 HR
        go_wp2_with fail
        refine HIw.out.mono ?_
        rintro e w6 ⟨hF6, he⟩
        have hX6 : BoxV w6 w.heap.size (.int .u8 0) (.int .u64 0) (.string ⟨#[]⟩) (.slice none 0 0) (.slice none 0 0) := (hF6.block _ HX4.out.lt (by omega) (by omega)).trans HX4.out
        have hV6 : BoxV w6 w2.heap.size (.int .u8 k) (.int .u64 0) (.string ⟨#[]⟩) (.slice none 0 0) (.slice none 0 0) := (hF6.block _ HV4.out.lt (by omega) (by omega)).trans HV4.out
        have g3 := hV6.c3
        have g4 := hV6.c4
        have fz6 : ∀ i, w6.frozen? ⟨w2.heap.size, i, none⟩ = false := fun i => frozen_of_row w6 w2.heap.size i _ 27 hV6
        have hFF := HF4.out.trans hF6
        cases r with
        | none =>
          rcases he with rfl | ⟨a3, n3, c3, a4, n4, c4, m', rfl, hR6⟩
          · exact ⟨rfl, hFF, rfl⟩
          · have HFIN := Lib.hid (And.intro hR6 (And.intro hX6 (And.intro hV6 hFF)))
            clear hR6 hX6 hV6 hFF hF6
            go_wp2_with fail
            go_meet
            have r3 := heap_setCell_same _ w2.heap.size 3 _ 27 (.slice a3 n3 c3) HFIN.out.2.2.1
            have r4 := heap_setCell_same _ w2.heap.size 4 _ 27 (.slice a4 n4 c4) r3
            exact ⟨rfl, rfl, (HFIN.out.2.2.2.set (by omega) 3 _).set (by omega) 4 _, (Below.heap_setCell _ _ _ _ (by show w.heap.size ≠ w2.heap.size; omega)).trans ((Below.heap_setCell _ _ _ _ (by show w.heap.size ≠ w2.heap.size; omega)).trans HFIN.out.2.1),
              0, m', ⟨#[]⟩, a3, a4, n3, c3, n4, c4, [], [], none, (HFIN.out.1.setOther _ _ _ (by omega) (by omega)).setOther _ _ _ (by omega) (by omega), r4, Lib.hid ⟨fun h => absurd rfl h, rfl⟩⟩
        | some q =>
          obtain ⟨t, m', s'⟩ := q
          obtain ⟨a3, n3, c3, a4, n4, c4, ks, l, rfl, hsn, rfl, hSH, hR6⟩ := he
          have HSH := Lib.hid hSH
          have HFIN := Lib.hid (And.intro hR6 (And.intro hX6 (And.intro hV6 hFF)))
          clear hR6 hX6 hV6 hFF hF6 hSH
          go_wp2_with fail
          go_meet
          have r3 := heap_setCell_same _ w2.heap.size 3 _ 27 (.slice a3 n3 c3) HFIN.out.2.2.1
          have r4 := heap_setCell_same _ w2.heap.size 4 _ 27 (.slice a4 n4 c4) r3
          exact ⟨rfl, rfl, (HFIN.out.2.2.2.set (by omega) 3 _).set (by omega) 4 _, (Below.heap_setCell _ _ _ _ (by show w.heap.size ≠ w2.heap.size; omega)).trans ((Below.heap_setCell _ _ _ _ (by show w.heap.size ≠ w2.heap.size; omega)).trans HFIN.out.2.1),
            0, m', ⟨#[]⟩, a3, a4, n3, c3, n4, c4, ks, l, s', (HFIN.out.1.setOther _ _ _ (by omega) (by omega)).setOther _ _ _ (by omega) (by omega), r4, Lib.hid ⟨fun _ => hlow.out _ _ _ ((HSH.out.sub (low_set (by omega) 3 _)).sub (low_set (by omega) 4 _)), by unfold finP; rw [if_neg hsn]⟩⟩
      case inr.inr.inr.inr.inr.inr.inl =>
        have HIw := Lib.hid (HI1.out W4 rfl hR4)
        have hrr : r = _ := HR.out
        rw [if_neg (by decide), if_neg (by decide), if_pos rfl] at hrr
        rw [← hrr] at HIw
        have hlow : Hid (∀ w' t vs, ShowsT (lowm W4.heap.size w') t vs → ShowsT (lowm (w.heap.size + 1) w') t vs) := Lib.hid (fun w' t vs h => h.sub (low_anti (by omega)))
        have HX4 := Lib.hid hX4
        have HV4 := Lib.hid hV4
        have HF4 := Lib.hid hF4
        have HRR := Lib.hid hrr
        clear HI1 HL hrr hX4 hV4 hF4 HR
        go_wp2_with fail
        refine HIw.out.mono ?_
        rintro e w6 ⟨hF6, he⟩
        have hX6 : BoxV w6 w.heap.size (.int .u8 0) (.int .u64 0) (.string ⟨#[]⟩) (.slice none 0 0) (.slice none 0 0) := (hF6.block _ HX4.out.lt (by omega) (by omega)).trans HX4.out
        have hV6 : BoxV w6 w2.heap.size (.int .u8 k) (.int .u64 0) (.string ⟨#[]⟩) (.slice none 0 0) (.slice none 0 0) := (hF6.block _ HV4.out.lt (by omega) (by omega)).trans HV4.out
        have g3 := hV6.c3
        have g4 := hV6.c4
        have fz6 : ∀ i, w6.frozen? ⟨w2.heap.size, i, none⟩ = false := fun i => frozen_of_row w6 w2.heap.size i _ 27 hV6
        have hFF := HF4.out.trans hF6
        cases r with
        | none =>
          rcases he with rfl | ⟨a3, n3, c3, a4, n4, c4, m', rfl, hR6⟩
          · exact ⟨rfl, hFF, rfl⟩
          · have HFIN := Lib.hid (And.intro hR6 (And.intro hX6 (And.intro hV6 hFF)))
            clear hR6 hX6 hV6 hFF hF6
            go_wp2_with fail
            go_meet
            have r3 := heap_setCell_same _ w2.heap.size 3 _ 27 (.slice a3 n3 c3) HFIN.out.2.2.1
            have r4 := heap_setCell_same _ w2.heap.size 4 _ 27 (.slice a4 n4 c4) r3
            exact ⟨rfl, rfl, (HFIN.out.2.2.2.set (by omega) 3 _).set (by omega) 4 _, (Below.heap_setCell _ _ _ _ (by show w.heap.size ≠ w2.heap.size; omega)).trans ((Below.heap_setCell _ _ _ _ (by show w.heap.size ≠ w2.heap.size; omega)).trans HFIN.out.2.1),
              0, m', ⟨#[]⟩, a3, a4, n3, c3, n4, c4, [], [], none, (HFIN.out.1.setOther _ _ _ (by omega) (by omega)).setOther _ _ _ (by omega) (by omega), r4, Lib.hid ⟨fun h => absurd rfl h, rfl⟩⟩
        | some q =>
          obtain ⟨t, m', s'⟩ := q
          obtain ⟨a3, n3, c3, a4, n4, c4, ks, l, rfl, hsn, rfl, hSH, hR6⟩ := he
          have HSH := Lib.hid hSH
          have HFIN := Lib.hid (And.intro hR6 (And.intro hX6 (And.intro hV6 hFF)))
          clear hR6 hX6 hV6 hFF hF6 hSH
          go_wp2_with fail
          go_meet
          have r3 := heap_setCell_same _ w2.heap.size 3 _ 27 (.slice a3 n3 c3) HFIN.out.2.2.1
          have r4 := heap_setCell_same _ w2.heap.size 4 _ 27 (.slice a4 n4 c4) r3
          exact ⟨rfl, rfl, (HFIN.out.2.2.2.set (by omega) 3 _).set (by omega) 4 _, (Below.heap_setCell _ _ _ _ (by show w.heap.size ≠ w2.heap.size; omega)).trans ((Below.heap_setCell _ _ _ _ (by show w.heap.size ≠ w2.heap.size; omega)).trans HFIN.out.2.1),
            0, m', ⟨#[]⟩, a3, a4, n3, c3, n4, c4, ks, l, s', (HFIN.out.1.setOther _ _ _ (by omega) (by omega)).setOther _ _ _ (by omega) (by omega), r4, Lib.hid ⟨fun _ => hlow.out _ _ _ ((HSH.out.sub (low_set (by omega) 3 _)).sub (low_set (by omega) 4 _)), by unfold finP; rw [if_neg hsn]⟩⟩
      case inr.inr.inr.inr.inr.inr.inr =>
        have hrr : r = _ := HR.out
        rw [if_neg (by decide), if_neg (by decide), if_neg (by decide)] at hrr
        have HRR := Lib.hid hrr
        have HFIN := Lib.hid (And.intro hR4 (And.intro hX4 (And.intro hV4 hF4)))
        have HSHOW := Lib.hid (fun w => (ShowsT.make (ks := []) (l := []) hk (by decide) (ShowsG.nil_ _ _ 0) (by simp) (by simp) (Nat.zero_le _) (ListT.nil _) : ShowsT w (.node k 0 ⟨#[]⟩ [] []) _))
        clear hrr hR4 hX4 hV4 hF4
        go_wp2_with fail
        go_meet
        exact ⟨rfl, rfl, HFIN.out.2.2.2, HFIN.out.2.1, 0, m, ⟨#[]⟩, none, none, 0, 0, 0, 0, [], [], s1, HFIN.out.1, HFIN.out.2.2.1, Lib.hid ⟨fun _ => HSHOW.out _, HRR.out⟩⟩

end Go.Proofs.Ytnafibnhmhbfiaa
