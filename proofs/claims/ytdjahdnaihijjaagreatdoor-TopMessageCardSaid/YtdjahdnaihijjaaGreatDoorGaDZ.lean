/-
  Texts, together: GaD, GaE.
  Conditions: none but sizes.
-/
import Derived.Deep.RegionLaw
import Derived.Deep.CutRange
import Derived.Deep.CutBlock
import Derived.StillTailTactics
import Derived.Deep.DeepCutAuto
import Derived.Test.YtdjahdnaihijjaaGreatDoorGaCZ
import Derived.Test.YtdjahdnaihijjaaGreatDoorGaWZ
import Derived.BigRegion
import Derived.ChangeAlike
import Derived.RegionTactic
import Derived.Test.YtdjahdnaihijjaaGreatDoorGaAZ
/-
  The contract of add of gather's partial.
  Conditions: none but sizes.
-/
namespace Go.Proofs.YtdjahdnaihijjaaGreatDoor
open Go.RowKit
set_option linter.unusedVariables false
set_option linter.unusedSimpArgs false

/-- How a segment of what is open lies: two cells. -/
def sgmC : Code (Nat × Nat) := { enc := fun s => [.int .u8 s.1, .int .i64 s.2], sz := 2, len := fun _ => rfl, one := fun x u hu => by simp at hu; rcases hu with rfl | rfl <;> rfl, pos := by omega }
theorem infoSgm : (Tryz.prog.info? 115).map (fun i => (i.zero, i.size, i.bytes)) = some (some (.agg #[.int .u8 0, .int .i64 0]), 2, 16) := by kernel_rfl

section
variable {α : Type} {C : Code α} {e e' : TypeId} {w : World} {base b : Nat} {v : Value} {l : List α} {cs : Array Value} {fr : Nat × Nat}
theorem own_ne (h : OwnG C e w base v l) (hb : w.heap[b]? = some (.cells cs e' fr)) (he : e ≠ e') : v.ownBlock ≠ some b := by
  intro hv
  rcases h.2 with ⟨rfl, _⟩ | ⟨g, cap, cur, rfl, _, hg, _⟩
  · cases hv
  · cases hv
    rw [hg] at hb
    injection hb with hb
    injection hb with _ h2 _
    exact he h2
theorem own8_ne {m : List UInt8} (h : Own e w base v m) (hb : w.heap[b]? = some (.cells cs e' fr)) (he : e ≠ e') : v.ownBlock ≠ some b := by
  intro hv
  rcases h.2 with ⟨rfl, _⟩ | ⟨g, cap, cur, rfl, _, hg, _⟩
  · cases hv
  · cases hv
    rw [hg] at hb
    injection hb with hb
    injection hb with _ h2 _
    exact he h2
theorem own_own_ne {m : List UInt8} {base' : Nat} {v' : Value} (h : OwnG C e w base v l) (h8 : Own e' w base' v' m) (he : e ≠ e') : ∀ k, v.ownBlock = some k → v'.ownBlock ≠ some k := by
  intro k hk hk'
  rcases h8.2 with ⟨rfl, _⟩ | ⟨g, cap, cur, rfl, _, hg, _⟩
  · cases hk'
  · cases hk'
    exact own_ne h hg he hk
end

section
variable {w : World} {b : Nat} {v1 v2 : Value} {h : Fr} {x : Bool}
theorem BoxP.set0 (H : BoxP w b v1 v2 h x) (u : Value) : BoxP (w.setCell ⟨b, 0, none⟩ u) b u v2 h x := heap_setCell_same w b 0 _ 85 u H
theorem BoxP.set1 (H : BoxP w b v1 v2 h x) (u : Value) : BoxP (w.setCell ⟨b, 1, none⟩ u) b v1 u h x := heap_setCell_same w b 1 _ 85 u H
theorem BoxP.set9 (H : BoxP w b v1 v2 h x) (s : ByteArray) : BoxP (w.setCell ⟨b, 9, none⟩ (.string s)) b v1 v2 { h with p := s } x := heap_setCell_same w b 9 _ 85 (.string s) H
theorem BoxP.set10 (H : BoxP w b v1 v2 h x) (y : Bool) : BoxP (w.setCell ⟨b, 10, none⟩ (.bool y)) b v1 v2 h y := heap_setCell_same w b 10 _ 85 (.bool y) H
theorem BoxP.set2 (H : BoxP w b v1 v2 h x) (y : Bool) : BoxP (w.setCell ⟨b, 2, none⟩ (.bool y)) b v1 v2 { h with a := y } x := heap_setCell_same w b 2 _ 85 (.bool y) H
theorem BoxP.set3 (H : BoxP w b v1 v2 h x) (y : Bool) : BoxP (w.setCell ⟨b, 3, none⟩ (.bool y)) b v1 v2 { h with b := y } x := heap_setCell_same w b 3 _ 85 (.bool y) H
theorem BoxP.set4 (H : BoxP w b v1 v2 h x) (y : Bool) : BoxP (w.setCell ⟨b, 4, none⟩ (.bool y)) b v1 v2 { h with c := y } x := heap_setCell_same w b 4 _ 85 (.bool y) H
theorem BoxP.set5 (H : BoxP w b v1 v2 h x) (y : Bool) : BoxP (w.setCell ⟨b, 5, none⟩ (.bool y)) b v1 v2 { h with d := y } x := heap_setCell_same w b 5 _ 85 (.bool y) H
theorem BoxP.set6 (H : BoxP w b v1 v2 h x) (y : Nat) : BoxP (w.setCell ⟨b, 6, none⟩ (.int .u8 (y : Nat))) b v1 v2 { h with t := y } x := heap_setCell_same w b 6 _ 85 (.int .u8 (y : Nat)) H
theorem BoxP.set7 (H : BoxP w b v1 v2 h x) (y : Nat) : BoxP (w.setCell ⟨b, 7, none⟩ (.int .u8 (y : Nat))) b v1 v2 { h with k := y } x := heap_setCell_same w b 7 _ 85 (.int .u8 (y : Nat)) H
theorem BoxP.set8 (H : BoxP w b v1 v2 h x) (y : Nat) : BoxP (w.setCell ⟨b, 8, none⟩ (.int .u16 (y : Nat))) b v1 v2 { h with ch := y } x := heap_setCell_same w b 8 _ 85 (.int .u16 (y : Nat)) H
theorem BoxP.setHead (H : BoxP w b v1 v2 h x) (g : Fr) :
    BoxP ((((((((w.setCell ⟨b, 2, none⟩ (.bool g.a)).setCell ⟨b, 3, none⟩ (.bool g.b)).setCell ⟨b, 4, none⟩ (.bool g.c)).setCell ⟨b, 5, none⟩ (.bool g.d)).setCell ⟨b, 6, none⟩ (.int .u8 g.t)).setCell ⟨b, 7, none⟩ (.int .u8 g.k)).setCell ⟨b, 8, none⟩ (.int .u16 g.ch)).setCell ⟨b, 9, none⟩ (.string g.p)) b v1 v2 g x :=
  (((((((H.set2 g.a).set3 g.b).set4 g.c).set5 g.d).set6 g.t).set7 g.k).set8 g.ch).set9 g.p
end

/-- What add may turn: the box and the two rows. -/
def addF (pb : Nat) (v1 v2 : Value) (k : Nat) : Prop := k = pb ∨ v1.ownBlock = some k ∨ v2.ownBlock = some k

/-- add on its way. -/
structure AddR (w0 : World) (B pb : Nat) (f : Fr) (v1 v2 : Value) (v1' v2' : Value) (s : List (Nat × Nat)) (y : List UInt8) (h : Fr) (x : Bool) (w : World) : Prop where
  base : B ≤ w0.heap.size
  lt : pb < w0.heap.size
  box : BoxF w w0.heap.size f
  pt : BoxP w pb v1' v2' h x
  o1 : OwnG sgmC 115 w B v1' s
  o2 : Own 5 w B v2' y
  w1 : v1'.ownBlock = v1.ownBlock ∨ ∃ k, v1'.ownBlock = some k ∧ w0.heap.size ≤ k
  w2 : v2'.ownBlock = v2.ownBlock ∨ ∃ k, v2'.ownBlock = some k ∧ w0.heap.size ≤ k
  mv : Moved (addF pb v1 v2) w0 w

section
variable {w0 w : World} {B pb : Nat} {f h : Fr} {v1 v2 v1' v2' : Value} {s : List (Nat × Nat)} {y : List UInt8} {x : Bool}
theorem AddR.drew (r : AddR w0 B pb f v1 v2 v1' v2' s y h x w) : AddR w0 B pb f v1 v2 v1' v2' s y h x w.drew :=
  ⟨r.base, r.lt, r.box, r.pt, r.o1, r.o2, r.w1, r.w2, r.mv.drew⟩
theorem AddR.size (r : AddR w0 B pb f v1 v2 v1' v2' s y h x w) : w0.heap.size < w.heap.size := r.box.lt
theorem AddR.alloc (r : AddR w0 B pb f v1 v2 v1' v2' s y h x w) (o : Obj) : AddR w0 B pb f v1 v2 v1' v2' s y h x (w.alloc o) :=
  ⟨r.base, r.lt, r.box.kept (f_below_box w o) (Nat.le_refl _), r.pt.kept (f_below_box w o) (Nat.le_refl _), r.o1.alloc_ o, r.o2.alloc_ o, r.w1, r.w2,
    r.mv.trans (Moved.of_below (F := fun _ => False) (f_below_box w o)) (fun _ _ h => h.elim)⟩
/-- A store into the box. -/
theorem AddR.set (r : AddR w0 B pb f v1 v2 v1' v2' s y h x w) {i : Nat} {u : Value} {h' : Fr} {x' : Bool} (hp : BoxP (w.setCell ⟨pb, i, none⟩ u) pb v1' v2' h' x') : AddR w0 B pb f v1 v2 v1' v2' s y h' x' (w.setCell ⟨pb, i, none⟩ u) := by
  have hne : ∀ k, k ≠ pb → (w.setCell ⟨pb, i, none⟩ u).heap[k]? = w.heap[k]? := fun k hk => Below.heap_setCell _ _ _ _ (by show k ≠ _; exact hk)
  have hlt := r.lt
  exact ⟨r.base, r.lt, (hne _ (by omega)).trans r.box, hp, r.o1.keep fun g hg => hne g (fun e => by subst e; exact own_ne r.o1 r.pt (by decide) hg), r.o2.keep fun g hg => hne g (fun e => by subst e; exact own8_ne r.o2 r.pt (by decide) hg), r.w1, r.w2,
    r.mv.setCell (fun _ => .inl rfl) i u⟩
/-- An append onto the segments, stored. -/
theorem AddR.seg (r : AddR w0 B pb f v1 v2 v1' v2' s y h x w) {s' : List (Nat × Nat)} {u : Value} {w8 : World} (ho : OwnG sgmC 115 w8 B u s') (hg : w.grownBy w8 v1'.ownBlock) (hw : u.ownBlock = v1'.ownBlock ∨ u.ownBlock = some w.heap.size) :
    BoxP w8 pb v1' v2' h x ∧ AddR w0 B pb f v1 v2 u v2' s' y h x (w8.setCell ⟨pb, 0, none⟩ u) := by
  have hsz := r.size
  have hkeep : ∀ k, k < w.heap.size → v1'.ownBlock ≠ some k → w8.heap[k]? = w.heap[k]? := fun k hk hne => hg.block k hk (fun e => hne e.symm)
  have hp8 : BoxP w8 pb v1' v2' h x := (hkeep _ r.pt.lt (own_ne r.o1 r.pt (by decide))).trans r.pt
  refine ⟨hp8, ?_⟩
  have hb8 : BoxF w8 w0.heap.size f := (hkeep _ r.box.lt (own_ne r.o1 r.box (by decide))).trans r.box
  have ho2 : Own 5 w8 B v2' y := r.o2.keep fun k hk => hkeep k (r.o2.block k hk).2 (fun e => own_own_ne r.o1 r.o2 (by decide) k e hk)
  have hw0 : u.ownBlock = v1.ownBlock ∨ ∃ k, u.ownBlock = some k ∧ w0.heap.size ≤ k := by
    rcases hw with hw | hw
    · rw [hw]; exact r.w1
    · exact .inr ⟨_, hw, by omega⟩
  have hmv : Moved (addF pb v1 v2) w0 w8 := r.mv.trans (Moved.of_grown (F := fun k => v1'.ownBlock = some k) hg (fun k hk => hk)) (fun k hk hk' => by
    rcases r.w1 with hw | ⟨j, hj, hj'⟩
    · exact .inr (.inl (hw ▸ hk'))
    · rw [hj] at hk'
      cases hk'
      omega)
  have hne : ∀ k, k ≠ pb → (w8.setCell ⟨pb, 0, none⟩ u).heap[k]? = w8.heap[k]? := fun k hk => Below.heap_setCell _ _ _ _ (by show k ≠ _; exact hk)
  have hlt := r.lt
  exact ⟨r.base, r.lt, (hne _ (by omega)).trans hb8, hp8.set0 u, ho.keep fun g hg' => hne g (fun e => by subst e; exact own_ne ho hp8 (by decide) hg'), ho2.keep fun g hg' => hne g (fun e => by subst e; exact own8_ne ho2 hp8 (by decide) hg'), hw0, r.w2,
    hmv.setCell (fun _ => .inl rfl) 0 u⟩
/-- An append onto the bytes, stored. -/
theorem AddR.bytes (r : AddR w0 B pb f v1 v2 v1' v2' s y h x w) {y' : List UInt8} {u : Value} {w8 : World} (ho : Own 5 w8 B u y') (hg : w.grownBy w8 v2'.ownBlock) (hw : u.ownBlock = v2'.ownBlock ∨ ∃ k, u.ownBlock = some k ∧ w.heap.size ≤ k) :
    BoxP w8 pb v1' v2' h x ∧ AddR w0 B pb f v1 v2 v1' u s y' h x (w8.setCell ⟨pb, 1, none⟩ u) := by
  have hsz := r.size
  have hkeep : ∀ k, k < w.heap.size → v2'.ownBlock ≠ some k → w8.heap[k]? = w.heap[k]? := fun k hk hne => hg.block k hk (fun e => hne e.symm)
  have hp8 : BoxP w8 pb v1' v2' h x := (hkeep _ r.pt.lt (own8_ne r.o2 r.pt (by decide))).trans r.pt
  refine ⟨hp8, ?_⟩
  have hb8 : BoxF w8 w0.heap.size f := (hkeep _ r.box.lt (own8_ne r.o2 r.box (by decide))).trans r.box
  have ho1 : OwnG sgmC 115 w8 B v1' s := r.o1.keep fun k hk => hkeep k (r.o1.block k hk).2 (own_own_ne r.o1 r.o2 (by decide) k hk)
  have hw0 : u.ownBlock = v2.ownBlock ∨ ∃ k, u.ownBlock = some k ∧ w0.heap.size ≤ k := by
    rcases hw with hw | ⟨k, hw, hk⟩
    · rw [hw]; exact r.w2
    · exact .inr ⟨_, hw, by omega⟩
  have hmv : Moved (addF pb v1 v2) w0 w8 := r.mv.trans (Moved.of_grown (F := fun k => v2'.ownBlock = some k) hg (fun k hk => hk)) (fun k hk hk' => by
    rcases r.w2 with hw | ⟨j, hj, hj'⟩
    · exact .inr (.inr (hw ▸ hk'))
    · rw [hj] at hk'
      cases hk'
      omega)
  have hne : ∀ k, k ≠ pb → (w8.setCell ⟨pb, 1, none⟩ u).heap[k]? = w8.heap[k]? := fun k hk => Below.heap_setCell _ _ _ _ (by show k ≠ _; exact hk)
  have hlt := r.lt
  exact ⟨r.base, r.lt, (hne _ (by omega)).trans hb8, hp8.set1 u, ho1.keep fun g hg' => hne g (fun e => by subst e; exact own_ne ho1 hp8 (by decide) hg'), ho.keep fun g hg' => hne g (fun e => by subst e; exact own8_ne ho hp8 (by decide) hg'), r.w1, hw0,
    hmv.setCell (fun _ => .inl rfl) 1 u⟩
end

def AddSaid (f : Fr) (B pb : Nat) (v1 v2 : Value) (p : Pt) (w : World) (e : Ending) (w' : World) : Prop :=
  e = .returned (.tuple #[]) ∧ ∃ v1' v2', BoxP w' pb v1' v2' (p.add f).head (p.add f).whole ∧ OwnG sgmC 115 w' B v1' (p.add f).segs ∧ Own 5 w' B v2' (p.add f).bytes ∧
    (v1'.ownBlock = v1.ownBlock ∨ ∃ k, v1'.ownBlock = some k ∧ w.heap.size ≤ k) ∧ (v2'.ownBlock = v2.ownBlock ∨ ∃ k, v2'.ownBlock = some k ∧ w.heap.size ≤ k) ∧ Moved (addF pb v1 v2) w w'

set_option maxRecDepth 100000 in
set_option maxHeartbeats 8000000 in
theorem add_any (f : Fr) (B pb : Nat) (v1 v2 : Value) (p : Pt) (w : World) (hf : f.ok) (hp : f.p.size ≤ 4084) (hB : B ≤ w.heap.size) (hX : BoxP w pb v1 v2 p.head p.whole) (ho1 : OwnG sgmC 115 w B v1 p.segs) (ho2 : Own 5 w B v2 p.bytes)
    (hs : p.segs.length ≤ 1000) (hy : p.bytes.length ≤ 16384) : Calls Tryz.prog 29 #[.pointer (some ⟨pb, 0, none⟩), .agg f.vs.toArray] w (AddSaid f B pb v1 v2 p w) := by
  have hR : AddR w B pb f v1 v2 v1 v2 p.segs p.bytes p.head p.whole (w.alloc (Obj.cells #[.bool f.a, .bool f.b, .bool f.c, .bool f.d, .int .u8 f.t, .int .u8 f.k, .int .u16 f.ch, .string f.p] 51)) :=
    ⟨hB, hX.lt, BoxF.new w f, hX.kept (f_below_box _ _) (Nat.le_refl _), ho1.alloc_ _, ho2.alloc_ _, .inl rfl, .inl rfl, Moved.of_below (f_below_box _ _)⟩
  have HR := Lib.hid hR
  unfold AddSaid
  obtain ⟨A1, c1, hv1, _, _⟩ := ho1.form
  obtain ⟨A2, c2, hv2, _, _⟩ := ho2.form
  clear hR hX ho1 ho2
  subst hv1
  subst hv2
  obtain ⟨segs, bytes, ⟨ha, hb, hc, hd, ht, hk, hch, hpp⟩, whole⟩ := p
  obtain ⟨fa, fb, fc, fd, ft, fk, fch, fp⟩ := f
  simp only [Fr.vs, Pt.add] at *
  cases fc with
  | false =>
    obtain ⟨W1, hW1⟩ : ∃ W1, W1 = w.alloc (Obj.cells #[.bool fa, .bool fb, .bool false, .bool fd, .int .u8 ft, .int .u8 fk, .int .u16 fch, .string fp] 51) := ⟨_, rfl⟩
    have x2 := HR.out.box.c2
    go_enter Tryz.func29, Tryz.ntmps29
    go_upto_region 5 with fail
    clear x2
    rw [← hW1] at HR ⊢
    clear hW1
    have hRd := HR.out.drew
    have p1 := HR.out.pt.c1
    have y7 := HR.out.box.c7
    have p1' : W1.drew.cell? ⟨pb, 1, none⟩ = _ := p1
    have y7' : W1.drew.cell? ⟨w.heap.size, 7, none⟩ = _ := y7
    clear p1 y7
    go_cut [0] from 31 to 40 (fun z wx => z = .pointer (some ⟨pb, 0, none⟩) ∧ ∃ v2', AddR w B pb ⟨fa, fb, false, fd, ft, fk, fch, fp⟩ (.slice A1 segs.length c1) (.slice A2 bytes.length c2) (.slice A1 segs.length c1) v2' segs (bytes ++ sb fp) ⟨ha, hb, hc, hd, ht, hk, hch, hpp⟩ whole wx)
    case first =>
      clear HR
      go_region_law ((refine step_append8sW _ rfl (.tmp 35) (.tmp 37) 47 9 rfl B 5 Tryz.underlying47 Tryz.underlying9 info5 (.slice A2 bytes.length c2) bytes rfl hRd.o2 fp rfl (by omega) (by have := hRd.size; have := hRd.base; omega) ?_
                      intro v8 w8 ho8 hg8 hwh8
                      obtain ⟨A8, n8, c8, rfl⟩ : ∃ A n c, v8 = .slice A n c := by
                        obtain ⟨A, c, e, _⟩ := ho8.form
                        exact ⟨_, _, _, e⟩
                      have hq := hRd.bytes ho8 hg8 hwh8
                      have f8 := hq.1.fr 1
                      have hq2 := Lib.hid hq.2
                      have q8 := hq.1.c1
                      clear hq ho8 hg8 hwh8))
      all_goals
        go_wp2_with fail
        go_meet
        exact ⟨rfl, _, hq2.out⟩
    case rest =>
      obtain ⟨rfl, v2', hR⟩ := hcut
      rename World => w9
      have z3 := hR.box.c3
      have f10 := hR.pt.fr 10
      have q10 := hR.pt.c10
      have HF := Lib.hid (hR.set (hR.pt.set10 fd))
      clear HR hRd p1' y7' hR
      go_wp2_with fail
      go_end0
      exact ⟨rfl, _, _, HF.out.pt, by simpa using HF.out.o1, HF.out.o2, HF.out.w1, HF.out.w2, HF.out.mv⟩
  | true =>
    obtain ⟨W1, hW1⟩ : ∃ W1, W1 = w.alloc (Obj.cells #[.bool fa, .bool fb, .bool true, .bool fd, .int .u8 ft, .int .u8 fk, .int .u16 fch, .string fp] 51) := ⟨_, rfl⟩
    have x2 := HR.out.box.c2
    go_enter Tryz.func29, Tryz.ntmps29
    go_upto_region 2 with fail
    clear x2
    rw [← hW1] at HR ⊢
    clear hW1
    have hRd := HR.out.drew
    obtain ⟨L, hL⟩ : ∃ L, L = Obj.cells #[.int .u8 ft, .int .i64 bytes.length] 115 := ⟨_, rfl⟩
    have hRl := (HR.out.alloc (Obj.cells #[.int .u8 ft, .int .i64 bytes.length] 115)).drew
    have p0 : W1.drew.cell? ⟨pb, 0, none⟩ = _ := hRd.pt.c0
    have p1 : W1.drew.cell? ⟨pb, 1, none⟩ = _ := hRd.pt.c1
    have p4 : W1.drew.cell? ⟨w.heap.size, 4, none⟩ = _ := hRd.box.c4
    have l0 : (W1.alloc (Obj.cells #[.int .u8 ft, .int .i64 bytes.length] 115)).cell? ⟨pb, 0, none⟩ = _ := hRl.pt.c0
    clear L hL
    go_cut [0] from 6 to 22 (fun z wx => z = .pointer (some ⟨pb, 0, none⟩) ∧ ∃ v1', AddR w B pb ⟨fa, fb, true, fd, ft, fk, fch, fp⟩ (.slice A1 segs.length c1) (.slice A2 bytes.length c2) v1' (.slice A2 bytes.length c2) (segs ++ [(ft, bytes.length)]) bytes ⟨ha, hb, hc, hd, ht, hk, hch, hpp⟩ whole wx)
    case first =>
      clear HR
      go_region_law ((refine step_appendGW sgmC _ rfl (.tmp 10) (.tmp 19) 83 rfl B 115 (.agg #[.int .u8 0, .int .i64 0]) 16 Tryz.underlying83 infoSgm rfl (.slice A1 segs.length c1) segs rfl hRl.o1 W1.heap.size (.slice (some ⟨W1.heap.size, 0, none⟩) 1 1) [(ft, bytes.length)] rfl (ShowsG.lit (C := sgmC) [(ft, bytes.length)] (by simp [Code.all, sgmC]) (by simp [maxLen])) (by simp) (by simp; omega) (by simp; omega) (by have := hRl.size; have := hRl.base; omega) ?_
                      intro v8 w8 ho8 hg8 hwh8
                      obtain ⟨A8, n8, c8, rfl⟩ : ∃ A n c, v8 = .slice A n c := by
                        obtain ⟨A, c, e, _⟩ := ho8.form
                        exact ⟨_, _, _, e⟩
                      have hq := hRl.seg ho8 hg8 hwh8
                      have f8 := hq.1.fr 0
                      have hq2 := Lib.hid hq.2
                      have q8 := hq.1.c0
                      clear hq ho8 hg8 hwh8))
      all_goals
        go_wp2_with fail
        go_meet
        exact ⟨rfl, _, hq2.out⟩
    case rest =>
      obtain ⟨rfl, v1', hR⟩ := hcut
      rename World => w3
      have z0 := hR.box.c0
      have z1 := hR.box.c1
      have z2 := hR.box.c2
      have z3 := hR.box.c3
      have z4 := hR.box.c4
      have z5 := hR.box.c5
      have z6 := hR.box.c6
      have z7 := hR.box.c7
      have fz := hR.pt.fr
      have t2 := hR.pt.c2
      have t3 := hR.pt.c3
      have t4 := hR.pt.c4
      have t5 := hR.pt.c5
      have t6 := hR.pt.c6
      have t7 := hR.pt.c7
      have t8 := hR.pt.c8
      have t9 := hR.pt.c9
      have hS := (((((((hR.set (hR.pt.set2 fa)).set (((hR.pt.set2 fa)).set3 fb)).set (((hR.pt.set2 fa).set3 fb).set4 true)).set ((((hR.pt.set2 fa).set3 fb).set4 true).set5 fd)).set (((((hR.pt.set2 fa).set3 fb).set4 true).set5 fd).set6 ft)).set ((((((hR.pt.set2 fa).set3 fb).set4 true).set5 fd).set6 ft).set7 fk)).set (((((((hR.pt.set2 fa).set3 fb).set4 true).set5 fd).set6 ft).set7 fk).set8 fch))
      have hS2 := hS.set (hS.pt.set9 fp)
      have hS3 := hS2.set (hS2.pt.set9 ⟨#[]⟩)
      have HF1 := Lib.hid hS3
      clear HR hRd hRl p0 p1 p4 l0 hR hS hS2 hS3
      go_upto_region 5 with fail
      clear z0 z1 z2 z3 z4 z5 z6 z7 fz t2 t3 t4 t5 t6 t7 t8 t9
      have HR := HF1
      revert HR
      clear HF1
      generalize (((((((((w3.setCell ⟨pb, 2, none⟩ (.bool fa)).setCell ⟨pb, 3, none⟩ (.bool fb)).setCell ⟨pb, 4, none⟩ (.bool true)).setCell ⟨pb, 5, none⟩ (.bool fd)).setCell ⟨pb, 6, none⟩ (.int .u8 ft)).setCell ⟨pb, 7, none⟩ (.int .u8 fk)).setCell ⟨pb, 8, none⟩ (.int .u16 fch)).setCell ⟨pb, 9, none⟩ (.string fp)).setCell ⟨pb, 9, none⟩ (.string ⟨#[]⟩)) = W5
      intro HR
      have hRd := HR.out.drew
      have p1' : W5.drew.cell? ⟨pb, 1, none⟩ = _ := HR.out.pt.c1
      have y7' : W5.drew.cell? ⟨w.heap.size, 7, none⟩ = _ := HR.out.box.c7
      go_cut [0] from 31 to 40 (fun z wx => z = .pointer (some ⟨pb, 0, none⟩) ∧ ∃ v2', AddR w B pb ⟨fa, fb, true, fd, ft, fk, fch, fp⟩ (.slice A1 segs.length c1) (.slice A2 bytes.length c2) v1' v2' (segs ++ [(ft, bytes.length)]) (bytes ++ sb fp) ⟨fa, fb, true, fd, ft, fk, fch, ⟨#[]⟩⟩ whole wx)
      case first =>
        clear HR
        go_region_law ((refine step_append8sW _ rfl (.tmp 35) (.tmp 37) 47 9 rfl B 5 Tryz.underlying47 Tryz.underlying9 info5 (.slice A2 bytes.length c2) bytes rfl hRd.o2 fp rfl (by omega) (by have := hRd.size; have := hRd.base; omega) ?_
                        intro v8 w8 ho8 hg8 hwh8
                        obtain ⟨A8, n8, c8, rfl⟩ : ∃ A n c, v8 = .slice A n c := by
                          obtain ⟨A, c, e, _⟩ := ho8.form
                          exact ⟨_, _, _, e⟩
                        have hq := hRd.bytes ho8 hg8 hwh8
                        have f8 := hq.1.fr 1
                        have hq2 := Lib.hid hq.2
                        have q8 := hq.1.c1
                        clear hq ho8 hg8 hwh8))
        all_goals
          go_wp2_with fail
          go_meet
          exact ⟨rfl, _, hq2.out⟩
      case rest =>
        obtain ⟨rfl, v2', hR⟩ := hcut
        rename World => w9
        have z3 := hR.box.c3
        have f10 := hR.pt.fr 10
        have q10 := hR.pt.c10
        have HF := Lib.hid (hR.set (hR.pt.set10 fd))
        clear HR hRd p1' y7' hR
        go_wp2_with fail
        go_end0
        exact ⟨rfl, _, _, HF.out.pt, HF.out.o1, HF.out.o2, HF.out.w1, HF.out.w2, HF.out.mv⟩

end Go.Proofs.YtdjahdnaihijjaaGreatDoor
/-
  The contract of whole of gather's partial.
  Conditions: none but sizes.
-/
namespace Go.Proofs.YtdjahdnaihijjaaGreatDoor
open Go.RowKit
set_option linter.unusedVariables false
set_option linter.unusedSimpArgs false

theorem made_all {α : Type} (C : Code α) (y : α) (z : Array Value) (hz : z.toList = C.enc y) (n : Nat) : (madeCells z (n * C.sz)).toList = C.all (List.replicate n y) := by
  have hzs : z.size = C.sz := by rw [← Array.length_toList, hz, C.len]
  apply List.ext_getElem?
  intro i
  have hp := C.pos
  by_cases hi : i < n * C.sz
  · have hj : i / C.sz < n := Nat.div_lt_of_lt_mul (by rw [Nat.mul_comm]; exact hi)
    have e : i = i / C.sz * C.sz + i % C.sz := by have := Nat.div_add_mod i C.sz; rw [Nat.mul_comm] at this; omega
    have hm := Nat.mod_lt i hp
    have h2 := C.all_get (List.replicate n y) (i / C.sz) (i % C.sz) (by simpa using hj) hm
    rw [← e] at h2
    rw [h2, List.getElem_replicate, ← hz]
    simp only [madeCells, Array.toList_map, Array.toList_range, List.getElem?_map, List.getElem?_range hi, Option.map_some, Array.getElem?_toList]
    rw [hzs, getElem!_pos z _ (by omega), Array.getElem?_eq_getElem (by omega)]
  · rw [List.getElem?_eq_none (by rw [Array.length_toList, size_madeCells]; omega), List.getElem?_eq_none (by rw [C.all_length, List.length_replicate]; omega)]

/-- Where the segment with number j - 1 ends. -/
def endAt (bytes : List UInt8) (segs : List (Nat × Nat)) (j : Nat) : Nat := if h : j < segs.length then segs[j].2 else bytes.length

theorem pwhole_step (bytes : List UInt8) (segs : List (Nat × Nat)) (k : Nat) (h : k < segs.length) :
    wholeD bytes (segs.drop k) = ⟨segs[k].1, str8 ((bytes.take (endAt bytes segs (k + 1))).drop segs[k].2)⟩ :: wholeD bytes (segs.drop (k + 1)) := by
  rw [List.drop_eq_getElem_cons h]
  by_cases h2 : k + 1 < segs.length
  · rw [List.drop_eq_getElem_cons h2]
    simp [wholeD, endAt, h2]
  · rw [List.drop_of_length_le (by omega)]
    simp [wholeD, endAt, h2]
theorem pwhole_length (bytes : List UInt8) : ∀ segs : List (Nat × Nat), (wholeD bytes segs).length = segs.length
  | [] => rfl
  | [s] => rfl
  | s :: q :: r => by simp only [wholeD, List.length_cons]; rw [pwhole_length bytes (q :: r)]; simp

def sg0 : Sg := ⟨0, ⟨#[]⟩⟩
theorem infoSg : (Tryz.prog.info? 38).map (fun i => (i.zero, i.size, i.bytes)) = some (some (.agg #[.int .u8 0, .string ⟨#[]⟩]), 2, 24) := by kernel_rfl

/-- 'make([]T, n)', at the operation. -/
theorem wpList_makeG {α : Type} (C : Code α) {P : Program} (w : World) {ops : Array Oper} {rest : List Oper} {o : Oper} {a : Act} {Q : Exit → Act → World → Prop}
    (hg : o.guard = none) (l c : Operand) (t e : TypeId) (hop : o.op = Op.makeSlice t l c) (z : Value) (bytes : Nat) (y : α) (hzy : z.cells.toList = C.enc y)
    (ht : P.underlying t = some (.slice e)) (hi : (P.info? e).map (fun i => (i.zero, i.size, i.bytes)) = some (some z, C.sz, bytes))
    (L : Int) (n : Nat) (hl : a.eval l = .int .i64 L) (hc : a.eval c = .int .i64 L) (hL : L = (n : Int)) (hn : bytes * n ≤ 140737488355328) (hn2 : n ≤ 140737488355328)
    (hK : ∀ w', OwnG C e w' w.heap.size (.slice (some ⟨w.heap.size, 0, none⟩) n n) (List.replicate n y) → w.grownBy w' none → wpList P ops Q rest (a.put o.dst (.slice (some ⟨w.heap.size, 0, none⟩) n n)) w') :
    wpList P ops Q (o :: rest) a w := by
  obtain ⟨i, hi0, hz, hs1, hb1⟩ := info_parts hi
  refine wpList_make_full w hg l c t hop w.heap.size e i z C.sz ht hi0 hz hs1 .i64 .i64 L L n hl hc hL hL (by rw [hb1]; omega) (by simp only [maxLen]; omega) (Nat.le_refl _) fun w' h1 h2 => hK w' ?_ h2
  unfold OwnG
  rw [made_all C y z.cells hzy n] at h1
  rw [List.length_replicate]
  exact h1

theorem conv_mid {w : World} {d m c e f : Nat} {A : Option Addr} {l : List UInt8} (h : Shows w d (.slice A m c) l) (he : e ≤ m) (hf : f ≤ e) :
    (convert 47 9 (.slice (if c = f then A else Option.map (fun x => x.add f) A) (e - f) (c - f))).run Tryz.prog w = .ok (.string (str8 ((l.take e).drop f))) w := by
  obtain ⟨hl, hc, _⟩ := h.lens
  have h1 := h.head (k := e) (by omega)
  exact conv_at (h1.tail (k := f) (by rw [List.length_take]; omega) _ (fun hne => by rw [if_neg hne]))

theorem sgm_cell {w : World} {d o : Nat} {l : List (Nat × Nat)} (h : ∀ j (h : j < l.length) k, k < sgmC.sz → w.cell? ⟨d, o + (j * sgmC.sz + k), none⟩ = (sgmC.enc l[j])[k]?) {k : Nat} (hk : k < l.length) :
    w.cell? ⟨d, o + k * 2, none⟩ = some (.int .u8 (l[k].1 : Nat)) ∧ w.cell? ⟨d, o + k * 2 + 1, none⟩ = some (.int .i64 (l[k].2 : Nat)) :=
  ⟨h k hk 0 (by decide), h k hk 1 (by decide)⟩

def WholeSaid (p : Pt) (w : World) (e : Ending) (w' : World) : Prop := ∃ v, e = .returned v ∧ OwnG sgC 38 w' w.heap.size v (wholeD p.bytes p.segs) ∧ Below w.heap.size w w'

set_option maxRecDepth 100000 in
set_option maxHeartbeats 8000000 in
theorem pwhole_any (pb d1 d2 c1 c2 : Nat) (A1 A2 : Option Addr) (p : Pt) (w : World) (hX : BoxP w pb (.slice A1 p.segs.length c1) (.slice A2 p.bytes.length c2) p.head p.whole) (h1 : ShowsG sgmC w d1 (.slice A1 p.segs.length c1) p.segs) (h2 : Shows w d2 (.slice A2 p.bytes.length c2) p.bytes)
    (hs : p.segs.length ≤ 1000) (hy : p.bytes.length ≤ 16384) (hm : ∀ k (h : k < p.segs.length), p.segs[k].2 ≤ endAt p.bytes p.segs (k + 1)) (he : ∀ j, endAt p.bytes p.segs j ≤ p.bytes.length) :
    Calls Tryz.prog 30 #[.pointer (some ⟨pb, 0, none⟩)] w (WholeSaid p w) := by
  obtain ⟨segs, bytes, head, whole⟩ := p
  simp only at *
  unfold WholeSaid
  have HX := Lib.hid (fun w' (hb : Below w.heap.size w w') => hX.kept hb (Nat.le_refl _))
  have H1 := Lib.hid (fun w' (hb : Below w.heap.size w w') => h1.below' hb (Nat.le_refl _))
  have H2 := Lib.hid (fun w' (hb : Below w.heap.size w w') => h2.keep hb.size fun hp => hb.block d2 (h2.lt hp))
  have HM := Lib.hid hm
  have HE := Lib.hid he
  have HWS := Lib.hid (pwhole_step bytes segs)
  have x0 := hX.c0
  have x1 := hX.c1
  have hend : endAt bytes segs segs.length = bytes.length := by simp [endAt]
  clear hX h1 h2 hm he
  go_enter Tryz.func30, Tryz.ntmps30
  go_wp2_with (refine wpList_makeG sgC _ rfl (.tmp 11) (.tmp 11) 39 38 rfl (.agg #[.int .u8 0, .string ⟨#[]⟩]) 24 sg0 rfl Tryz.underlying39 infoSg _ segs.length rfl rfl rfl (by omega) (by omega) ?_
               intro w1 ho1 hg1
               have hb1 : Below w.heap.size w w1 := (Below.refl _ _).grown hg1 (Nat.le_refl _) (fun k hk => by cases hk)
               have z1 := (HX.out w1 hb1).c1)
  have hend2 := Lib.hid hend
  have HB1 := Lib.hid hb1
  have hw1 : wrap64 ((segs.length : Int) - 1) = (segs.length : Int) - 1 := w64_id _ (by omega) (by omega)
  have hw2 : IntKind.i64.wrap ((segs.length : Int) - 1) = (segs.length : Int) - 1 := i64_id _ (by omega) (by omega)
  clear hend hb1 hg1 x0 x1
  have HO1 : OwnG sgC 38 w1 w.heap.size (.slice (some ⟨w.heap.size, 0, none⟩) segs.length segs.length) (List.replicate segs.length sg0 ++ wholeD bytes (segs.drop segs.length)) := by
    rw [List.drop_of_length_le (Nat.le_refl _)]
    simpa [wholeD] using ho1
  rw [← hend2.out]
  clear ho1 z1
  go_loopw [4, 5] (fun x i wr => ∃ j : Nat, j ≤ segs.length ∧ i = .int .i64 ((j : Int) - 1) ∧ x = .int .i64 (endAt bytes segs j) ∧ OwnG sgC 38 wr w.heap.size (.slice (some ⟨w.heap.size, 0, none⟩) segs.length segs.length) (List.replicate j sg0 ++ wholeD bytes (segs.drop j)) ∧ Hid (Below w.heap.size w wr)) (fun _ i _ => (intOf i + 1).toNat)
  case atStart => exact ⟨segs.length, Nat.le_refl _, rfl, rfl, HO1, HB1⟩
  case round =>
    clear HO1 HB1 hw1 hw2 hend2
    obtain ⟨j, hj, rfl, rfl, hO, HB⟩ := hrel
    rename World => wj
    rcases j with _ | k
    · have e0 : (((0 : Nat) : Int) - 1) = -1 := by omega
      rw [e0]
      clear e0
      go_wp2_with fail
      go_ret
      refine ⟨_, rfl, ?_, HB.out⟩
      simpa using hO
    · have e0 : (((k + 1 : Nat) : Int) - 1) = (k : Int) := by omega
      rw [e0]
      clear e0
      have hkl : k < segs.length := by omega
      have hkI : (k : Int) < (segs.length : Int) := by omega
      have hk0 : (0 : Int) ≤ (k : Int) := by omega
      have hw1 : wrap64 ((k : Int) - 1) = (k : Int) - 1 := w64_id _ (by omega) (by omega)
      have hw2 : IntKind.i64.wrap ((k : Int) - 1) = (k : Int) - 1 := i64_id _ (by omega) (by omega)
      have hsz : w.heap.size < wj.heap.size := by
        obtain ⟨b, hb, h3, h4, _⟩ := hO.at_ (by omega)
        cases hb
        exact h4
      obtain ⟨o1, rfl, hd1, hcl⟩ := (H1.out wj HB.out).at_ (by omega)
      obtain ⟨y0, y1⟩ := sgm_cell hcl hkl
      have z0 := (HX.out wj HB.out).c0
      have hlen : (List.replicate (k + 1) sg0 ++ wholeD bytes (segs.drop (k + 1))).length = segs.length := by rw [List.length_append, List.length_replicate, pwhole_length, List.length_drop]; omega
      have hstep := HWS.out k hkl
      have hfe := HM.out k hkl
      have hem := HE.out (k + 1)
      have hfk : endAt bytes segs k = segs[k].2 := by simp [endAt, hkl]
      generalize segs[k].1 = t at *
      generalize hff : segs[k].2 = f at *
      generalize endAt bytes segs (k + 1) = e at *
      have hbA : Below w.heap.size w (wj.alloc (Obj.cells #[.int .u8 t, .int .i64 f] 115)) := HB.out.alloc HB.out.size _
      have z1 := (HX.out _ hbA).c1
      have hsh2 := (H2.out _ hbA)
      have hconv := Lib.hid (conv_mid (w := (wj.alloc (Obj.cells #[.int .u8 t, .int .i64 f] 115)).drew) hsh2 hem hfe)
      obtain ⟨b, hb, hb1, hb2, hfr, hcc⟩ := hO.at_ (by omega)
      cases hb
      have s0 := hcc k (by omega) 0 (by decide)
      have s1 := hcc k (by omega) 1 (by decide)
      have fr0 := hfr (k * 2)
      have fr1 := hfr (k * 2 + 1)
      have hset := hO.set_ k 0 (by omega) (by decide) ⟨t, ⟨#[]⟩⟩ (.int .u8 t) (by
        rw [List.getElem_append_left (by simp)]
        simp [sgC, sg0])
      have hset2 := hset.set_ k 1 (by rw [List.length_set]; omega) (by decide) ⟨t, str8 ((bytes.take e).drop f)⟩ (.string (str8 ((bytes.take e).drop f))) (by
        rw [List.getElem_set_self]
        simp [sgC])
      have hfin : ((List.replicate (k + 1) sg0 ++ wholeD bytes (segs.drop (k + 1))).set k ⟨t, ⟨#[]⟩⟩).set k ⟨t, str8 ((bytes.take e).drop f)⟩ = List.replicate k sg0 ++ wholeD bytes (segs.drop k) := by
        rw [List.set_set, List.replicate_succ', List.append_assoc, List.set_append_right _ _ (by simp), List.length_replicate, Nat.sub_self, hstep]
        rfl
      rw [hfin] at hset2
      have HSET := Lib.hid (hset2.alloc_ (Obj.cells #[.int .u8 t, .int .i64 f] 115))
      have HFK := Lib.hid hfk
      have HBA := Lib.hid hbA
      have heI : (f : Int) ≤ (e : Int) := by omega
      have hemI : (e : Int) ≤ (bytes.length : Int) := by omega
      obtain ⟨_, hlc2, _⟩ := hsh2.lens
      have heC : (e : Int) ≤ (c2 : Int) := by omega
      have s0' : wj.cell? ⟨w.heap.size, k * 2, none⟩ = some (.int .u8 (0 : Nat)) := by
        rw [show sgC.sz = 2 from rfl, Nat.add_zero] at s0
        rw [s0, List.getElem_append_left (by simp)]
        simp [sgC, sg0]
      have s1' : wj.cell? ⟨w.heap.size, k * 2 + 1, none⟩ = some (.string ⟨#[]⟩) := by
        rw [show sgC.sz = 2 from rfl] at s1
        rw [s1, List.getElem_append_left (by simp)]
        simp [sgC, sg0]
      have hcv := hconv.out
      generalize str8 ((bytes.take e).drop f) = S at *
      clear hcl hlen hstep hfe hem hfk hbA hsh2 hcc s0 s1 hfr hset hset2 hfin hO hconv hff
      go_upto_region 7 with fail
      go_region
      all_goals
        go_wp2_with fail
        go_roundw
        case rel => exact ⟨k, by omega, rfl, by rw [HFK.out], HSET.out.keep fun _ _ => rfl, Lib.hid (below_drew1 ((below_set (below_set HB.out (Nat.le_refl _) _) (Nat.le_refl _) _).alloc (by simp; omega) _))⟩
        case measure => simp [intOf] <;> omega

end Go.Proofs.YtdjahdnaihijjaaGreatDoor
