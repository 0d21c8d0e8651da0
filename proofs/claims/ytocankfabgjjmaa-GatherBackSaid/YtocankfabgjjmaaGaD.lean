/-
  The contract of add of gather's partial.
  Conditions: none but sizes.
-/
import Derived.Test.YtocankfabgjjmaaGaCb
import Derived.Test.YtocankfabgjjmaaGaW
import Derived.Deep.RegionLaw
import Derived.Deep.CutRange
import Derived.Deep.CutBlock
import Derived.StillTailTactics
import Derived.Deep.DeepCutAuto
namespace Go.Proofs.Ytocankfabgjjmaa
open Go.RowKit
set_option linter.unusedVariables false
set_option linter.unusedSimpArgs false

/-- How a segment of what is open lies: two cells. -/
def sgmC : Code (Nat × Nat) := { enc := fun s => [.int .u8 s.1, .int .i64 s.2], sz := 2, len := fun _ => rfl, one := fun x u hu => by simp at hu; rcases hu with rfl | rfl <;> rfl, pos := by omega }
theorem infoSgm : (Try.prog.info? 74).map (fun i => (i.zero, i.size, i.bytes)) = some (some (.agg #[.int .u8 0, .int .i64 0]), 2, 16) := by kernel_rfl

section
variable {α : Type} {C : Code α} {e e' : TypeId} {w : World} {base b : Nat} {v : Value} {l : List α} {cs : Array Value} {fr : Nat × Nat}
theorem own_ne (h : OwnG C e w base v l) (hb : w.heap[b]? = some (.cells cs e' fr)) (he : e ≠ e') : v.ownBlock ≠ some b := by
  intro hv
  rcases h.2 with ⟨rfl, _⟩ | ⟨g, cap, cur, rfl, _, hg, _⟩
  · cases hv
  · cases hv
    rw [hg] at hb
    injection hb with hb
    injection hb with _ h2 _
    exact he h2
theorem own8_ne {m : List UInt8} (h : Own e w base v m) (hb : w.heap[b]? = some (.cells cs e' fr)) (he : e ≠ e') : v.ownBlock ≠ some b := by
  intro hv
  rcases h.2 with ⟨rfl, _⟩ | ⟨g, cap, cur, rfl, _, hg, _⟩
  · cases hv
  · cases hv
    rw [hg] at hb
    injection hb with hb
    injection hb with _ h2 _
    exact he h2
theorem own_own_ne {m : List UInt8} {base' : Nat} {v' : Value} (h : OwnG C e w base v l) (h8 : Own e' w base' v' m) (he : e ≠ e') : ∀ k, v.ownBlock = some k → v'.ownBlock ≠ some k := by
  intro k hk hk'
  rcases h8.2 with ⟨rfl, _⟩ | ⟨g, cap, cur, rfl, _, hg, _⟩
  · cases hk'
  · cases hk'
    exact own_ne h hg he hk
end

section
variable {w : World} {b : Nat} {v1 v2 : Value} {h : Fr} {x : Bool}
theorem BoxP.set0 (H : BoxP w b v1 v2 h x) (u : Value) : BoxP (w.setCell ⟨b, 0, none⟩ u) b u v2 h x := heap_setCell_same w b 0 _ 59 u H
theorem BoxP.set1 (H : BoxP w b v1 v2 h x) (u : Value) : BoxP (w.setCell ⟨b, 1, none⟩ u) b v1 u h x := heap_setCell_same w b 1 _ 59 u H
theorem BoxP.set9 (H : BoxP w b v1 v2 h x) (s : ByteArray) : BoxP (w.setCell ⟨b, 9, none⟩ (.string s)) b v1 v2 { h with p := s } x := heap_setCell_same w b 9 _ 59 (.string s) H
theorem BoxP.set10 (H : BoxP w b v1 v2 h x) (y : Bool) : BoxP (w.setCell ⟨b, 10, none⟩ (.bool y)) b v1 v2 h y := heap_setCell_same w b 10 _ 59 (.bool y) H
theorem BoxP.set2 (H : BoxP w b v1 v2 h x) (y : Bool) : BoxP (w.setCell ⟨b, 2, none⟩ (.bool y)) b v1 v2 { h with a := y } x := heap_setCell_same w b 2 _ 59 (.bool y) H
theorem BoxP.set3 (H : BoxP w b v1 v2 h x) (y : Bool) : BoxP (w.setCell ⟨b, 3, none⟩ (.bool y)) b v1 v2 { h with b := y } x := heap_setCell_same w b 3 _ 59 (.bool y) H
theorem BoxP.set4 (H : BoxP w b v1 v2 h x) (y : Bool) : BoxP (w.setCell ⟨b, 4, none⟩ (.bool y)) b v1 v2 { h with c := y } x := heap_setCell_same w b 4 _ 59 (.bool y) H
theorem BoxP.set5 (H : BoxP w b v1 v2 h x) (y : Bool) : BoxP (w.setCell ⟨b, 5, none⟩ (.bool y)) b v1 v2 { h with d := y } x := heap_setCell_same w b 5 _ 59 (.bool y) H
theorem BoxP.set6 (H : BoxP w b v1 v2 h x) (y : Nat) : BoxP (w.setCell ⟨b, 6, none⟩ (.int .u8 (y : Nat))) b v1 v2 { h with t := y } x := heap_setCell_same w b 6 _ 59 (.int .u8 (y : Nat)) H
theorem BoxP.set7 (H : BoxP w b v1 v2 h x) (y : Nat) : BoxP (w.setCell ⟨b, 7, none⟩ (.int .u8 (y : Nat))) b v1 v2 { h with k := y } x := heap_setCell_same w b 7 _ 59 (.int .u8 (y : Nat)) H
theorem BoxP.set8 (H : BoxP w b v1 v2 h x) (y : Nat) : BoxP (w.setCell ⟨b, 8, none⟩ (.int .u16 (y : Nat))) b v1 v2 { h with ch := y } x := heap_setCell_same w b 8 _ 59 (.int .u16 (y : Nat)) H
theorem BoxP.setHead (H : BoxP w b v1 v2 h x) (g : Fr) :
    BoxP ((((((((w.setCell ⟨b, 2, none⟩ (.bool g.a)).setCell ⟨b, 3, none⟩ (.bool g.b)).setCell ⟨b, 4, none⟩ (.bool g.c)).setCell ⟨b, 5, none⟩ (.bool g.d)).setCell ⟨b, 6, none⟩ (.int .u8 g.t)).setCell ⟨b, 7, none⟩ (.int .u8 g.k)).setCell ⟨b, 8, none⟩ (.int .u16 g.ch)).setCell ⟨b, 9, none⟩ (.string g.p)) b v1 v2 g x :=
  (((((((H.set2 g.a).set3 g.b).set4 g.c).set5 g.d).set6 g.t).set7 g.k).set8 g.ch).set9 g.p
end

/-- What add may turn: the box and the two rows. -/
def addF (pb : Nat) (v1 v2 : Value) (k : Nat) : Prop := k = pb ∨ v1.ownBlock = some k ∨ v2.ownBlock = some k

/-- add on its way. -/
structure AddR (w0 : World) (B pb : Nat) (f : Fr) (v1 v2 : Value) (v1' v2' : Value) (s : List (Nat × Nat)) (y : List UInt8) (h : Fr) (x : Bool) (w : World) : Prop where
  base : B ≤ w0.heap.size
  lt : pb < w0.heap.size
  box : BoxF w w0.heap.size f
  pt : BoxP w pb v1' v2' h x
  o1 : OwnG sgmC 74 w B v1' s
  o2 : Own 5 w B v2' y
  w1 : v1'.ownBlock = v1.ownBlock ∨ ∃ k, v1'.ownBlock = some k ∧ w0.heap.size ≤ k
  w2 : v2'.ownBlock = v2.ownBlock ∨ ∃ k, v2'.ownBlock = some k ∧ w0.heap.size ≤ k
  mv : Moved (addF pb v1 v2) w0 w

section
variable {w0 w : World} {B pb : Nat} {f h : Fr} {v1 v2 v1' v2' : Value} {s : List (Nat × Nat)} {y : List UInt8} {x : Bool}
theorem AddR.drew (r : AddR w0 B pb f v1 v2 v1' v2' s y h x w) : AddR w0 B pb f v1 v2 v1' v2' s y h x w.drew :=
  ⟨r.base, r.lt, r.box, r.pt, r.o1, r.o2, r.w1, r.w2, r.mv.drew⟩
theorem AddR.size (r : AddR w0 B pb f v1 v2 v1' v2' s y h x w) : w0.heap.size < w.heap.size := r.box.lt
theorem AddR.alloc (r : AddR w0 B pb f v1 v2 v1' v2' s y h x w) (o : Obj) : AddR w0 B pb f v1 v2 v1' v2' s y h x (w.alloc o) :=
  ⟨r.base, r.lt, r.box.kept (f_below_box w o) (Nat.le_refl _), r.pt.kept (f_below_box w o) (Nat.le_refl _), r.o1.alloc_ o, r.o2.alloc_ o, r.w1, r.w2,
    r.mv.trans (Moved.of_below (F := fun _ => False) (f_below_box w o)) (fun _ _ h => h.elim)⟩
/-- A store into the box. -/
theorem AddR.set (r : AddR w0 B pb f v1 v2 v1' v2' s y h x w) {i : Nat} {u : Value} {h' : Fr} {x' : Bool} (hp : BoxP (w.setCell ⟨pb, i, none⟩ u) pb v1' v2' h' x') : AddR w0 B pb f v1 v2 v1' v2' s y h' x' (w.setCell ⟨pb, i, none⟩ u) := by
  have hne : ∀ k, k ≠ pb → (w.setCell ⟨pb, i, none⟩ u).heap[k]? = w.heap[k]? := fun k hk => Below.heap_setCell _ _ _ _ (by show k ≠ _; exact hk)
  have hlt := r.lt
  exact ⟨r.base, r.lt, (hne _ (by omega)).trans r.box, hp, r.o1.keep fun g hg => hne g (fun e => by subst e; exact own_ne r.o1 r.pt (by decide) hg), r.o2.keep fun g hg => hne g (fun e => by subst e; exact own8_ne r.o2 r.pt (by decide) hg), r.w1, r.w2,
    r.mv.setCell (fun _ => .inl rfl) i u⟩
/-- An append onto the segments, stored. -/
theorem AddR.seg (r : AddR w0 B pb f v1 v2 v1' v2' s y h x w) {s' : List (Nat × Nat)} {u : Value} {w8 : World} (ho : OwnG sgmC 74 w8 B u s') (hg : w.grownBy w8 v1'.ownBlock) (hw : u.ownBlock = v1'.ownBlock ∨ u.ownBlock = some w.heap.size) :
    BoxP w8 pb v1' v2' h x ∧ AddR w0 B pb f v1 v2 u v2' s' y h x (w8.setCell ⟨pb, 0, none⟩ u) := by
  have hsz := r.size
  have hkeep : ∀ k, k < w.heap.size → v1'.ownBlock ≠ some k → w8.heap[k]? = w.heap[k]? := fun k hk hne => hg.block k hk (fun e => hne e.symm)
  have hp8 : BoxP w8 pb v1' v2' h x := (hkeep _ r.pt.lt (own_ne r.o1 r.pt (by decide))).trans r.pt
  refine ⟨hp8, ?_⟩
  have hb8 : BoxF w8 w0.heap.size f := (hkeep _ r.box.lt (own_ne r.o1 r.box (by decide))).trans r.box
  have ho2 : Own 5 w8 B v2' y := r.o2.keep fun k hk => hkeep k (r.o2.block k hk).2 (fun e => own_own_ne r.o1 r.o2 (by decide) k e hk)
  have hw0 : u.ownBlock = v1.ownBlock ∨ ∃ k, u.ownBlock = some k ∧ w0.heap.size ≤ k := by
    rcases hw with hw | hw
    · rw [hw]; exact r.w1
    · exact .inr ⟨_, hw, by omega⟩
  have hmv : Moved (addF pb v1 v2) w0 w8 := r.mv.trans (Moved.of_grown (F := fun k => v1'.ownBlock = some k) hg (fun k hk => hk)) (fun k hk hk' => by
    rcases r.w1 with hw | ⟨j, hj, hj'⟩
    · exact .inr (.inl (hw ▸ hk'))
    · rw [hj] at hk'
      cases hk'
      omega)
  have hne : ∀ k, k ≠ pb → (w8.setCell ⟨pb, 0, none⟩ u).heap[k]? = w8.heap[k]? := fun k hk => Below.heap_setCell _ _ _ _ (by show k ≠ _; exact hk)
  have hlt := r.lt
  exact ⟨r.base, r.lt, (hne _ (by omega)).trans hb8, hp8.set0 u, ho.keep fun g hg' => hne g (fun e => by subst e; exact own_ne ho hp8 (by decide) hg'), ho2.keep fun g hg' => hne g (fun e => by subst e; exact own8_ne ho2 hp8 (by decide) hg'), hw0, r.w2,
    hmv.setCell (fun _ => .inl rfl) 0 u⟩
/-- An append onto the bytes, stored. -/
theorem AddR.bytes (r : AddR w0 B pb f v1 v2 v1' v2' s y h x w) {y' : List UInt8} {u : Value} {w8 : World} (ho : Own 5 w8 B u y') (hg : w.grownBy w8 v2'.ownBlock) (hw : u.ownBlock = v2'.ownBlock ∨ ∃ k, u.ownBlock = some k ∧ w.heap.size ≤ k) :
    BoxP w8 pb v1' v2' h x ∧ AddR w0 B pb f v1 v2 v1' u s y' h x (w8.setCell ⟨pb, 1, none⟩ u) := by
  have hsz := r.size
  have hkeep : ∀ k, k < w.heap.size → v2'.ownBlock ≠ some k → w8.heap[k]? = w.heap[k]? := fun k hk hne => hg.block k hk (fun e => hne e.symm)
  have hp8 : BoxP w8 pb v1' v2' h x := (hkeep _ r.pt.lt (own8_ne r.o2 r.pt (by decide))).trans r.pt
  refine ⟨hp8, ?_⟩
  have hb8 : BoxF w8 w0.heap.size f := (hkeep _ r.box.lt (own8_ne r.o2 r.box (by decide))).trans r.box
  have ho1 : OwnG sgmC 74 w8 B v1' s := r.o1.keep fun k hk => hkeep k (r.o1.block k hk).2 (own_own_ne r.o1 r.o2 (by decide) k hk)
  have hw0 : u.ownBlock = v2.ownBlock ∨ ∃ k, u.ownBlock = some k ∧ w0.heap.size ≤ k := by
    rcases hw with hw | ⟨k, hw, hk⟩
    · rw [hw]; exact r.w2
    · exact .inr ⟨_, hw, by omega⟩
  have hmv : Moved (addF pb v1 v2) w0 w8 := r.mv.trans (Moved.of_grown (F := fun k => v2'.ownBlock = some k) hg (fun k hk => hk)) (fun k hk hk' => by
    rcases r.w2 with hw | ⟨j, hj, hj'⟩
    · exact .inr (.inr (hw ▸ hk'))
    · rw [hj] at hk'
      cases hk'
      omega)
  have hne : ∀ k, k ≠ pb → (w8.setCell ⟨pb, 1, none⟩ u).heap[k]? = w8.heap[k]? := fun k hk => Below.heap_setCell _ _ _ _ (by show k ≠ _; exact hk)
  have hlt := r.lt
  exact ⟨r.base, r.lt, (hne _ (by omega)).trans hb8, hp8.set1 u, ho1.keep fun g hg' => hne g (fun e => by subst e; exact own_ne ho1 hp8 (by decide) hg'), ho.keep fun g hg' => hne g (fun e => by subst e; exact own8_ne ho hp8 (by decide) hg'), r.w1, hw0,
    hmv.setCell (fun _ => .inl rfl) 1 u⟩
end

def AddSaid (f : Fr) (B pb : Nat) (v1 v2 : Value) (p : Pt) (w : World) (e : Ending) (w' : World) : Prop :=
  e = .returned (.tuple #[]) ∧ ∃ v1' v2', BoxP w' pb v1' v2' (p.add f).head (p.add f).whole ∧ OwnG sgmC 74 w' B v1' (p.add f).segs ∧ Own 5 w' B v2' (p.add f).bytes ∧
    (v1'.ownBlock = v1.ownBlock ∨ ∃ k, v1'.ownBlock = some k ∧ w.heap.size ≤ k) ∧ (v2'.ownBlock = v2.ownBlock ∨ ∃ k, v2'.ownBlock = some k ∧ w.heap.size ≤ k) ∧ Moved (addF pb v1 v2) w w'

set_option maxRecDepth 100000 in
set_option maxHeartbeats 8000000 in
theorem add_any (f : Fr) (B pb : Nat) (v1 v2 : Value) (p : Pt) (w : World) (hf : f.ok) (hp : f.p.size ≤ 4084) (hB : B ≤ w.heap.size) (hX : BoxP w pb v1 v2 p.head p.whole) (ho1 : OwnG sgmC 74 w B v1 p.segs) (ho2 : Own 5 w B v2 p.bytes)
    (hs : p.segs.length ≤ 1000) (hy : p.bytes.length ≤ 16384) : Calls Try.prog 15 #[.pointer (some ⟨pb, 0, none⟩), .agg f.vs.toArray] w (AddSaid f B pb v1 v2 p w) := by
  have hR : AddR w B pb f v1 v2 v1 v2 p.segs p.bytes p.head p.whole (w.alloc (Obj.cells #[.bool f.a, .bool f.b, .bool f.c, .bool f.d, .int .u8 f.t, .int .u8 f.k, .int .u16 f.ch, .string f.p] 30)) :=
    ⟨hB, hX.lt, BoxF.new w f, hX.kept (f_below_box _ _) (Nat.le_refl _), ho1.alloc_ _, ho2.alloc_ _, .inl rfl, .inl rfl, Moved.of_below (f_below_box _ _)⟩
  have HR := Lib.hid hR
  unfold AddSaid
  obtain ⟨A1, c1, hv1, _, _⟩ := ho1.form
  obtain ⟨A2, c2, hv2, _, _⟩ := ho2.form
  clear hR hX ho1 ho2
  subst hv1
  subst hv2
  obtain ⟨segs, bytes, ⟨ha, hb, hc, hd, ht, hk, hch, hpp⟩, whole⟩ := p
  obtain ⟨fa, fb, fc, fd, ft, fk, fch, fp⟩ := f
  simp only [Fr.vs, Pt.add] at *
  cases fc with
  | false =>
    obtain ⟨W1, hW1⟩ : ∃ W1, W1 = w.alloc (Obj.cells #[.bool fa, .bool fb, .bool false, .bool fd, .int .u8 ft, .int .u8 fk, .int .u16 fch, .string fp] 30) := ⟨_, rfl⟩
    have x2 := HR.out.box.c2
    go_enter Try.func15, Try.ntmps15
    go_upto_region 5 with fail
    clear x2
    rw [← hW1] at HR ⊢
    clear hW1
    have hRd := HR.out.drew
    have p1 := HR.out.pt.c1
    have y7 := HR.out.box.c7
    have p1' : W1.drew.cell? ⟨pb, 1, none⟩ = _ := p1
    have y7' : W1.drew.cell? ⟨w.heap.size, 7, none⟩ = _ := y7
    clear p1 y7
    go_cut [0] from 31 to 40 (fun z wx => z = .pointer (some ⟨pb, 0, none⟩) ∧ ∃ v2', AddR w B pb ⟨fa, fb, false, fd, ft, fk, fch, fp⟩ (.slice A1 segs.length c1) (.slice A2 bytes.length c2) (.slice A1 segs.length c1) v2' segs (bytes ++ sb fp) ⟨ha, hb, hc, hd, ht, hk, hch, hpp⟩ whole wx)
    case first =>
      clear HR
      go_region_law ((refine step_append8sW _ rfl (.tmp 35) (.tmp 37) 57 9 rfl B 5 Try.underlying57 Try.underlying9 info5 (.slice A2 bytes.length c2) bytes rfl hRd.o2 fp rfl (by omega) (by have := hRd.size; have := hRd.base; omega) ?_
                      intro v8 w8 ho8 hg8 hwh8
                      obtain ⟨A8, n8, c8, rfl⟩ : ∃ A n c, v8 = .slice A n c := by
                        obtain ⟨A, c, e, _⟩ := ho8.form
                        exact ⟨_, _, _, e⟩
                      have hq := hRd.bytes ho8 hg8 hwh8
                      have f8 := hq.1.fr 1
                      have hq2 := Lib.hid hq.2
                      have q8 := hq.1.c1
                      clear hq ho8 hg8 hwh8))
      all_goals
        go_wp2_with fail
        go_meet
        exact ⟨rfl, _, hq2.out⟩
    case rest =>
      obtain ⟨rfl, v2', hR⟩ := hcut
      rename World => w9
      have z3 := hR.box.c3
      have f10 := hR.pt.fr 10
      have q10 := hR.pt.c10
      have HF := Lib.hid (hR.set (hR.pt.set10 fd))
      clear HR hRd p1' y7' hR
      go_wp2_with fail
      go_end0
      exact ⟨rfl, _, _, HF.out.pt, by simpa using HF.out.o1, HF.out.o2, HF.out.w1, HF.out.w2, HF.out.mv⟩
  | true =>
    obtain ⟨W1, hW1⟩ : ∃ W1, W1 = w.alloc (Obj.cells #[.bool fa, .bool fb, .bool true, .bool fd, .int .u8 ft, .int .u8 fk, .int .u16 fch, .string fp] 30) := ⟨_, rfl⟩
    have x2 := HR.out.box.c2
    go_enter Try.func15, Try.ntmps15
    go_upto_region 2 with fail
    clear x2
    rw [← hW1] at HR ⊢
    clear hW1
    have hRd := HR.out.drew
    obtain ⟨L, hL⟩ : ∃ L, L = Obj.cells #[.int .u8 ft, .int .i64 bytes.length] 74 := ⟨_, rfl⟩
    have hRl := (HR.out.alloc (Obj.cells #[.int .u8 ft, .int .i64 bytes.length] 74)).drew
    have p0 : W1.drew.cell? ⟨pb, 0, none⟩ = _ := hRd.pt.c0
    have p1 : W1.drew.cell? ⟨pb, 1, none⟩ = _ := hRd.pt.c1
    have p4 : W1.drew.cell? ⟨w.heap.size, 4, none⟩ = _ := hRd.box.c4
    have l0 : (W1.alloc (Obj.cells #[.int .u8 ft, .int .i64 bytes.length] 74)).cell? ⟨pb, 0, none⟩ = _ := hRl.pt.c0
    clear L hL
    go_cut [0] from 6 to 22 (fun z wx => z = .pointer (some ⟨pb, 0, none⟩) ∧ ∃ v1', AddR w B pb ⟨fa, fb, true, fd, ft, fk, fch, fp⟩ (.slice A1 segs.length c1) (.slice A2 bytes.length c2) v1' (.slice A2 bytes.length c2) (segs ++ [(ft, bytes.length)]) bytes ⟨ha, hb, hc, hd, ht, hk, hch, hpp⟩ whole wx)
    case first =>
      clear HR
      go_region_law ((refine step_appendGW sgmC _ rfl (.tmp 10) (.tmp 19) 56 rfl B 74 (.agg #[.int .u8 0, .int .i64 0]) 16 Try.underlying56 infoSgm rfl (.slice A1 segs.length c1) segs rfl hRl.o1 W1.heap.size (.slice (some ⟨W1.heap.size, 0, none⟩) 1 1) [(ft, bytes.length)] rfl (ShowsG.lit (C := sgmC) [(ft, bytes.length)] (by simp [Code.all, sgmC]) (by simp [maxLen])) (by simp) (by simp; omega) (by simp; omega) (by have := hRl.size; have := hRl.base; omega) ?_
                      intro v8 w8 ho8 hg8 hwh8
                      obtain ⟨A8, n8, c8, rfl⟩ : ∃ A n c, v8 = .slice A n c := by
                        obtain ⟨A, c, e, _⟩ := ho8.form
                        exact ⟨_, _, _, e⟩
                      have hq := hRl.seg ho8 hg8 hwh8
                      have f8 := hq.1.fr 0
                      have hq2 := Lib.hid hq.2
                      have q8 := hq.1.c0
                      clear hq ho8 hg8 hwh8))
      all_goals
        go_wp2_with fail
        go_meet
        exact ⟨rfl, _, hq2.out⟩
    case rest =>
      obtain ⟨rfl, v1', hR⟩ := hcut
      rename World => w3
      have z0 := hR.box.c0
      have z1 := hR.box.c1
      have z2 := hR.box.c2
      have z3 := hR.box.c3
      have z4 := hR.box.c4
      have z5 := hR.box.c5
      have z6 := hR.box.c6
      have z7 := hR.box.c7
      have fz := hR.pt.fr
      have t2 := hR.pt.c2
      have t3 := hR.pt.c3
      have t4 := hR.pt.c4
      have t5 := hR.pt.c5
      have t6 := hR.pt.c6
      have t7 := hR.pt.c7
      have t8 := hR.pt.c8
      have t9 := hR.pt.c9
      have hS := (((((((hR.set (hR.pt.set2 fa)).set (((hR.pt.set2 fa)).set3 fb)).set (((hR.pt.set2 fa).set3 fb).set4 true)).set ((((hR.pt.set2 fa).set3 fb).set4 true).set5 fd)).set (((((hR.pt.set2 fa).set3 fb).set4 true).set5 fd).set6 ft)).set ((((((hR.pt.set2 fa).set3 fb).set4 true).set5 fd).set6 ft).set7 fk)).set (((((((hR.pt.set2 fa).set3 fb).set4 true).set5 fd).set6 ft).set7 fk).set8 fch))
      have hS2 := hS.set (hS.pt.set9 fp)
      have hS3 := hS2.set (hS2.pt.set9 ⟨#[]⟩)
      have HF1 := Lib.hid hS3
      clear HR hRd hRl p0 p1 p4 l0 hR hS hS2 hS3
      go_upto_region 5 with fail
      clear z0 z1 z2 z3 z4 z5 z6 z7 fz t2 t3 t4 t5 t6 t7 t8 t9
      have HR := HF1
      revert HR
      clear HF1
      generalize (((((((((w3.setCell ⟨pb, 2, none⟩ (.bool fa)).setCell ⟨pb, 3, none⟩ (.bool fb)).setCell ⟨pb, 4, none⟩ (.bool true)).setCell ⟨pb, 5, none⟩ (.bool fd)).setCell ⟨pb, 6, none⟩ (.int .u8 ft)).setCell ⟨pb, 7, none⟩ (.int .u8 fk)).setCell ⟨pb, 8, none⟩ (.int .u16 fch)).setCell ⟨pb, 9, none⟩ (.string fp)).setCell ⟨pb, 9, none⟩ (.string ⟨#[]⟩)) = W5
      intro HR
      have hRd := HR.out.drew
      have p1' : W5.drew.cell? ⟨pb, 1, none⟩ = _ := HR.out.pt.c1
      have y7' : W5.drew.cell? ⟨w.heap.size, 7, none⟩ = _ := HR.out.box.c7
      go_cut [0] from 31 to 40 (fun z wx => z = .pointer (some ⟨pb, 0, none⟩) ∧ ∃ v2', AddR w B pb ⟨fa, fb, true, fd, ft, fk, fch, fp⟩ (.slice A1 segs.length c1) (.slice A2 bytes.length c2) v1' v2' (segs ++ [(ft, bytes.length)]) (bytes ++ sb fp) ⟨fa, fb, true, fd, ft, fk, fch, ⟨#[]⟩⟩ whole wx)
      case first =>
        clear HR
        go_region_law ((refine step_append8sW _ rfl (.tmp 35) (.tmp 37) 57 9 rfl B 5 Try.underlying57 Try.underlying9 info5 (.slice A2 bytes.length c2) bytes rfl hRd.o2 fp rfl (by omega) (by have := hRd.size; have := hRd.base; omega) ?_
                        intro v8 w8 ho8 hg8 hwh8
                        obtain ⟨A8, n8, c8, rfl⟩ : ∃ A n c, v8 = .slice A n c := by
                          obtain ⟨A, c, e, _⟩ := ho8.form
                          exact ⟨_, _, _, e⟩
                        have hq := hRd.bytes ho8 hg8 hwh8
                        have f8 := hq.1.fr 1
                        have hq2 := Lib.hid hq.2
                        have q8 := hq.1.c1
                        clear hq ho8 hg8 hwh8))
        all_goals
          go_wp2_with fail
          go_meet
          exact ⟨rfl, _, hq2.out⟩
      case rest =>
        obtain ⟨rfl, v2', hR⟩ := hcut
        rename World => w9
        have z3 := hR.box.c3
        have f10 := hR.pt.fr 10
        have q10 := hR.pt.c10
        have HF := Lib.hid (hR.set (hR.pt.set10 fd))
        clear HR hRd p1' y7' hR
        go_wp2_with fail
        go_end0
        exact ⟨rfl, _, _, HF.out.pt, HF.out.o1, HF.out.o2, HF.out.w1, HF.out.w2, HF.out.mv⟩

end Go.Proofs.Ytocankfabgjjmaa
