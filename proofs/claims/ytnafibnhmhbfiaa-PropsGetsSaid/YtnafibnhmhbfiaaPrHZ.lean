/-
  The contract of a part's values.
  Conditions: none but sizes.
-/
import Derived.Deep.RegionHeld3
import Derived.Test.YtnafibnhmhbfiaaPrGZ
import Derived.Test.YtnafibnhmhbfiaaValIZ
import Derived.Test.YtnafibnhmhbfiaaValGZ
namespace Go.Proofs.Ytnafibnhmhbfiaa
open Go.RowKit
set_option linter.unusedVariables false
set_option linter.unusedSimpArgs false

/-- What a part's values tells. -/
def AppSaid (f b : Nat) (s : St) (g : Nat) (w : World) (e : Ending) (w' : World) : Prop :=
  ∃ vs, e = .returned (.agg vs.toArray) ∧ ShowsT (lowm w.heap.size w') (appR f b s) vs ∧ w.grownBy w' (some g)
noncomputable def gotT (l : List UInt8) : Tree := match getP l with | none => prZ | some (t, _) => t
/-- What Get tells, as a value. -/
theorem get_tree (v : Value) (d0 : Nat) (l : List UInt8) (w : World) (hv : Shows w d0 v l) (hl : l.length ≤ 140737488351232) :
    Calls Try.prog 20 #[v] w fun e w' => ∃ k n s a3 n3 c3 a4 n4 c4 i j, e = .returned (.tuple #[.agg #[.int .u8 (k : Nat), .int .u64 (n : Nat), .string s, .slice a3 n3 c3, .slice a4 n4 c4], .int .i64 i, .int .i64 j]) ∧ ShowsT (lowm w.heap.size w') (gotT l) [.int .u8 (k : Nat), .int .u64 (n : Nat), .string s, .slice a3 n3 c3, .slice a4 n4 c4] ∧ Below w.heap.size w w' := by
  refine (get_any v d0 l w hv hl).mono ?_
  rintro e w' ⟨hb, h⟩
  unfold gotT
  cases hg : getP l with
  | none =>
    rw [hg] at h
    exact ⟨0, 0, ⟨#[]⟩, none, 0, 0, none, 0, 0, 0, 5, h, zero_shows _, hb⟩
  | some p =>
    obtain ⟨t, n⟩ := p
    rw [hg] at h
    obtain ⟨vs, he, hs⟩ := h
    obtain ⟨k, m, s, a3, n3, c3, a4, n4, c4, rfl⟩ := hs.cells5
    exact ⟨k, m, s, a3, n3, c3, a4, n4, c4, n, 0, he, hs, hb⟩
theorem shows_farP {w w' : World} {d : Nat} {v : Value} {l : List UInt8} (h : Shows w d v l) (hb : Below w.heap.size w w') : Shows w' d v l := h.keep hb.size (fun hp => hb.block _ (h.lt hp))
/-- The region's worlds. -/
structure InV (w : World) (g d : Nat) (s : St) (wx : World) : Prop where
  rs : RS wx g d s
  gr : w.grownBy wx (some g)
  cell : wx.cell? ⟨w.heap.size, 0, none⟩ = some (.pointer (some ⟨g, 0, none⟩))
  res : wx.heap[w.heap.size + 1]? = some (.cells #[.int .u8 0, .int .u64 0, .string ⟨#[]⟩, .slice none 0 0, .slice none 0 0] 27 (0, 0))
theorem InV.below {w wx wy : World} {g d : Nat} {s : St} (h : InV w g d s wx) (hb : Below wx.heap.size wx wy) : InV w g d s wy :=
  ⟨h.rs.below hb, grown_below h.gr hb, cell_below h.cell hb, (hb.block _ (Array.getElem?_eq_some_iff.1 h.res).1).trans h.res⟩
theorem InV.alloc {w wx : World} {g d : Nat} {s : St} (h : InV w g d s wx) (o : Obj) : InV w g d s (wx.alloc o) := h.below (below_boxV _ _)
theorem InV.drew {w wx : World} {g d : Nat} {s : St} (h : InV w g d s wx) : InV w g d s wx.drew := h.below (below_drew1 (Below.refl _ _))
theorem InV.take {w wx wy : World} {g d : Nat} {s s' : St} (h : InV w g d s wx) (hg : wx.grownBy wy (some g)) (hr : RS wy g d s') (hgw : g < w.heap.size) : InV w g d s' wy :=
  ⟨hr, grown_trans' h.gr hg, cell_grown h.cell hg (by omega), (hg.block _ (Array.getElem?_eq_some_iff.1 h.res).1 (fun e => by have := Option.some.inj e; omega)).trans h.res⟩
theorem InV.left {w wx : World} {g d : Nat} {s : St} (h : InV w g d s wx) : Calls Try.prog 51 #[.pointer (some ⟨g, 0, none⟩)] wx fun e w' => e = .returned (.int .i64 (lenS s)) ∧ w' = wx := left_at g d s wx h.rs

theorem InV.lt {w wx : World} {g d : Nat} {s : St} (h : InV w g d s wx) : w.heap.size + 1 < wx.heap.size := (Array.getElem?_eq_some_iff.1 h.res).1
/-- A box of five zero cells. -/
def BoxZ (w : World) (k : Nat) : Prop := w.heap[k]? = some (.cells #[.int .u8 0, .int .u64 0, .string ⟨#[]⟩, .slice none 0 0, .slice none 0 0] 27 (0, 0))
theorem BoxZ.new (w : World) : BoxZ (w.alloc (Obj.cells #[.int .u8 0, .int .u64 0, .string ⟨#[]⟩, .slice none 0 0, .slice none 0 0] 27)) w.heap.size := heap_alloc_new w _
theorem BoxZ.below {w w' : World} {k : Nat} (h : BoxZ w k) (hb : Below w.heap.size w w') : BoxZ w' k := (hb.block _ (Array.getElem?_eq_some_iff.1 h).1).trans h
theorem BoxZ.grown {w w' : World} {k g : Nat} (h : BoxZ w k) (hg : w.grownBy w' (some g)) (hk : k ≠ g) : BoxZ w' k := (hg.block _ (Array.getElem?_eq_some_iff.1 h).1 (fun e => hk (Option.some.inj e))).trans h
theorem BoxZ.drew {w : World} {k : Nat} (h : BoxZ w k) : BoxZ w.drew k := h.below (below_drew1 (Below.refl _ _))
theorem BoxZ.facts {w : World} {k : Nat} (h : BoxZ w k) : (w.cell? ⟨k, 0, none⟩ = some (.int .u8 0) ∧ w.cell? ⟨k, 1, none⟩ = some (.int .u64 0) ∧ w.cell? ⟨k, 2, none⟩ = some (.string ⟨#[]⟩) ∧ w.cell? ⟨k, 3, none⟩ = some (.slice none 0 0) ∧ w.cell? ⟨k, 4, none⟩ = some (.slice none 0 0)) ∧
    (w.frozen? ⟨k, 0, none⟩ = false ∧ w.frozen? ⟨k, 1, none⟩ = false ∧ w.frozen? ⟨k, 2, none⟩ = false ∧ w.frozen? ⟨k, 3, none⟩ = false ∧ w.frozen? ⟨k, 4, none⟩ = false) :=
  ⟨⟨cell_of_row w k 0 _ 27 (0, 0) h, cell_of_row w k 1 _ 27 (0, 0) h, cell_of_row w k 2 _ 27 (0, 0) h, cell_of_row w k 3 _ 27 (0, 0) h, cell_of_row w k 4 _ 27 (0, 0) h⟩,
    ⟨frozen_of_row w k 0 _ 27 h, frozen_of_row w k 1 _ 27 h, frozen_of_row w k 2 _ 27 h, frozen_of_row w k 3 _ 27 h, frozen_of_row w k 4 _ 27 h⟩⟩
theorem keep1 {w : World} {a k : Nat} {v : Value} (h : w.cell? ⟨a, 0, none⟩ = some v) (hk : a ≠ k) (i : Nat) (u : Value) : (w.setCell ⟨k, i, none⟩ u).cell? ⟨a, 0, none⟩ = some v := by
  rw [← h]
  exact World.cell?_of_block (w := w) (Below.heap_setCell _ _ _ _ (by show a ≠ k; exact hk))
theorem keep5 {w : World} {a k : Nat} {v : Value} (h : w.cell? ⟨a, 0, none⟩ = some v) (hk : a ≠ k) (u0 u1 u2 u3 u4 : Value) :
    (((((w.setCell ⟨k, 0, none⟩ u0).setCell ⟨k, 1, none⟩ u1).setCell ⟨k, 2, none⟩ u2).setCell ⟨k, 3, none⟩ u3).setCell ⟨k, 4, none⟩ u4).cell? ⟨a, 0, none⟩ = some v :=
  keep1 (keep1 (keep1 (keep1 (keep1 h hk 0 u0) hk 1 u1) hk 2 u2) hk 3 u3) hk 4 u4
/-- Blocks from B on that were there are as they were. -/
structure Aft (B : Nat) (w7 wy : World) : Prop where
  size : w7.heap.size ≤ wy.heap.size
  block : ∀ k, B ≤ k → k < w7.heap.size → wy.heap[k]? = w7.heap[k]?
theorem Aft.refl (B : Nat) (w : World) : Aft B w w := ⟨Nat.le_refl _, fun _ _ _ => rfl⟩
theorem Aft.alloc {B : Nat} {w7 wy : World} (h : Aft B w7 wy) (o : Obj) : Aft B w7 (wy.alloc o) := ⟨by have := h.size; simp; omega, fun k h1 h2 => ((below_boxV wy o).block k (Nat.lt_of_lt_of_le h2 h.size)).trans (h.block k h1 h2)⟩
theorem Aft.set {B : Nat} {w7 wy : World} (h : Aft B w7 wy) {p : Nat} (hp : p < B ∨ w7.heap.size ≤ p) (i : Nat) (u : Value) : Aft B w7 (wy.setCell ⟨p, i, none⟩ u) :=
  ⟨by simpa using h.size, fun k h1 h2 => (Below.heap_setCell _ _ _ _ (by show k ≠ p; omega)).trans (h.block k h1 h2)⟩
theorem Aft.shows {B C : Nat} {w7 wy : World} (h : Aft B w7 wy) {t : Tree} {vs : List Value} (hs : ShowsT (lowm B w7) t vs) (hC : C ≤ B) : ShowsT (lowm C wy) t vs := (hs.sub (low_sub h.size h.block)).sub (low_anti hC)

theorem alloc_drew_lt (w : World) (o : Obj) : w.heap.size < (w.alloc o).drew.heap.size := by
  have : (w.alloc o).drew.heap.size = (w.alloc o).heap.size := rfl
  rw [this, World.size_alloc]
  exact Nat.lt_succ_self _
/-- Where the region ends: the value lies in a box at k. -/
structure EndV (w : World) (g : Nat) (T : Tree) (k : Nat) (vs : List Value) (wy : World) : Prop where
  shows : ∃ B w7, ShowsT (lowm B w7) T vs ∧ w.heap.size + 1 < B ∧ Aft B w7 wy
  gr : w.grownBy wy (some g)
  res : wy.heap[w.heap.size + 1]? = some (.cells #[.int .u8 0, .int .u64 0, .string ⟨#[]⟩, .slice none 0 0, .slice none 0 0] 27 (0, 0))
  box : wy.heap[k]? = some (.cells vs.toArray 27 (0, 0))
  far : w.heap.size + 1 < k
theorem EndV.new {w w7 : World} {g d : Nat} {s : St} {T : Tree} {B : Nat} {vs : List Value} (h : InV w g d s w7) (hs : ShowsT (lowm B w7) T vs) (hB : w.heap.size + 1 < B) : EndV w g T w7.heap.size vs (w7.alloc (.cells vs.toArray 27)) :=
  ⟨⟨B, w7, hs, hB, (Aft.refl _ _).alloc _⟩, (h.alloc _).gr, (h.alloc _).res, heap_alloc_new _ _, h.lt⟩
theorem EndV.old {w w7 : World} {g d : Nat} {s : St} {T : Tree} {B k : Nat} {u0 u1 u2 u3 u4 : Value} (h : InV w g d s w7) (hz : BoxZ w7 k) (hs : ShowsT (lowm B w7) T [u0, u1, u2, u3, u4]) (hk : w.heap.size + 1 < k) (hB : k < B) :
    EndV w g T k [u0, u1, u2, u3, u4] (((((w7.setCell ⟨k, 0, none⟩ u0).setCell ⟨k, 1, none⟩ u1).setCell ⟨k, 2, none⟩ u2).setCell ⟨k, 3, none⟩ u3).setCell ⟨k, 4, none⟩ u4) :=
  ⟨⟨B, w7, hs, by omega, (((((Aft.refl _ _).set (.inl hB) _ _).set (.inl hB) _ _).set (.inl hB) _ _).set (.inl hB) _ _).set (.inl hB) _ _⟩,
    grown_setP (grown_setP (grown_setP (grown_setP (grown_setP h.gr (by omega) _ _) (by omega) _ _) (by omega) _ _) (by omega) _ _) (by omega) _ _,
    (Below.heap_setCell _ _ _ _ (by show w.heap.size + 1 ≠ k; omega)).trans ((Below.heap_setCell _ _ _ _ (by show w.heap.size + 1 ≠ k; omega)).trans ((Below.heap_setCell _ _ _ _ (by show w.heap.size + 1 ≠ k; omega)).trans ((Below.heap_setCell _ _ _ _ (by show w.heap.size + 1 ≠ k; omega)).trans ((Below.heap_setCell _ _ _ _ (by show w.heap.size + 1 ≠ k; omega)).trans h.res)))),
    heap_setCell_same _ k 4 _ 27 u4 (heap_setCell_same _ k 3 _ 27 u3 (heap_setCell_same _ k 2 _ 27 u2 (heap_setCell_same _ k 1 _ 27 u1 (heap_setCell_same _ k 0 _ 27 u0 hz)))), hk⟩

set_option maxRecDepth 100000 in
set_option maxHeartbeats 8000000 in
theorem pvalR_any (g d f b : Nat) (B : Int) (s : St) (w : World) (h : RS w g d s) (hl : lenS s ≤ 140737488351232) (hf : f < 65536) (hb : b < 65536) (hB : B = (b : Int)) :
    Calls Try.prog 67 #[partV g f, .int .u64 B] w (AppSaid f b s g w) := by
  have HH := Lib.hid (fun w => phas_any g f b B w hf hb hB)
  have hglt := h.lt
  unfold AppSaid
  have he : appR f b s = if bitB f b = true then gotT (takeS (lenS s) s).1 else prZ := by
    unfold appR bitB gotT
    by_cases hz : f &&& b ≠ 0
    · rw [if_pos hz, if_pos (decide_eq_true hz)]; rfl
    · rw [if_neg hz, if_neg (by simp only [decide_eq_true_eq]; exact hz)]
  rw [he]
  have hxl : (takeS (lenS s) s).1.length ≤ 140737488351232 := Nat.le_trans (takeS_fst_le _ _) hl
  have hB1 := below_boxV w (Obj.cells #[.pointer (some ⟨g, 0, none⟩), .int .u64 f] 99)
  obtain ⟨x0, x1⟩ := box2_cells w (.pointer (some ⟨g, 0, none⟩)) (.int .u64 f) 99
  have hB2 := below_boxV (w.alloc (Obj.cells #[.pointer (some ⟨g, 0, none⟩), .int .u64 f] 99)) (Obj.cells #[.int .u8 0, .int .u64 0, .string ⟨#[]⟩, .slice none 0 0, .slice none 0 0] 27)
  have hIN : InV w g d s ((w.alloc (Obj.cells #[.pointer (some ⟨g, 0, none⟩), .int .u64 f] 99)).alloc (Obj.cells #[.int .u8 0, .int .u64 0, .string ⟨#[]⟩, .slice none 0 0, .slice none 0 0] 27)) :=
    ⟨(h.below hB1).below hB2, grown_below (grown_of_below hB1) hB2, cell_below x0 hB2, by
      have := heap_alloc_new (w.alloc (Obj.cells #[.pointer (some ⟨g, 0, none⟩), .int .u64 f] 99)) (Obj.cells #[.int .u8 0, .int .u64 0, .string ⟨#[]⟩, .slice none 0 0, .slice none 0 0] 27)
      rw [World.size_alloc] at this
      exact this⟩
  have y0 := cell_below x0 hB2
  have y1 := cell_below x1 hB2
  have HIN := Lib.hid hIN
  have HTK := Lib.hid (fun wx (hi : InV w g d s wx) => take_any g d s (lenS s) wx hi.rs (by omega))
  have HG := Lib.hid (fun v d0 wx (hs : Shows wx d0 v (takeS (lenS s) s).1) => get_tree v d0 _ wx hs hxl)
  clear he hB h hIN hB1 hB2 x0 x1
  generalize takeS (lenS s) s = X at *
  obtain ⟨x, s2⟩ := X
  simp only [] at HG HTK hxl ⊢
  generalize gotT x = T at *
  unfold partV at HH ⊢
  cases hD : bitB f b with
  | false =>
    rw [hD] at HH
    rw [if_neg (by decide)]
    clear hD HG HTK
    go_enter Try.func67, Try.ntmps67
    go_wp2_with fail
    refine (HH.out _).mono ?_
    rintro e w1 ⟨rfl, hb1⟩
    have hI1 := HIN.out.below hb1
    have hr0 := hI1.res
    have q0 := cell_of_row w1 (w.heap.size + 1) 0 _ 27 (0, 0) hr0
    have q1 := cell_of_row w1 (w.heap.size + 1) 1 _ 27 (0, 0) hr0
    have q2 := cell_of_row w1 (w.heap.size + 1) 2 _ 27 (0, 0) hr0
    have q3 := cell_of_row w1 (w.heap.size + 1) 3 _ 27 (0, 0) hr0
    have q4 := cell_of_row w1 (w.heap.size + 1) 4 _ 27 (0, 0) hr0
    have fr := fun i => frozen_of_row w1 (w.heap.size + 1) i _ 27 hr0
    have f0 := fr 0
    have f1 := fr 1
    have f2 := fr 2
    have f3 := fr 3
    have f4 := fr 4
    have r1 := heap_setCell_same _ (w.heap.size + 1) 0 _ 27 (.int .u8 0) hr0
    have r2 := heap_setCell_same _ (w.heap.size + 1) 1 _ 27 (.int .u64 0) r1
    have r3 := heap_setCell_same _ (w.heap.size + 1) 2 _ 27 (.string ⟨#[]⟩) r2
    have r4 := heap_setCell_same _ (w.heap.size + 1) 3 _ 27 (.slice none 0 0) r3
    have r5 := heap_setCell_same _ (w.heap.size + 1) 4 _ 27 (.slice none 0 0) r4
    have R5 := Lib.hid r5
    have HI1 := Lib.hid hI1
    clear r1 r2 r3 r4 r5 hr0 fr y0 y1 hI1
    go_wp2_with fail
    have hI1 := HI1.out
    exact bodyPost_ret (results_cell_row rfl _ _ (w.heap.size + 1) 27 _ (0, 0) _ rfl R5.out Try.underlying27 rfl (by kernel_rfl)) rfl
      ⟨[.int .u8 (0 : Nat), .int .u64 (0 : Nat), .string ⟨#[]⟩, .slice none 0 0, .slice none 0 0], rfl, zero_shows _, grown_setP (grown_setP (grown_setP (grown_setP (grown_setP hI1.gr (by omega) _ _) (by omega) _ _) (by omega) _ _) (by omega) _ _) (by omega) _ _⟩
  | true =>
    rw [hD] at HH
    rw [if_pos rfl]
    clear hD
    go_enter Try.func67, Try.ntmps67
    go_wp2_with fail
    refine (HH.out _).mono ?_
    rintro e w1 ⟨rfl, hb1⟩
    have hI1 := HIN.out.below hb1
    have y0' := hI1.cell
    clear y0 y1 hb1 HIN HH
    go_upto_region 3 with fail
    have hId := hI1.drew
    have hkg : w1.drew.heap.size ≠ g := by have := hId.lt; omega
    have hkw : w.heap.size ≠ w1.drew.heap.size := by have := hId.lt; omega
    have hkg1 : w1.heap.size ≠ g := by have := hI1.lt; omega
    have hkw1 : w.heap.size ≠ w1.heap.size := by have := hI1.lt; omega
    clear y0'
    go_cut [5, 6, 7] from 14 to 23 (fun a5 a6 a7 wx => ∃ (kk k n : Nat) (ss : ByteArray) (a3 : Option Addr) (n3 c3 : Nat) (a4 : Option Addr) (n4 c4 : Nat), a5 = .pointer (some ⟨kk, 0, none⟩) ∧ Hid (EndV w g T kk [.int .u8 (k : Nat), .int .u64 (n : Nat), .string ss, .slice a3 n3 c3, .slice a4 n4 c4] wx))
    case first =>
      go_region_held3 (fun w' => w'.cell? ⟨w.heap.size, 0, none⟩ = some (.pointer (some ⟨g, 0, none⟩))) (first
          | with_reducible exact keep5 (InV.cell hI7) hn6 _ _ _ _ _
          | with_reducible exact keep5 (InV.cell hI7) hkw _ _ _ _ _
          | with_reducible exact keep5 (InV.cell hI7) hkw1 _ _ _ _ _
          | with_reducible exact keep5 (InV.cell (InV.alloc hI7 _)) hn7 _ _ _ _ _
          | with_reducible exact InV.cell hI7
          | with_reducible exact InV.cell (InV.alloc hI7 _)
          | with_reducible exact InV.cell hI6
          | with_reducible exact InV.cell (InV.alloc hI6 _)
          | with_reducible exact InV.cell hId
          | with_reducible exact InV.cell (InV.alloc hId _)
          | with_reducible exact InV.cell (InV.drew (InV.alloc hI1 _)))
        (first
          | (go_at_call 51
             first
               | with_reducible refine (InV.left hId).mono ?_
               | with_reducible refine (InV.left (InV.alloc hId _)).mono ?_
               | with_reducible refine (InV.left (InV.drew (InV.alloc hI1 _))).mono ?_
             rintro e5 w5 ⟨rfl, rfl⟩)
          | (go_at_call 82
             first
               | with_reducible refine (HTK.out _ hId).mono ?_
               | with_reducible refine (HTK.out _ (InV.alloc hId _)).mono ?_
               | with_reducible refine (HTK.out _ (InV.drew (InV.alloc hI1 _))).mono ?_
             rintro e6 w6 ⟨v6, rfl, ho6, hr6, hg6⟩
             obtain ⟨gg6, _, hs6⟩ := ho6.shows
             first
               | have hI6 := InV.take hId hg6 hr6 hglt
               | have hI6 := InV.take (InV.alloc hId _) hg6 hr6 hglt
               | have hI6 := InV.take (InV.drew (InV.alloc hI1 _)) hg6 hr6 hglt
             have hn6 : w.heap.size ≠ w6.heap.size := by have := hI6.lt; omega
             first
               | (have hz6 := BoxZ.grown (BoxZ.new _) hg6 hkg)
               | (have hz6 := BoxZ.grown (BoxZ.drew (BoxZ.new _)) hg6 hkg1)
               | skip)
          | (go_at_call 20
             first
               | with_reducible refine (HG.out _ _ _ hs6).mono ?_
               | with_reducible refine (HG.out _ _ _ (shows_farP hs6 (below_boxV _ _))).mono ?_
             rintro e7 w7 ⟨k, n, ss, a3, n3, c3, a4, n4, c4, i, j, rfl, hsh, hb7⟩
             first
               | have hI7 := InV.below hI6 hb7
               | have hI7 := InV.below (InV.alloc hI6 _) hb7
             have hn7 : w.heap.size ≠ w7.heap.size := by have := hI7.lt; omega
             first
               | (have hz7 := BoxZ.below hz6 hb7
                  obtain ⟨⟨z0, z1, z2, z3, z4⟩, t0, t1, t2, t3, t4⟩ := hz7.facts
                  have HZ7 := Lib.hid hz7
                  clear hz7 hz6)
               | (have hz7 := BoxZ.below (BoxZ.new _) hb7
                  obtain ⟨⟨z0, z1, z2, z3, z4⟩, t0, t1, t2, t3, t4⟩ := hz7.facts
                  have HZ7 := Lib.hid hz7
                  clear hz7)
               | skip
             have HSH := Lib.hid hsh
             have hs76 := hI6.lt
             have hsd := hId.lt
             have hs1 := hI1.lt
             try have hsz6 := hg6.size
             try have hsz7 := hb7.size
             have HB7 := Lib.hid hb7
             clear hsh hb7 hs6 ho6 hr6 hg6 hI6 hId hI1))
      all_goals
        go_wp2_with fail
        go_meet
      · exact ⟨_, k, n, ss, a3, n3, c3, a4, n4, c4, rfl, Lib.hid (EndV.new hI7 HSH.out hs76)⟩
      · exact ⟨_, k, n, ss, a3, n3, c3, a4, n4, c4, rfl, Lib.hid (EndV.old hI7 HZ7.out HSH.out hs76 (by simp))⟩
      · exact ⟨_, k, n, ss, a3, n3, c3, a4, n4, c4, rfl, Lib.hid (EndV.old (k := w1.heap.size) hI7 HZ7.out HSH.out hs1 (Nat.lt_of_lt_of_le (alloc_drew_lt w1 _) hsz6))⟩
      · exact ⟨_, k, n, ss, a3, n3, c3, a4, n4, c4, rfl, Lib.hid (EndV.old (k := w1.heap.size) hI7 HZ7.out HSH.out hs1 (Nat.lt_of_lt_of_le (alloc_drew_lt w1 _) hsz6))⟩
    case rest =>
      obtain ⟨kk, k, n, ss, a3, n3, c3, a4, n4, c4, rfl, HE⟩ := hcut
      have hbx := HE.out.box
      have hr0 := HE.out.res
      have hfar := HE.out.far
      have x0 := cell_of_row wc kk 0 _ 27 (0, 0) hbx
      have x1 := cell_of_row wc kk 1 _ 27 (0, 0) hbx
      have x2 := cell_of_row wc kk 2 _ 27 (0, 0) hbx
      have x3 := cell_of_row wc kk 3 _ 27 (0, 0) hbx
      have x4 := cell_of_row wc kk 4 _ 27 (0, 0) hbx
      have q0 := cell_of_row wc (w.heap.size + 1) 0 _ 27 (0, 0) hr0
      have q1 := cell_of_row wc (w.heap.size + 1) 1 _ 27 (0, 0) hr0
      have q2 := cell_of_row wc (w.heap.size + 1) 2 _ 27 (0, 0) hr0
      have q3 := cell_of_row wc (w.heap.size + 1) 3 _ 27 (0, 0) hr0
      have q4 := cell_of_row wc (w.heap.size + 1) 4 _ 27 (0, 0) hr0
      have fr := fun i => frozen_of_row wc (w.heap.size + 1) i _ 27 hr0
      have f0 := fr 0
      have f1 := fr 1
      have f2 := fr 2
      have f3 := fr 3
      have f4 := fr 4
      have r1 := heap_setCell_same _ (w.heap.size + 1) 0 _ 27 (.int .u8 k) hr0
      have r2 := heap_setCell_same _ (w.heap.size + 1) 1 _ 27 (.int .u64 n) r1
      have r3 := heap_setCell_same _ (w.heap.size + 1) 2 _ 27 (.string ss) r2
      have r4 := heap_setCell_same _ (w.heap.size + 1) 3 _ 27 (.slice a3 n3 c3) r3
      have r5 := heap_setCell_same _ (w.heap.size + 1) 4 _ 27 (.slice a4 n4 c4) r4
      have R5 := Lib.hid r5
      clear r1 r2 r3 r4 r5 fr hbx hr0 hId hI1
      simp only [List.getElem?_toArray, List.getElem?_cons_zero, List.getElem?_cons_succ] at x0 x1 x2 x3 x4
      go_wp2_with fail
      obtain ⟨B7, w7, hs7, hB7, ha7⟩ := HE.out.shows
      exact bodyPost_ret (results_cell_row rfl _ _ (w.heap.size + 1) 27 _ (0, 0) _ rfl R5.out Try.underlying27 rfl (by kernel_rfl)) rfl
        ⟨[.int .u8 k, .int .u64 n, .string ss, .slice a3 n3 c3, .slice a4 n4 c4], rfl, (((((ha7.set (.inl hB7) _ _).set (.inl hB7) _ _).set (.inl hB7) _ _).set (.inl hB7) _ _).set (.inl hB7) _ _).shows hs7 (by omega),
          grown_setP (grown_setP (grown_setP (grown_setP (grown_setP HE.out.gr (by omega) _ _) (by omega) _ _) (by omega) _ _) (by omega) _ _) (by omega) _ _⟩

end Go.Proofs.Ytnafibnhmhbfiaa
