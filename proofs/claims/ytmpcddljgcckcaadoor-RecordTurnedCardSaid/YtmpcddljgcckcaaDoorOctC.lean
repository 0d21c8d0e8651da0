/-
  The contracts of the reader's methods: what they return and what is left of the reader.
-/
import Derived.Test.YtmpcddljgcckcaaDoorOctB
namespace Go.Proofs.YtmpcddljgcckcaaDoor
open Go.RowKit
set_option linter.unusedVariables false
set_option linter.unusedSimpArgs false

/-- Block g is a reader: l is left (in block d), and it is good or not. -/
def Rdr (w : World) (g d : Nat) (l : List UInt8) (good : Bool) : Prop :=
  ∃ A c, w.heap[g]? = some (.cells #[.slice A l.length c, .bool good] 83 (0, 0)) ∧ Shows w d (.slice A l.length c) l

section
variable {w w' : World} {g d : Nat} {l : List UInt8} {good : Bool}
theorem Rdr.lt (h : Rdr w g d l good) : g < w.heap.size := by
  obtain ⟨A, c, h1, _⟩ := h
  exact (Array.getElem?_eq_some_iff.1 h1).1
theorem Rdr.ne (h : Rdr w g d l good) (hp : 0 < l.length) : d ≠ g := by
  rintro rfl
  obtain ⟨A, c, h1, A', c', e, h2, h3, h4⟩ := h
  obtain ⟨o, rfl, hd, hc⟩ := h4 hp
  have := hc 0 hp
  rw [cell_of_row w d _ _ 83 (0, 0) h1] at this
  have hl := (Array.getElem?_eq_some_iff.1 this).1
  simp at hl
  rcases (show o = 0 ∨ o = 1 by omega) with rfl | rfl <;> simp [u8c] at this
theorem Rdr.keep (h : Rdr w g d l good) (hs : w.heap.size ≤ w'.heap.size) (hg : w'.heap[g]? = w.heap[g]?) (hd : 0 < l.length → w'.heap[d]? = w.heap[d]?) : Rdr w' g d l good := by
  obtain ⟨A, c, h1, h2⟩ := h
  exact ⟨A, c, hg.trans h1, h2.keep hs hd⟩
theorem Rdr.dlt (h : Rdr w g d l good) (hp : 0 < l.length) : d < w.heap.size := by
  obtain ⟨A, c, h1, h2⟩ := h
  exact h2.lt hp
end

theorem spoiled {w : World} {g d : Nat} (x y : Value) (h : w.heap[g]? = some (.cells #[x, y] 83 (0, 0))) :
    Rdr ((w.setCell ⟨g, 0, none⟩ (.slice none 0 0)).setCell ⟨g, 1, none⟩ (.bool false)) g d [] false := by
  refine ⟨none, 0, ?_, Shows.nil_ _ _⟩
  have h1 := heap_setCell_same w g 0 _ 83 (.slice none 0 0) h
  have h2 := heap_setCell_same _ g 1 _ 83 (.bool false) h1
  simpa using h2

theorem moved {w w1 : World} {g d c n : Nat} {A : Option Addr} {l : List UInt8} {good : Bool} (h : Shows w d (.slice A l.length c) l) (hR : Rdr w g d l good) (hb : Below w.heap.size w w1)
    (h1 : w1.heap[g]? = some (.cells #[.slice A l.length c, .bool good] 83 (0, 0))) (hn : n ≤ l.length) (A'' : Option Addr) (hA : ¬ c = n → A'' = A.map (fun x => x.add n)) (q : Nat) (hq : q = c - n) :
    Rdr (w1.setCell ⟨g, 0, none⟩ (.slice A'' (l.length - n) q)) g d (l.drop n) good := by
  subst hq
  have hd : Shows w1 d (.slice A l.length c) l := h.keep hb.size fun hp => hb.block _ (h.lt hp)
  refine ⟨A'', c - n, ?_, ?_⟩
  · have h2 := heap_setCell_same w1 g 0 _ 83 (.slice A'' (l.length - n) (c - n)) h1
    rw [List.length_drop]
    simpa using h2
  · have h3 := hd.tail hn A'' hA
    rw [List.length_drop]
    exact h3.keep (by simp [World.setCell]) fun hp => heap_setCell_other _ _ _ _ (fun e => by
      have := hR.ne (by simp at hp; omega)
      simp at e
      omega)

theorem cutOwn {w w1 : World} {g d : Nat} {l m : List UInt8} {good : Bool} {v : Value} (ho : Own 5 w1 w.heap.size v m) (hR : Rdr w g d l good) (u : Value) : Own 5 (w1.setCell ⟨g, 0, none⟩ u) w.heap.size v m :=
  ho.keep fun k hk => heap_setCell_other _ _ _ _ (fun e => by
    have := (ho.block k hk).1
    have := hR.lt
    simp at e
    omega)
theorem cutFrame {w w1 : World} {g : Nat} (hb : Below w.heap.size w w1) (u : Value) : w.grownBy (w1.setCell ⟨g, 0, none⟩ u) (some g) :=
  ⟨hb.os, hb.tape, hb.output, by simpa [World.setCell] using hb.size, fun k hk hne => (Below.heap_setCell _ _ _ _ (fun e => hne (by rw [e]))).trans (hb.block k hk)⟩

set_option maxHeartbeats 400000 in
theorem bad_nil (w : World) : Calls Tryd.prog 49 #[.pointer none] w fun e w' => e = .returned (.bool true) ∧ w = w' := by
  go_enter Tryd.func49, Tryd.ntmps49
  go_wp2
  go_ret
  exact ⟨rfl, rfl⟩

set_option maxHeartbeats 400000 in
theorem bad_any (g d : Nat) (l : List UInt8) (good : Bool) (w : World) (h : Rdr w g d l good) : Calls Tryd.prog 49 #[.pointer (some ⟨g, 0, none⟩)] w fun e w' => e = .returned (.bool !good) ∧ w = w' := by
  obtain ⟨A, c, h1, h2⟩ := h
  have hc1 : w.cell? ⟨g, 1, none⟩ = some (.bool good) := by rw [cell_of_row w g _ _ 83 (0, 0) h1]; rfl
  clear h1 h2
  go_enter Tryd.func49, Tryd.ntmps49
  go_wp2
  go_ret
  exact ⟨rfl, rfl⟩

theorem bad_yes (g d : Nat) (l : List UInt8) (w : World) (h : Rdr w g d l false) : Calls Tryd.prog 49 #[.pointer (some ⟨g, 0, none⟩)] w fun e w' => e = .returned (.bool true) ∧ w = w' := bad_any g d l false w h
theorem bad_no (g d : Nat) (l : List UInt8) (w : World) (h : Rdr w g d l true) : Calls Tryd.prog 49 #[.pointer (some ⟨g, 0, none⟩)] w fun e w' => e = .returned (.bool false) ∧ w = w' := bad_any g d l true w h

set_option maxHeartbeats 400000 in
set_option maxHeartbeats 400000 in
theorem cut_neg (g d : Nat) (l : List UInt8) (good : Bool) (n : Int) (w : World) (h : Rdr w g d l good) (hn : n < 0) :
    Calls Tryd.prog 50 #[.pointer (some ⟨g, 0, none⟩), .int .i64 n] w fun e w' => e = .returned (.slice none 0 0) ∧ Rdr w' g d [] false ∧ w.grownBy w' (some g) := by
  obtain ⟨A, c, h1, h2⟩ := h
  have hc0 : w.cell? ⟨g, 0, none⟩ = some (.slice A l.length c) := by rw [cell_of_row w g _ _ 83 (0, 0) h1]; rfl
  have hc1 : w.cell? ⟨g, 1, none⟩ = some (.bool good) := by rw [cell_of_row w g _ _ 83 (0, 0) h1]; rfl
  have hf : ∀ i, w.frozen? ⟨g, i, none⟩ = false := fun i => frozen_of_row w g i _ 83 h1
  have H1 := Lib.hid h1
  clear h1 h2
  go_enter Tryd.func50, Tryd.ntmps50
  go_wp2
  go_ret
  refine ⟨rfl, spoiled _ _ H1.out, ?_⟩
  exact ⟨rfl, rfl, rfl, by simp [World.setCell], fun k _ hk => (Below.heap_setCell _ _ _ _ (fun e => hk (by rw [e]))).trans (Below.heap_setCell _ _ _ _ (fun e => hk (by rw [e])))⟩

set_option maxHeartbeats 400000 in
theorem cut_far (g d : Nat) (l : List UInt8) (good : Bool) (n : Nat) (w : World) (h : Rdr w g d l good) (hn : l.length < n) :
    Calls Tryd.prog 50 #[.pointer (some ⟨g, 0, none⟩), .int .i64 n] w fun e w' => e = .returned (.slice none 0 0) ∧ Rdr w' g d [] false ∧ w.grownBy w' (some g) := by
  obtain ⟨A, c, h1, h2⟩ := h
  have hc0 : w.cell? ⟨g, 0, none⟩ = some (.slice A l.length c) := by rw [cell_of_row w g _ _ 83 (0, 0) h1]; rfl
  have hc1 : w.cell? ⟨g, 1, none⟩ = some (.bool good) := by rw [cell_of_row w g _ _ 83 (0, 0) h1]; rfl
  have hf : ∀ i, w.frozen? ⟨g, i, none⟩ = false := fun i => frozen_of_row w g i _ 83 h1
  have t1 : decide ((n : Int) < 0) = false := by simp
  have t2 : decide (l.length < n) = true := by simpa using hn
  have H1 := Lib.hid h1
  clear h1 h2
  go_enter Tryd.func50, Tryd.ntmps50
  go_wp2
  go_ret
  refine ⟨rfl, spoiled _ _ H1.out, ?_⟩
  exact ⟨rfl, rfl, rfl, by simp [World.setCell], fun k _ hk => (Below.heap_setCell _ _ _ _ (fun e => hk (by rw [e]))).trans (Below.heap_setCell _ _ _ _ (fun e => hk (by rw [e])))⟩

set_option maxHeartbeats 400000 in
theorem cut_ok (g d : Nat) (l : List UInt8) (good : Bool) (n : Nat) (w : World) (h : Rdr w g d l good) (hn : n ≤ l.length) (hb : l.length ≤ 140737488355328) :
    Calls Tryd.prog 50 #[.pointer (some ⟨g, 0, none⟩), .int .i64 n] w fun e w' => ∃ v, e = .returned v ∧ Own 5 w' w.heap.size v (l.take n) ∧ Rdr w' g d (l.drop n) good ∧ w.grownBy w' (some g) := by
  have hR := h
  obtain ⟨A, c, h1, h2⟩ := h
  have hc0 : w.cell? ⟨g, 0, none⟩ = some (.slice A l.length c) := by rw [cell_of_row w g _ _ 83 (0, 0) h1]; rfl
  have hc1 : w.cell? ⟨g, 1, none⟩ = some (.bool good) := by rw [cell_of_row w g _ _ 83 (0, 0) h1]; rfl
  have hf : ∀ i, w.frozen? ⟨g, i, none⟩ = false := fun i => frozen_of_row w g i _ 83 h1
  have hnc : n ≤ c := by obtain ⟨_, _, e, h3, _⟩ := h2; cases e; omega
  have t1 : decide ((n : Int) < 0) = false := by simp
  have t2 : decide (l.length < n) = false := by simpa using hn
  have H1 := Lib.hid h1
  clear h1 
  go_enter Tryd.func50, Tryd.ntmps50
  go_wp2_with fail
  refine (joined_any _ _ (l.take n) [] d 0 _ (h2.head hn) (Shows.nil_ _ _) (by simp; omega)).mono ?_
  rintro e w1 ⟨v1, rfl, ho1, hb1⟩
  rw [List.append_nil] at ho1
  have hg1 : w1.heap[g]? = some (.cells #[.slice A l.length c, .bool good] 83 (0, 0)) := (hb1.block g hR.lt).trans H1.out
  have hd0 : w1.cell? ⟨g, 0, none⟩ = some (.slice A l.length c) := by rw [cell_of_row w1 g _ _ 83 (0, 0) hg1]; rfl
  have hd1 : w1.cell? ⟨g, 1, none⟩ = some (.bool good) := by rw [cell_of_row w1 g _ _ 83 (0, 0) hg1]; rfl
  have he : ∀ i, w1.frozen? ⟨g, i, none⟩ = false := fun i => frozen_of_row w1 g i _ 83 hg1
  have G1 := Lib.hid hg1
  clear hg1
  go_wp2_with fail
  · have E := Lib.hid h
    clear h
    go_ret
    refine ⟨v1, rfl, ?_, ?_, ?_⟩
    · exact cutOwn ho1 hR _
    · exact moved h2 hR hb1 G1.out hn A (fun hcn => absurd E.out hcn) 0 (by have := E.out; omega)
    · exact cutFrame hb1 _
  · go_ret
    refine ⟨v1, rfl, ?_, ?_, ?_⟩
    · exact cutOwn ho1 hR _
    · exact moved h2 hR hb1 G1.out hn _ (fun _ => rfl) _ rfl
    · exact cutFrame hb1 _
end Go.Proofs.YtmpcddljgcckcaaDoor
