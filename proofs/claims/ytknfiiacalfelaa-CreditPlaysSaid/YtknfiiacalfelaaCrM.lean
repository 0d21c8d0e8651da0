/-
  The program's round in memory: its box, the ring's box, the seats' boxes and how they are linked, the map of seats by their tags.
  Conditions: none.
-/
import Derived.Test.YtknfiiacalfelaaCrP
import Derived.Test.YtknfiiacalfelaaP
namespace Go.Proofs.Ytknfiiacalfelaa
open Go.RowKit
set_option linter.unusedVariables false
set_option linter.unusedSimpArgs false

/-- Keys that are strings. -/
def strFam : KeyFam Try.prog 9 Tg where
  kv q := .string (str8 q)
  ok q := q.length ≤ 140737488355328
  law := Maps.string_keyed Try.underlying9
  lit q hq := ⟨.string q, by
    have h0 : q.length ≤ maxLen := by simp only [maxLen]; omega
    simp [keyOf, Try.underlying9, mapKey, str8, ByteArray.size, h0]⟩
  inj p q h := by simpa [str8] using h

/-- w' is w but for blocks of F and new ones. -/
structure MovedQ (F : Nat → Prop) (w w' : World) : Prop where
  os : w'.os = w.os
  tape : w'.tape = w.tape
  output : w'.output = w.output
  size : w.heap.size ≤ w'.heap.size
  block : ∀ k, k < w.heap.size → ¬ F k → w'.heap[k]? = w.heap[k]?
section
variable {F : Nat → Prop} {w w1 w2 : World}
theorem MovedQ.refl (F : Nat → Prop) (w : World) : MovedQ F w w := ⟨rfl, rfl, rfl, Nat.le_refl _, fun _ _ _ => rfl⟩
theorem MovedQ.of_below (h : Below w.heap.size w w1) : MovedQ F w w1 := ⟨h.os, h.tape, h.output, h.size, fun k hk _ => h.block k hk⟩
theorem MovedQ.step (h : MovedQ F w w1) (hb : Below w1.heap.size w1 w2) : MovedQ F w w2 :=
  ⟨hb.os.trans h.os, hb.tape.trans h.tape, hb.output.trans h.output, Nat.le_trans h.size hb.size, fun k hk hF => (hb.block k (Nat.lt_of_lt_of_le hk h.size)).trans (h.block k hk hF)⟩
theorem MovedQ.setCell (h : MovedQ F w w1) {k : Nat} (hF : k < w.heap.size → F k) (i : Nat) (v : Value) : MovedQ F w (w1.setCell ⟨k, i, none⟩ v) :=
  ⟨h.os, h.tape, h.output, by simpa using h.size, fun j hj hn => (Below.heap_setCell _ _ _ _ (by show j ≠ k; rintro rfl; exact hn (hF hj))).trans (h.block j hj hn)⟩
theorem MovedQ.below {w0 : World} {B : Nat} (hb : Below B w0 w) (h : MovedQ F w w1) (hB : ∀ k, F k → B ≤ k) (hw : B ≤ w.heap.size) : Below B w0 w1 :=
  ⟨h.os.trans hb.os, h.tape.trans hb.tape, h.output.trans hb.output, Nat.le_trans hb.size h.size, fun k hk => (h.block k (by omega) (fun e => by have := hB k e; omega)).trans (hb.block k hk)⟩
theorem MovedQ.trans {F' : Nat → Prop} (h : MovedQ F w w1) (h1 : MovedQ F' w1 w2) (hs : ∀ k, F' k → F k ∨ w.heap.size ≤ k) : MovedQ F w w2 :=
  ⟨h1.os.trans h.os, h1.tape.trans h.tape, h1.output.trans h.output, Nat.le_trans h.size h1.size, fun k hk hF => (h1.block k (Nat.lt_of_lt_of_le hk h.size) fun e => by rcases hs k e with h | h; exact hF h; omega).trans (h.block k hk hF)⟩
theorem MovedQ.drew (h : MovedQ F w w1) : MovedQ F w w1.drew := ⟨h.os, h.tape, h.output, h.size, h.block⟩
theorem MovedQ.grown {r : Option Nat} (h : MovedQ F w w1) (hg : w1.grownBy w2 r) (hr : ∀ k, r = some k → k < w.heap.size → F k) : MovedQ F w w2 :=
  ⟨hg.os.trans h.os, hg.tape.trans h.tape, hg.output.trans h.output, Nat.le_trans h.size hg.size, fun k hk hn => (hg.block k (Nat.lt_of_lt_of_le hk h.size) (fun e => hn (hr k e.symm hk))).trans (h.block k hk hn)⟩
end

/-- A node's pointer. -/
def nodeV (b : Nat) : Value := .pointer (some ⟨b, 0, none⟩)
/-- A seat in memory. -/
structure ST where
  t : Tg
  c : Nat
  b : Nat
def tcS (x : ST) : Tg × Nat := (x.t, x.c)
def LofS (X : List ST) : List (Tg × Value) := X.map fun x => (x.t, nodeV x.b)
def blS (X : List ST) : List Nat := X.map (·.b)
/-- A seat's box. -/
def SeatC (w : World) (b : Nat) (t : Tg) (c : Nat) : Prop := ∃ x y, w.heap[b]? = some (.cells #[.string (str8 t), .int .u32 c, .pointer x, .pointer y] 64 (0, 0))
/-- The ring's box. -/
def RingC (w : World) (rb sv : Nat) : Prop := ∃ x y, w.heap[rb]? = some (.cells #[.string ⟨#[]⟩, .int .u32 0, .pointer x, .pointer y, nodeV sv] 77 (0, 0))
def BoxR (w : World) (qb rb mb : Nat) : Prop := w.heap[qb]? = some (.cells #[nodeV rb, .map (some mb)] 55 (0, 0))
section
variable {w w' : World} {b rb sv qb mb : Nat} {t : Tg} {c : Nat}
theorem SeatC.lt (h : SeatC w b t c) : b < w.heap.size := by obtain ⟨x, y, h⟩ := h; exact (Array.getElem?_eq_some_iff.1 h).1
theorem SeatC.c0 (h : SeatC w b t c) : w.cell? ⟨b, 0, none⟩ = some (.string (str8 t)) := by obtain ⟨x, y, h⟩ := h; rw [cell_of_row _ _ _ _ _ (0, 0) h]; rfl
theorem SeatC.c1 (h : SeatC w b t c) : w.cell? ⟨b, 1, none⟩ = some (.int .u32 c) := by obtain ⟨x, y, h⟩ := h; rw [cell_of_row _ _ _ _ _ (0, 0) h]; rfl
theorem SeatC.fr (h : SeatC w b t c) (j : Nat) : w.frozen? ⟨b, j, none⟩ = false := by obtain ⟨x, y, h⟩ := h; exact frozen_of_row w b j _ _ h
theorem SeatC.keep (h : SeatC w b t c) (hk : w'.heap[b]? = w.heap[b]?) : SeatC w' b t c := by obtain ⟨x, y, h⟩ := h; exact ⟨x, y, hk.trans h⟩
theorem SeatC.set1 (h : SeatC w b t c) (n : Nat) : SeatC (w.setCell ⟨b, 1, none⟩ (.int .u32 n)) b t n := by obtain ⟨x, y, h⟩ := h; exact ⟨x, y, heap_setCell_same w b 1 _ 64 (.int .u32 n) h⟩
theorem SeatC.set2 (h : SeatC w b t c) (z : Option Addr) : SeatC (w.setCell ⟨b, 2, none⟩ (.pointer z)) b t c := by obtain ⟨x, y, h⟩ := h; exact ⟨z, y, heap_setCell_same w b 2 _ 64 (.pointer z) h⟩
theorem SeatC.set3 (h : SeatC w b t c) (z : Option Addr) : SeatC (w.setCell ⟨b, 3, none⟩ (.pointer z)) b t c := by obtain ⟨x, y, h⟩ := h; exact ⟨x, z, heap_setCell_same w b 3 _ 64 (.pointer z) h⟩
theorem RingC.lt (h : RingC w rb sv) : rb < w.heap.size := by obtain ⟨x, y, h⟩ := h; exact (Array.getElem?_eq_some_iff.1 h).1
theorem RingC.c4 (h : RingC w rb sv) : w.cell? ⟨rb, 4, none⟩ = some (nodeV sv) := by obtain ⟨x, y, h⟩ := h; rw [cell_of_row _ _ _ _ _ (0, 0) h]; rfl
theorem RingC.fr (h : RingC w rb sv) (j : Nat) : w.frozen? ⟨rb, j, none⟩ = false := by obtain ⟨x, y, h⟩ := h; exact frozen_of_row w rb j _ _ h
theorem RingC.keep (h : RingC w rb sv) (hk : w'.heap[rb]? = w.heap[rb]?) : RingC w' rb sv := by obtain ⟨x, y, h⟩ := h; exact ⟨x, y, hk.trans h⟩
theorem RingC.set2 (h : RingC w rb sv) (z : Option Addr) : RingC (w.setCell ⟨rb, 2, none⟩ (.pointer z)) rb sv := by obtain ⟨x, y, h⟩ := h; exact ⟨z, y, heap_setCell_same w rb 2 _ 77 (.pointer z) h⟩
theorem RingC.set3 (h : RingC w rb sv) (z : Option Addr) : RingC (w.setCell ⟨rb, 3, none⟩ (.pointer z)) rb sv := by obtain ⟨x, y, h⟩ := h; exact ⟨x, z, heap_setCell_same w rb 3 _ 77 (.pointer z) h⟩
theorem RingC.set4 (h : RingC w rb sv) (z : Nat) : RingC (w.setCell ⟨rb, 4, none⟩ (nodeV z)) rb z := by obtain ⟨x, y, h⟩ := h; exact ⟨x, y, heap_setCell_same w rb 4 _ 77 (nodeV z) h⟩
theorem BoxR.lt (h : BoxR w qb rb mb) : qb < w.heap.size := (Array.getElem?_eq_some_iff.1 h).1
theorem BoxR.c0 (h : BoxR w qb rb mb) : w.cell? ⟨qb, 0, none⟩ = some (nodeV rb) := by rw [cell_of_row _ _ _ _ _ (0, 0) h]; rfl
theorem BoxR.c1 (h : BoxR w qb rb mb) : w.cell? ⟨qb, 1, none⟩ = some (.map (some mb)) := by rw [cell_of_row _ _ _ _ _ (0, 0) h]; rfl
theorem BoxR.fr (h : BoxR w qb rb mb) (j : Nat) : w.frozen? ⟨qb, j, none⟩ = false := frozen_of_row w qb j _ _ h
theorem cells_ne {w : World} {a b : Nat} {c d : Array Value} {e f : TypeId} {p q : Nat × Nat} (h : w.heap[a]? = some (.cells c e p)) (h2 : w.heap[b]? = some (.cells d f q)) (hne : e ≠ f) : a ≠ b := by
  rintro rfl
  rw [h] at h2
  injection h2 with h2
  injection h2 with _ h2 _
  exact hne h2
theorem SeatC.neRing (h : SeatC w b t c) (h2 : RingC w rb sv) : b ≠ rb := by obtain ⟨x, y, h⟩ := h; obtain ⟨x2, y2, h2⟩ := h2; exact cells_ne h h2 (by decide)
theorem SeatC.neBox (h : SeatC w b t c) (h2 : BoxR w qb rb mb) : b ≠ qb := by obtain ⟨x, y, h⟩ := h; exact cells_ne h h2 (by decide)
theorem RingC.neBox (h : RingC w rb sv) (h2 : BoxR w qb rb mb) : rb ≠ qb := by obtain ⟨x, y, h⟩ := h; exact cells_ne h h2 (by decide)
theorem SeatC.neMap {L : List (Tg × Value)} (h : SeatC w b t c) (h2 : MapS strFam w mb L) : b ≠ mb := by obtain ⟨x, y, h⟩ := h; exact h2.neCells h
theorem RingC.neMap {L : List (Tg × Value)} (h : RingC w rb sv) (h2 : MapS strFam w mb L) : rb ≠ mb := by obtain ⟨x, y, h⟩ := h; exact h2.neCells h
end

/-- Two nodes stand one behind the other. -/
def lkC (w : World) (a b : Nat) : Prop := w.cell? ⟨a, 3, none⟩ = some (nodeV b) ∧ w.cell? ⟨b, 2, none⟩ = some (nodeV a)
/-- Nodes stand one behind the other. -/
def Chn (w : World) : List Nat → Prop
  | [] => True
  | [_] => True
  | a :: b :: r => lkC w a b ∧ Chn w (b :: r)
section
variable {w w' : World}
theorem Chn.append {a : Nat} {l2 : List Nat} : ∀ {l1 : List Nat}, Chn w (l1 ++ a :: l2) ↔ Chn w (l1 ++ [a]) ∧ Chn w (a :: l2)
  | [] => by simp [Chn]
  | [x] => by simp [Chn]
  | x :: y :: r => by
    have ih := Chn.append (a := a) (l2 := l2) (l1 := y :: r)
    simp only [List.cons_append, Chn] at ih ⊢
    rw [ih, and_assoc]
theorem Chn.keep : ∀ {l : List Nat}, Chn w l → (∀ a ∈ l.dropLast, w'.cell? ⟨a, 3, none⟩ = w.cell? ⟨a, 3, none⟩) → (∀ a ∈ l.tail, w'.cell? ⟨a, 2, none⟩ = w.cell? ⟨a, 2, none⟩) → Chn w' l
  | [], _, _, _ => trivial
  | [_], _, _, _ => trivial
  | a :: b :: r, h, h3, h2 => by
    refine ⟨⟨(h3 a (by simp)).trans h.1.1, (h2 b (by simp)).trans h.1.2⟩, Chn.keep h.2 (fun x hx => h3 x (by simp [hx])) (fun x hx => h2 x ?_)⟩
    simp at hx ⊢
    exact .inr hx
end

/-- The program's round. -/
structure CI (w : World) (B qb rb mb sv : Nat) (X : List ST) (s : CP) : Prop where
  box : BoxR w qb rb mb
  ring : RingC w rb sv
  seat : ∀ x ∈ X, SeatC w x.b x.t x.c
  link : Chn w (rb :: (blS X ++ [rb]))
  row : s.l = X.map tcS
  srv : (s.last = [] ∧ sv = rb) ∨ ∃ x ∈ X, x.t = s.last ∧ sv = x.b
  map : MapS strFam w mb (LofS X)
  nod : (blS X).Nodup
  hq : B ≤ qb
  hr : B ≤ rb
  hm : B ≤ mb
  hx : ∀ x ∈ X, B ≤ x.b
def FC (qb rb mb : Nat) (X : List ST) (k : Nat) : Prop := k = qb ∨ k = rb ∨ k = mb ∨ ∃ x ∈ X, k = x.b
section
variable {w w' : World} {B qb rb mb sv : Nat} {X : List ST} {s : CP}
theorem CI.foot (h : CI w B qb rb mb sv X s) : ∀ k, FC qb rb mb X k → B ≤ k ∧ k < w.heap.size := fun k hk => by
  rcases hk with rfl | rfl | rfl | ⟨x, hx, rfl⟩
  · exact ⟨h.hq, h.box.lt⟩
  · exact ⟨h.hr, h.ring.lt⟩
  · exact ⟨h.hm, h.map.lt⟩
  · exact ⟨h.hx x hx, (h.seat x hx).lt⟩
theorem cell_keepH {a : Nat} {i : Nat} (hk : w'.heap[a]? = w.heap[a]?) : w'.cell? ⟨a, i, none⟩ = w.cell? ⟨a, i, none⟩ := World.cell?_of_block (w := w) hk
theorem CI.keep (h : CI w B qb rb mb sv X s) (hk : ∀ k, FC qb rb mb X k → w'.heap[k]? = w.heap[k]?) : CI w' B qb rb mb sv X s := by
  have hn : ∀ a ∈ rb :: (blS X ++ [rb]), w'.heap[a]? = w.heap[a]? := fun a ha => by
    simp only [List.mem_cons, List.mem_append, List.not_mem_nil, or_false] at ha
    rcases ha with rfl | ha | rfl
    · exact hk _ (.inr (.inl rfl))
    · obtain ⟨x, hx, rfl⟩ := List.mem_map.1 ha
      exact hk _ (.inr (.inr (.inr ⟨x, hx, rfl⟩)))
    · exact hk _ (.inr (.inl rfl))
  exact ⟨(hk qb (.inl rfl)).trans h.box, h.ring.keep (hk rb (.inr (.inl rfl))), fun x hx => (h.seat x hx).keep (hk _ (.inr (.inr (.inr ⟨x, hx, rfl⟩)))), h.link.keep (fun a ha => cell_keepH (hn a (List.dropLast_subset _ ha))) (fun a ha => cell_keepH (hn a (List.mem_of_mem_tail ha))), h.row, h.srv, h.map.keep (hk mb (.inr (.inr (.inl rfl)))), h.nod, h.hq, h.hr, h.hm, h.hx⟩
theorem CI.below (h : CI w B qb rb mb sv X s) (hb : Below w.heap.size w w') : CI w' B qb rb mb sv X s := h.keep fun k hk => hb.block k (h.foot k hk).2
theorem CI.nodR (h : CI w B qb rb mb sv X s) : (rb :: blS X).Nodup := List.nodup_cons.2 ⟨fun hm => by
  obtain ⟨x, hx, e⟩ := List.mem_map.1 hm
  exact (h.seat x hx).neRing h.ring e, h.nod⟩
/-- What the map tells. -/
theorem LofS_some {t : Tg} {c : Nat} (hn : ((X.map tcS).map (·.1)).Nodup) (h : getA t (X.map tcS) = some c) : ∃ A x B, X = A ++ x :: B ∧ x.t = t ∧ x.c = c ∧ getA t (LofS X) = some (nodeV x.b) := by
  obtain ⟨x, hx, e⟩ := List.mem_map.1 (getA_mem h)
  simp [tcS] at e
  obtain ⟨A, B, rfl⟩ := List.append_of_mem hx
  exact ⟨A, x, B, rfl, e.1, e.2, getA_of_mem (by simpa [LofS, tcS, Function.comp_def] using hn) (List.mem_map.2 ⟨x, hx, by rw [e.1]⟩)⟩
theorem LofS_none {t : Tg} (h : getA t (X.map tcS) = none) : getA t (LofS X) = none := by
  have h1 : ∀ x ∈ X, x.t ≠ t := fun x hx => getA_none_iff.1 h (x.t, x.c) (List.mem_map.2 ⟨x, hx, rfl⟩)
  exact getA_none fun y hy => by obtain ⟨x, hx, rfl⟩ := List.mem_map.1 hy; exact h1 x hx
end
/-- A round with its blocks. -/
def CW (w : World) (B qb : Nat) (s : CP) (F : Nat → Prop) : Prop := s.ok ∧ ∃ rb mb sv X, CI w B qb rb mb sv X s ∧ F = FC qb rb mb X
section
variable {w w' : World} {B qb : Nat} {F : Nat → Prop} {s : CP}
theorem CW.foot (h : CW w B qb s F) : ∀ k, F k → B ≤ k ∧ k < w.heap.size := by
  obtain ⟨_, rb, mb, sv, X, h1, rfl⟩ := h
  exact h1.foot
theorem CW.keep (h : CW w B qb s F) (hk : ∀ k, F k → w'.heap[k]? = w.heap[k]?) : CW w' B qb s F := by
  obtain ⟨ho, rb, mb, sv, X, h1, rfl⟩ := h
  exact ⟨ho, rb, mb, sv, X, h1.keep hk, rfl⟩
theorem CW.below (h : CW w B qb s F) (hb : Below w.heap.size w w') : CW w' B qb s F := h.keep fun k hk => hb.block k (h.foot k hk).2
end
def LeftC (w : World) (B qb : Nat) (F : Nat → Prop) (s' : CP) (w' : World) : Prop := ∃ F', CW w' B qb s' F' ∧ (∀ k, F' k → F k ∨ w.heap.size ≤ k) ∧ MovedQ F w w'
def AnsC (w : World) (B qb : Nat) (F : Nat → Prop) (r : Nat × CP) (e : Ending) (w' : World) : Prop := e = .returned (.int .i64 r.1) ∧ LeftC w B qb F r.2 w'
section
variable {w w' : World} {B qb : Nat} {F : Nat → Prop} {s : CP}
theorem LeftC.same (h : CW w B qb s F) : LeftC w B qb F s w := ⟨F, h, fun k hk => .inl hk, MovedQ.refl _ _⟩
theorem LeftC.trans {w1 w2 : World} {F1 : Nat → Prop} {s2 : CP} (hs : ∀ k, F1 k → F k ∨ w.heap.size ≤ k) (hm : MovedQ F w w1) (h2 : LeftC w1 B qb F1 s2 w2) : LeftC w B qb F s2 w2 := by
  obtain ⟨F2, hq, hs2, hm2⟩ := h2
  refine ⟨F2, hq, fun k hk => ?_, hm.trans hm2 hs⟩
  rcases hs2 k hk with h | h
  · exact hs k h
  · exact .inr (Nat.le_trans hm.size h)
theorem LeftC.of_below (h : CW w B qb s F) (hb : Below w.heap.size w w') : LeftC w B qb F s w' := ⟨F, h.below hb, fun k hk => .inl hk, MovedQ.of_below hb⟩
theorem LeftC.after {w1 : World} {s1 : CP} (hb : Below w.heap.size w w1) (h2 : LeftC w1 B qb F s1 w') : LeftC w B qb F s1 w' :=
  LeftC.trans (F1 := F) (fun k hk => .inl hk) (MovedQ.of_below hb) h2
end

end Go.Proofs.Ytknfiiacalfelaa
