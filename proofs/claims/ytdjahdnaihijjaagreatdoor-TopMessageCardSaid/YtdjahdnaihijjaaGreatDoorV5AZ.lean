/-
  Texts, together: V5A, V5B, V5C, V5D, V5E.
  Conditions: none but sizes.
-/
import Derived.WalkKit
import Derived.Test.YtdjahdnaihijjaaGreatDoorMemZ
import Derived.Test.YtdjahdnaihijjaaGreatDoorBigZ
import Derived.Deep.RegionHeld3
import Derived.BigQuiet
/-
  Values as trees, and how they lie in memory; the contracts of the document's own tooDeep and left for values.
  Conditions: none but sizes.
-/
namespace Go.Proofs.YtdjahdnaihijjaaGreatDoor
open Go.RowKit
set_option linter.unusedVariables false
set_option linter.unusedSimpArgs false

/-- A value. -/
inductive Tree where
  | node (k n : Nat) (s : ByteArray) (ks : List ByteArray) (l : List Tree)
def Tree.k : Tree → Nat | .node k _ _ _ _ => k
def Tree.n : Tree → Nat | .node _ n _ _ _ => n
def Tree.s : Tree → ByteArray | .node _ _ s _ _ => s
def Tree.ks : Tree → List ByteArray | .node _ _ _ ks _ => ks
def Tree.l : Tree → List Tree | .node _ _ _ _ l => l

/-- How a string lies: one cell. -/
def strC : Code ByteArray := { enc := fun x => [.string x], sz := 1, len := fun _ => rfl, one := fun x u hu => by simp at hu; subst hu; rfl, pos := by omega }

/-- These five cells show that value in w. -/
inductive ShowsT (w : World) : Tree → List Value → Prop
  | mk {k n : Nat} {s : ByteArray} {ks : List ByteArray} {l : List Tree} {kv : Value} {A : Option Addr} {c d0 d1 : Nat} (cs : Nat → List Value) (hk : k < 256) (hn : n < 18446744073709551616) (hks : ShowsG strC w d0 kv ks) (hkl : ks.length ≤ 8796093022208) (hkz : ∀ x ∈ ks, x.size ≤ 140737488351232) (hsz : s.size ≤ 140737488351232) (hln : l.length ≤ 2199023255552) (hlc : l.length ≤ c) (hcm : c ≤ maxLen)
      (hrow : 0 < l.length → ∃ o, A = some ⟨d1, o, none⟩ ∧ d1 < w.heap.size ∧ ∀ j, j < l.length → ∀ q, q < 5 → w.cell? ⟨d1, o + (j * 5 + q), none⟩ = (cs j)[q]?)
      (hch : ∀ j (h : j < l.length), ShowsT w l[j] (cs j)) : ShowsT w (.node k n s ks l) [.int .u8 k, .int .u64 n, .string s, kv, .slice A l.length c]

/-- Five cells, written out. -/
theorem ShowsT.open {w : World} {t : Tree} {vs : List Value} (h : ShowsT w t vs) : ∃ (kv : Value) (A : Option Addr) (c d0 d1 : Nat) (cs : Nat → List Value),
    vs = [.int .u8 t.k, .int .u64 t.n, .string t.s, kv, .slice A t.l.length c] ∧ t.k < 256 ∧ t.n < 18446744073709551616 ∧ ShowsG strC w d0 kv t.ks ∧ t.ks.length ≤ 8796093022208 ∧ (∀ x ∈ t.ks, x.size ≤ 140737488351232) ∧ t.s.size ≤ 140737488351232 ∧ t.l.length ≤ 2199023255552 ∧ t.l.length ≤ c ∧ c ≤ maxLen ∧
      (0 < t.l.length → ∃ o, A = some ⟨d1, o, none⟩ ∧ d1 < w.heap.size ∧ ∀ j, j < t.l.length → ∀ q, q < 5 → w.cell? ⟨d1, o + (j * 5 + q), none⟩ = (cs j)[q]?) ∧
      ∀ j (h : j < t.l.length), ShowsT w t.l[j] (cs j) := by
  cases h with
  | mk cs hk hn hks hkl hkz hsz hln hlc hcm hrow hch => exact ⟨_, _, _, _, _, cs, rfl, hk, hn, hks, hkl, hkz, hsz, hln, hlc, hcm, hrow, hch⟩
theorem ShowsT.len {w : World} {t : Tree} {vs : List Value} (h : ShowsT w t vs) : vs.length = 5 := by
  obtain ⟨_, _, _, _, _, _, rfl, _⟩ := h.open
  rfl
theorem ShowsT.kept {w w' : World} {B : Nat} {t : Tree} {vs : List Value} (h : ShowsT w t vs) (hb : Below B w w') (hB : w.heap.size ≤ B) : ShowsT w' t vs := by
  induction h with
  | @mk k n s ks l kv A c d0 d1 cs hk hn hks hkl hkz hsz hln hlc hcm hrow hch ih =>
    refine .mk (d0 := d0) (d1 := d1) cs hk hn (hks.below' hb hB) hkl hkz hsz hln hlc hcm (fun hp => ?_) ih
    obtain ⟨o, e1, e2, e3⟩ := hrow hp
    exact ⟨o, e1, Nat.lt_of_lt_of_le e2 hb.size, fun j hj q hq => (World.cell?_of_block (w := w) (hb.block d1 (Nat.lt_of_lt_of_le e2 hB))).trans (e3 j hj q hq)⟩

theorem below_boxV (w : World) (o : Obj) : Below w.heap.size w (w.alloc o) := (Below.refl _ _).alloc (Nat.le_refl _) o
/-- Five cells in a block of the call's own. -/
def BoxV (w : World) (b : Nat) (v0 v1 v2 v3 v4 : Value) : Prop := w.heap[b]? = some (.cells #[v0, v1, v2, v3, v4] 27 (0, 0))
section
variable {w w' : World} {b B : Nat} {v0 v1 v2 v3 v4 : Value}
theorem BoxV.new (w : World) : BoxV (w.alloc (Obj.cells #[v0, v1, v2, v3, v4] 27)) w.heap.size v0 v1 v2 v3 v4 := heap_alloc_new w _
theorem BoxV.lt (h : BoxV w b v0 v1 v2 v3 v4) : b < w.heap.size := (Array.getElem?_eq_some_iff.1 h).1
theorem BoxV.kept (h : BoxV w b v0 v1 v2 v3 v4) (hb : Below B w w') (hB : w.heap.size ≤ B) : BoxV w' b v0 v1 v2 v3 v4 := (hb.block b (Nat.lt_of_lt_of_le h.lt hB)).trans h
theorem BoxV.c0 (h : BoxV w b v0 v1 v2 v3 v4) : w.cell? ⟨b, 0, none⟩ = some v0 := by rw [cell_of_row w b _ _ 27 (0, 0) h]; rfl
theorem BoxV.c1 (h : BoxV w b v0 v1 v2 v3 v4) : w.cell? ⟨b, 1, none⟩ = some v1 := by rw [cell_of_row w b _ _ 27 (0, 0) h]; rfl
theorem BoxV.c2 (h : BoxV w b v0 v1 v2 v3 v4) : w.cell? ⟨b, 2, none⟩ = some v2 := by rw [cell_of_row w b _ _ 27 (0, 0) h]; rfl
theorem BoxV.c3 (h : BoxV w b v0 v1 v2 v3 v4) : w.cell? ⟨b, 3, none⟩ = some v3 := by rw [cell_of_row w b _ _ 27 (0, 0) h]; rfl
theorem BoxV.c4 (h : BoxV w b v0 v1 v2 v3 v4) : w.cell? ⟨b, 4, none⟩ = some v4 := by rw [cell_of_row w b _ _ 27 (0, 0) h]; rfl
end

/-- A child's cells, where the walk reckons them. -/
theorem ShowsT.child {w : World} {t : Tree} {kv : Value} {A : Option Addr} {c : Nat} {a b s : Value} (h : ShowsT w t [a, b, s, kv, .slice A t.l.length c]) (j : Nat) (hj : j < t.l.length) :
    ∃ (d o : Nat) (v0 v1 v2 v3 v4 : Value), A = some ⟨d, o, none⟩ ∧ d < w.heap.size ∧ ShowsT w t.l[j] [v0, v1, v2, v3, v4] ∧ w.cell? ⟨d, o + j * 5, none⟩ = some v0 ∧ w.cell? ⟨d, o + j * 5 + 1, none⟩ = some v1 ∧
      w.cell? ⟨d, o + j * 5 + 2, none⟩ = some v2 ∧ w.cell? ⟨d, o + j * 5 + 3, none⟩ = some v3 ∧ w.cell? ⟨d, o + j * 5 + 4, none⟩ = some v4 := by
  obtain ⟨kv', A', c', d0, d1, cs, e, _, _, _, _, _, _, _, _, _, hrow, hch⟩ := h.open
  simp only [List.cons.injEq, Value.slice.injEq, and_true] at e
  obtain ⟨_, _, _, _, e1, _, e2⟩ := e
  subst e1
  obtain ⟨o, rfl, hd, hc⟩ := hrow (by omega)
  have hs := hch j hj
  have hl := hs.len
  obtain ⟨v0, v1, v2, v3, v4, hv⟩ : ∃ v0 v1 v2 v3 v4, cs j = [v0, v1, v2, v3, v4] := by
    match cs j, hl with
    | [a, b, c, d, e], _ => exact ⟨a, b, c, d, e, rfl⟩
  rw [hv] at hs
  have hq := fun q hq => hc j hj q hq
  rw [hv] at hq
  exact ⟨d1, o, v0, v1, v2, v3, v4, rfl, hd, hs, hq 0 (by omega), hq 1 (by omega), hq 2 (by omega), hq 3 (by omega), hq 4 (by omega)⟩

/-- Does a value in it lie in so many others, or more? -/
def deepD : Nat → Tree → Bool
  | 0, _ => true
  | m + 1, t => t.l.any (deepD m)

end Go.Proofs.YtdjahdnaihijjaaGreatDoor
/-
  The contract of the document's own left for values: how many values are left of so many.
  Conditions: none but sizes.
-/
namespace Go.Proofs.YtdjahdnaihijjaaGreatDoor
open Go.RowKit
set_option linter.unusedVariables false
set_option linter.unusedSimpArgs false

mutual
/-- How many values there are in all. -/
def cntT : Tree → Nat
  | .node _ _ _ _ l => 1 + cntL l
def cntL : List Tree → Nat
  | [] => 0
  | t :: r => cntT t + cntL r
end
theorem cntT_eq (t : Tree) : cntT t = 1 + cntL t.l := by cases t; rfl
theorem cntL_append : ∀ a b : List Tree, cntL (a ++ b) = cntL a + cntL b
  | [], b => by simp [cntL]
  | t :: a, b => by rw [List.cons_append, cntL, cntL, cntL_append a b]; omega
theorem cntL_take (l : List Tree) (j : Nat) (h : j < l.length) : cntL (l.take (j + 1)) = cntL (l.take j) + cntT l[j] := by
  rw [List.take_succ_eq_append_getElem h, cntL_append]
  simp [cntL]
theorem cntL_take_le (l : List Tree) (j : Nat) : cntL (l.take j) ≤ cntL l := by
  have := cntL_append (l.take j) (l.drop j)
  rw [List.take_append_drop] at this
  omega
/-- What is left of m when c are taken; -1: there were more. -/
def remD (m : Int) (c : Nat) : Int := if (c : Int) ≤ m then m - c else -1
theorem remD_cases (m : Int) (c : Nat) : (remD m c = -1 ∧ m < c) ∨ (0 ≤ remD m c ∧ remD m c = m - c ∧ (c : Int) ≤ m) := by
  unfold remD
  split
  · exact .inr ⟨by omega, rfl, by assumption⟩
  · exact .inl ⟨rfl, by omega⟩
theorem remD_add (m : Int) (c d : Nat) (h : (c : Int) ≤ m) : remD (m - c) d = remD m (c + d) := by
  unfold remD
  by_cases h1 : ((c + d : Nat) : Int) ≤ m
  · rw [if_pos (by omega), if_pos h1]; omega
  · rw [if_neg (by omega), if_neg h1]
theorem remD_less (m : Int) (c d : Nat) (h : m < c) (hcd : c ≤ d) : remD m d = -1 := by
  unfold remD
  rw [if_neg (by omega)]
theorem remD_node (n : Nat) (c : Nat) : remD ((n : Int) - 1) c = remD n (1 + c) := by
  unfold remD
  by_cases h1 : ((1 + c : Nat) : Int) ≤ n
  · rw [if_pos (by omega), if_pos h1]; omega
  · rw [if_neg (by omega), if_neg h1]

end Go.Proofs.YtdjahdnaihijjaaGreatDoor
/-
  The contract of the document's own Same for values.
  Conditions: none but sizes.
-/
namespace Go.Proofs.YtdjahdnaihijjaaGreatDoor
open Go.RowKit
set_option linter.unusedVariables false
set_option linter.unusedSimpArgs false

mutual
/-- Are two values the same? -/
def sameT : Tree → Tree → Bool
  | .node k n s ks l, .node k' n' s' ks' l' => decide (k = k' ∧ n = n' ∧ s = s' ∧ ks = ks') && sameL l l'
def sameL : List Tree → List Tree → Bool
  | [], [] => true
  | a :: l, b :: m => sameT a b && sameL l m
  | [], _ :: _ => false
  | _ :: _, [] => false
end
theorem sameT_eq (a b : Tree) : sameT a b = (decide (a.k = b.k ∧ a.n = b.n ∧ a.s = b.s ∧ a.ks = b.ks) && sameL a.l b.l) := by cases a; cases b; rfl
theorem sameL_iff : ∀ l m : List Tree, sameL l m = true ↔ l.length = m.length ∧ ∀ j (h : j < l.length) (h' : j < m.length), sameT l[j] m[j] = true
  | [], [] => by simp [sameL]
  | [], _ :: _ => by simp [sameL]
  | _ :: _, [] => by simp [sameL]
  | a :: l, b :: m => by
    rw [sameL, Bool.and_eq_true, sameL_iff l m]
    simp only [List.length_cons, Nat.add_right_cancel_iff]
    constructor
    · rintro ⟨h1, h2, h3⟩
      refine ⟨h2, fun j h h' => ?_⟩
      cases j with
      | zero => exact h1
      | succ j => exact h3 j (by simpa using h) (by simpa using h')
    · rintro ⟨h2, h3⟩
      exact ⟨h3 0 (by simp) (by simp), h2, fun j h h' => h3 (j + 1) (by simpa using h) (by simpa using h')⟩
theorem same_no1 {a b : Tree} (h : ¬ (a.k = b.k ∧ a.n = b.n ∧ a.s = b.s ∧ a.ks = b.ks)) : sameT a b = false := by rw [sameT_eq, decide_eq_false h]; rfl
theorem same_no2 {a b : Tree} (h : ¬ (a.l.length = b.l.length ∧ ∀ j (h : j < a.l.length) (h' : j < b.l.length), sameT a.l[j] b.l[j] = true)) : sameT a b = false := by
  rw [sameT_eq]
  have : sameL a.l b.l = false := by
    cases hs : sameL a.l b.l with
    | false => rfl
    | true => exact absurd ((sameL_iff _ _).1 hs) h
  rw [this, Bool.and_false]
theorem v_same_yes {a b : Tree} (h1 : a.k = b.k) (h2 : a.n = b.n) (h3 : a.s = b.s) (h4 : a.ks = b.ks) (h5 : a.l.length = b.l.length) (h6 : ∀ j (h : j < a.l.length) (h' : j < b.l.length), sameT a.l[j] b.l[j] = true) : sameT a b = true := by
  rw [sameT_eq, decide_eq_true ⟨h1, h2, h3, h4⟩, (sameL_iff _ _).2 ⟨h5, h6⟩]
  rfl
theorem cntL_mem : ∀ {l : List Tree} {j : Nat} (h : j < l.length), cntT l[j] ≤ cntL l
  | t :: l, 0, _ => by simp [cntL]
  | t :: l, j + 1, h => by
    have := cntL_mem (l := l) (j := j) (by simpa using h)
    simp only [List.getElem_cons_succ, cntL]
    omega
theorem cnt_child (t : Tree) (j : Nat) (h : j < t.l.length) : cntT t.l[j] < cntT t := by
  rw [cntT_eq t]
  have := cntL_mem h
  omega
theorem str_cell {w : World} {d : Nat} {v : Value} {l : List ByteArray} (h : ShowsG strC w d v l) (j : Nat) (hj : j < l.length) : ∃ (o c : Nat), v = .slice (some ⟨d, o, none⟩) l.length c ∧ w.cell? ⟨d, o + j, none⟩ = some (.string l[j]) := by
  obtain ⟨A, c, rfl, _, _, h4⟩ := h
  obtain ⟨o, rfl, _, hc⟩ := h4 (by omega)
  have := hc j hj 0 (by decide)
  exact ⟨o, c, rfl, by simpa [strC] using this⟩
theorem str_form {w : World} {d : Nat} {v : Value} {l : List ByteArray} (h : ShowsG strC w d v l) : ∃ A c, v = .slice A l.length c := by
  obtain ⟨A, c, e, _⟩ := h
  exact ⟨A, c, e⟩
theorem toListNe {a b : ByteArray} (h : a ≠ b) : (a.toList == b.toList) = false := by
  have : ¬ a.toList = b.toList := fun e => h (by rw [← str8_sb a, ← str8_sb b, ← sb_toList, ← sb_toList, e])
  simpa using this

/-- Two boxes of the call's own, and what stood before. -/
structure Pair5 (w0 : World) (a0 a1 a2 a3 a4 b0 b1 b2 b3 b4 : Value) (w : World) : Prop where
  a : BoxV w w0.heap.size a0 a1 a2 a3 a4
  b : BoxV w (w0.heap.size + 1) b0 b1 b2 b3 b4
  bel : Below w0.heap.size w0 w
section
variable {w0 w w' : World} {a0 a1 a2 a3 a4 b0 b1 b2 b3 b4 : Value}
theorem Pair5.step (h : Pair5 w0 a0 a1 a2 a3 a4 b0 b1 b2 b3 b4 w) (hb : Below w.heap.size w w') : Pair5 w0 a0 a1 a2 a3 a4 b0 b1 b2 b3 b4 w' :=
  ⟨h.a.kept hb (Nat.le_refl _), h.b.kept hb (Nat.le_refl _), h.bel.trans (hb.mono h.bel.size)⟩
theorem Pair5.drewN (h : Pair5 w0 a0 a1 a2 a3 a4 b0 b1 b2 b3 b4 w) (q : Nat) : Pair5 w0 a0 a1 a2 a3 a4 b0 b1 b2 b3 b4 (w.drewN q) := ⟨h.a, h.b, below_drewN h.bel q⟩
theorem Pair5.drew (h : Pair5 w0 a0 a1 a2 a3 a4 b0 b1 b2 b3 b4 w) : Pair5 w0 a0 a1 a2 a3 a4 b0 b1 b2 b3 b4 w.drew := ⟨h.a, h.b, below_drew1 h.bel⟩
theorem Pair5.start (w0 : World) : Pair5 w0 a0 a1 a2 a3 a4 b0 b1 b2 b3 b4 ((w0.alloc (Obj.cells #[a0, a1, a2, a3, a4] 27)).alloc (Obj.cells #[b0, b1, b2, b3, b4] 27)) := by
  refine ⟨(BoxV.new w0).kept (below_boxV _ _) (Nat.le_refl _), ?_, (below_boxV _ _).alloc (below_boxV _ _).size _⟩
  have := BoxV.new (v0 := b0) (v1 := b1) (v2 := b2) (v3 := b3) (v4 := b4) (w0.alloc (Obj.cells #[a0, a1, a2, a3, a4] 27))
  simpa using this
end

end Go.Proofs.YtdjahdnaihijjaaGreatDoor
/-
  The contract of the document's own Same for values, the whole.
  Conditions: none but sizes.
-/
namespace Go.Proofs.YtdjahdnaihijjaaGreatDoor
open Go.RowKit
set_option linter.unusedVariables false
set_option linter.unusedSimpArgs false

theorem cell_kept {w w' : World} {B d k : Nat} {v : Value} (h : w.cell? ⟨d, k, none⟩ = some v) (hb : Below B w w') (hB : w.heap.size ≤ B) (hd : d < w.heap.size) : w'.cell? ⟨d, k, none⟩ = some v :=
  (World.cell?_of_block (w := w) (hb.block d (Nat.lt_of_lt_of_le hd hB))).trans h

end Go.Proofs.YtdjahdnaihijjaaGreatDoor
/-
  The contract of the document's own small for values: how many bytes are left of so many.
  Conditions: none but sizes.
-/
namespace Go.Proofs.YtdjahdnaihijjaaGreatDoor
open Go.RowKit
set_option linter.unusedVariables false
set_option linter.unusedSimpArgs false

/-- The lengths of strings together. -/
def lenL : List ByteArray → Nat
  | [] => 0
  | s :: r => s.size + lenL r
theorem lenL_append : ∀ a b : List ByteArray, lenL (a ++ b) = lenL a + lenL b
  | [], b => by simp [lenL]
  | t :: a, b => by rw [List.cons_append, lenL, lenL, lenL_append a b]; omega
theorem lenL_take (l : List ByteArray) (j : Nat) (h : j < l.length) : lenL (l.take (j + 1)) = lenL (l.take j) + l[j].size := by
  rw [List.take_succ_eq_append_getElem h, lenL_append]
  simp [lenL]
theorem lenL_take_le (l : List ByteArray) (j : Nat) : lenL (l.take j) ≤ lenL l := by
  have := lenL_append (l.take j) (l.drop j)
  rw [List.take_append_drop] at this
  omega
mutual
/-- How long a value's texts are together, with one for each key. -/
def wgtT : Tree → Nat
  | .node _ _ s ks l => s.size + ks.length + lenL ks + wgtL l
def wgtL : List Tree → Nat
  | [] => 0
  | t :: r => wgtT t + wgtL r
end
theorem wgtT_eq (t : Tree) : wgtT t = t.s.size + t.ks.length + lenL t.ks + wgtL t.l := by cases t; rfl
theorem wgtL_append : ∀ a b : List Tree, wgtL (a ++ b) = wgtL a + wgtL b
  | [], b => by simp [wgtL]
  | t :: a, b => by rw [List.cons_append, wgtL, wgtL, wgtL_append a b]; omega
theorem wgtL_take (l : List Tree) (j : Nat) (h : j < l.length) : wgtL (l.take (j + 1)) = wgtL (l.take j) + wgtT l[j] := by
  rw [List.take_succ_eq_append_getElem h, wgtL_append]
  simp [wgtL]
theorem wgtL_take_le (l : List Tree) (j : Nat) : wgtL (l.take j) ≤ wgtL l := by
  have := wgtL_append (l.take j) (l.drop j)
  rw [List.take_append_drop] at this
  omega
theorem remD_shift (m : Int) (c d : Nat) : remD (m - c) d = remD m (c + d) := by
  unfold remD
  by_cases h1 : ((c + d : Nat) : Int) ≤ m
  · rw [if_pos (by omega), if_pos h1]; omega
  · rw [if_neg (by omega), if_neg h1]

end Go.Proofs.YtdjahdnaihijjaaGreatDoor
