/-
  The contract of the document's own Same for values.
  Conditions: none but sizes.
-/
import Derived.Test.YtnafibnhmhbfiaaV5B
import Derived.Deep.RegionHeld3
import Derived.BigQuiet
namespace Go.Proofs.Ytnafibnhmhbfiaa
open Go.RowKit
set_option linter.unusedVariables false
set_option linter.unusedSimpArgs false

mutual
/-- Are two values the same? -/
def sameT : Tree → Tree → Bool
  | .node k n s ks l, .node k' n' s' ks' l' => decide (k = k' ∧ n = n' ∧ s = s' ∧ ks = ks') && sameL l l'
def sameL : List Tree → List Tree → Bool
  | [], [] => true
  | a :: l, b :: m => sameT a b && sameL l m
  | [], _ :: _ => false
  | _ :: _, [] => false
end
theorem sameT_eq (a b : Tree) : sameT a b = (decide (a.k = b.k ∧ a.n = b.n ∧ a.s = b.s ∧ a.ks = b.ks) && sameL a.l b.l) := by cases a; cases b; rfl
theorem sameL_iff : ∀ l m : List Tree, sameL l m = true ↔ l.length = m.length ∧ ∀ j (h : j < l.length) (h' : j < m.length), sameT l[j] m[j] = true
  | [], [] => by simp [sameL]
  | [], _ :: _ => by simp [sameL]
  | _ :: _, [] => by simp [sameL]
  | a :: l, b :: m => by
    rw [sameL, Bool.and_eq_true, sameL_iff l m]
    simp only [List.length_cons, Nat.add_right_cancel_iff]
    constructor
    · rintro ⟨h1, h2, h3⟩
      refine ⟨h2, fun j h h' => ?_⟩
      cases j with
      | zero => exact h1
      | succ j => exact h3 j (by simpa using h) (by simpa using h')
    · rintro ⟨h2, h3⟩
      exact ⟨h3 0 (by simp) (by simp), h2, fun j h h' => h3 (j + 1) (by simpa using h) (by simpa using h')⟩
theorem same_no1 {a b : Tree} (h : ¬ (a.k = b.k ∧ a.n = b.n ∧ a.s = b.s ∧ a.ks = b.ks)) : sameT a b = false := by rw [sameT_eq, decide_eq_false h]; rfl
theorem same_no2 {a b : Tree} (h : ¬ (a.l.length = b.l.length ∧ ∀ j (h : j < a.l.length) (h' : j < b.l.length), sameT a.l[j] b.l[j] = true)) : sameT a b = false := by
  rw [sameT_eq]
  have : sameL a.l b.l = false := by
    cases hs : sameL a.l b.l with
    | false => rfl
    | true => exact absurd ((sameL_iff _ _).1 hs) h
  rw [this, Bool.and_false]
theorem v_same_yes {a b : Tree} (h1 : a.k = b.k) (h2 : a.n = b.n) (h3 : a.s = b.s) (h4 : a.ks = b.ks) (h5 : a.l.length = b.l.length) (h6 : ∀ j (h : j < a.l.length) (h' : j < b.l.length), sameT a.l[j] b.l[j] = true) : sameT a b = true := by
  rw [sameT_eq, decide_eq_true ⟨h1, h2, h3, h4⟩, (sameL_iff _ _).2 ⟨h5, h6⟩]
  rfl
theorem cntL_mem : ∀ {l : List Tree} {j : Nat} (h : j < l.length), cntT l[j] ≤ cntL l
  | t :: l, 0, _ => by simp [cntL]
  | t :: l, j + 1, h => by
    have := cntL_mem (l := l) (j := j) (by simpa using h)
    simp only [List.getElem_cons_succ, cntL]
    omega
theorem cnt_child (t : Tree) (j : Nat) (h : j < t.l.length) : cntT t.l[j] < cntT t := by
  rw [cntT_eq t]
  have := cntL_mem h
  omega
theorem str_cell {w : World} {d : Nat} {v : Value} {l : List ByteArray} (h : ShowsG strC w d v l) (j : Nat) (hj : j < l.length) : ∃ (o c : Nat), v = .slice (some ⟨d, o, none⟩) l.length c ∧ w.cell? ⟨d, o + j, none⟩ = some (.string l[j]) := by
  obtain ⟨A, c, rfl, _, _, h4⟩ := h
  obtain ⟨o, rfl, _, hc⟩ := h4 (by omega)
  have := hc j hj 0 (by decide)
  exact ⟨o, c, rfl, by simpa [strC] using this⟩
theorem str_form {w : World} {d : Nat} {v : Value} {l : List ByteArray} (h : ShowsG strC w d v l) : ∃ A c, v = .slice A l.length c := by
  obtain ⟨A, c, e, _⟩ := h
  exact ⟨A, c, e⟩
theorem toListNe {a b : ByteArray} (h : a ≠ b) : (a.toList == b.toList) = false := by
  have : ¬ a.toList = b.toList := fun e => h (by rw [← str8_sb a, ← str8_sb b, ← sb_toList, ← sb_toList, e])
  simpa using this

/-- Two boxes of the call's own, and what stood before. -/
structure Pair5 (w0 : World) (a0 a1 a2 a3 a4 b0 b1 b2 b3 b4 : Value) (w : World) : Prop where
  a : BoxV w w0.heap.size a0 a1 a2 a3 a4
  b : BoxV w (w0.heap.size + 1) b0 b1 b2 b3 b4
  bel : Below w0.heap.size w0 w
section
variable {w0 w w' : World} {a0 a1 a2 a3 a4 b0 b1 b2 b3 b4 : Value}
theorem Pair5.step (h : Pair5 w0 a0 a1 a2 a3 a4 b0 b1 b2 b3 b4 w) (hb : Below w.heap.size w w') : Pair5 w0 a0 a1 a2 a3 a4 b0 b1 b2 b3 b4 w' :=
  ⟨h.a.kept hb (Nat.le_refl _), h.b.kept hb (Nat.le_refl _), h.bel.trans (hb.mono h.bel.size)⟩
theorem Pair5.drewN (h : Pair5 w0 a0 a1 a2 a3 a4 b0 b1 b2 b3 b4 w) (q : Nat) : Pair5 w0 a0 a1 a2 a3 a4 b0 b1 b2 b3 b4 (w.drewN q) := ⟨h.a, h.b, below_drewN h.bel q⟩
theorem Pair5.drew (h : Pair5 w0 a0 a1 a2 a3 a4 b0 b1 b2 b3 b4 w) : Pair5 w0 a0 a1 a2 a3 a4 b0 b1 b2 b3 b4 w.drew := ⟨h.a, h.b, below_drew1 h.bel⟩
theorem Pair5.start (w0 : World) : Pair5 w0 a0 a1 a2 a3 a4 b0 b1 b2 b3 b4 ((w0.alloc (Obj.cells #[a0, a1, a2, a3, a4] 27)).alloc (Obj.cells #[b0, b1, b2, b3, b4] 27)) := by
  refine ⟨(BoxV.new w0).kept (below_boxV _ _) (Nat.le_refl _), ?_, (below_boxV _ _).alloc (below_boxV _ _).size _⟩
  have := BoxV.new (v0 := b0) (v1 := b1) (v2 := b2) (v3 := b3) (v4 := b4) (w0.alloc (Obj.cells #[a0, a1, a2, a3, a4] 27))
  simpa using this
end

set_option maxRecDepth 100000 in
set_option maxHeartbeats 1000000 in
theorem qsame_no0 (a b : Tree) (va vb : List Value) (w : World) (ha : ShowsT w a va) (hb : ShowsT w b vb) (hx : ¬ a.k = b.k) :
    Calls Try.prog 22 #[.agg va.toArray, .agg vb.toArray] w fun e w' => e = .returned (.bool false) ∧ Below w.heap.size w w' := by
  obtain ⟨kv, A, c, d0, d1, cs, rfl, _, _, hks, _⟩ := ha.open
  obtain ⟨kv', A', c', d0', d1', cs', rfl, _, _, hks', _⟩ := hb.open
  obtain ⟨Ak, ck, rfl⟩ := str_form hks
  obtain ⟨Ak', ck', rfl⟩ := str_form hks'
  have t0 : ((a.k : Int) == (b.k : Int)) = false := by simp; omega
  have r0 : ((a.k : Int) != (b.k : Int)) = true := by simp; omega
  clear  hx ha hb hks hks'
  go_enter Try.func22, Try.ntmps22
  go_wp2_with fail
  go_ret
  exact ⟨rfl, (below_boxV _ _).alloc (below_boxV _ _).size _⟩

set_option maxRecDepth 100000 in
set_option maxHeartbeats 1000000 in
theorem qsame_no1 (a b : Tree) (va vb : List Value) (w : World) (ha : ShowsT w a va) (hb : ShowsT w b vb) (h0 : a.k = b.k) (hx : ¬ a.n = b.n) :
    Calls Try.prog 22 #[.agg va.toArray, .agg vb.toArray] w fun e w' => e = .returned (.bool false) ∧ Below w.heap.size w w' := by
  obtain ⟨kv, A, c, d0, d1, cs, rfl, _, _, hks, _⟩ := ha.open
  obtain ⟨kv', A', c', d0', d1', cs', rfl, _, _, hks', _⟩ := hb.open
  obtain ⟨Ak, ck, rfl⟩ := str_form hks
  obtain ⟨Ak', ck', rfl⟩ := str_form hks'
  have t0 : ((a.k : Int) == (b.k : Int)) = true := by simp; omega
  have r0 : ((a.k : Int) != (b.k : Int)) = false := by simp; omega
  have t1 : ((a.n : Int) == (b.n : Int)) = false := by simp; omega
  have r1 : ((a.n : Int) != (b.n : Int)) = true := by simp; omega
  clear h0 hx ha hb hks hks'
  go_enter Try.func22, Try.ntmps22
  go_wp2_with fail
  go_ret
  exact ⟨rfl, (below_boxV _ _).alloc (below_boxV _ _).size _⟩

set_option maxRecDepth 100000 in
set_option maxHeartbeats 1000000 in
theorem qsame_no2 (a b : Tree) (va vb : List Value) (w : World) (ha : ShowsT w a va) (hb : ShowsT w b vb) (h0 : a.k = b.k) (h1 : a.n = b.n) (hx : ¬ a.s = b.s) :
    Calls Try.prog 22 #[.agg va.toArray, .agg vb.toArray] w fun e w' => e = .returned (.bool false) ∧ Below w.heap.size w w' := by
  obtain ⟨kv, A, c, d0, d1, cs, rfl, _, _, hks, _⟩ := ha.open
  obtain ⟨kv', A', c', d0', d1', cs', rfl, _, _, hks', _⟩ := hb.open
  obtain ⟨Ak, ck, rfl⟩ := str_form hks
  obtain ⟨Ak', ck', rfl⟩ := str_form hks'
  have t0 : ((a.k : Int) == (b.k : Int)) = true := by simp; omega
  have r0 : ((a.k : Int) != (b.k : Int)) = false := by simp; omega
  have t1 : ((a.n : Int) == (b.n : Int)) = true := by simp; omega
  have r1 : ((a.n : Int) != (b.n : Int)) = false := by simp; omega
  have t2 : (a.s.toList == b.s.toList) = false := toListNe hx
  have r2 : (a.s.toList != b.s.toList) = true := by rw [bne, t2]; rfl
  clear h0 h1 hx ha hb hks hks'
  go_enter Try.func22, Try.ntmps22
  go_wp2_with fail
  go_ret
  exact ⟨rfl, (below_boxV _ _).alloc (below_boxV _ _).size _⟩

set_option maxRecDepth 100000 in
set_option maxHeartbeats 1000000 in
theorem qsame_no3 (a b : Tree) (va vb : List Value) (w : World) (ha : ShowsT w a va) (hb : ShowsT w b vb) (h0 : a.k = b.k) (h1 : a.n = b.n) (h2 : a.s = b.s) (hx : ¬ a.ks.length = b.ks.length) :
    Calls Try.prog 22 #[.agg va.toArray, .agg vb.toArray] w fun e w' => e = .returned (.bool false) ∧ Below w.heap.size w w' := by
  obtain ⟨kv, A, c, d0, d1, cs, rfl, _, _, hks, _⟩ := ha.open
  obtain ⟨kv', A', c', d0', d1', cs', rfl, _, _, hks', _⟩ := hb.open
  obtain ⟨Ak, ck, rfl⟩ := str_form hks
  obtain ⟨Ak', ck', rfl⟩ := str_form hks'
  have t0 : ((a.k : Int) == (b.k : Int)) = true := by simp; omega
  have r0 : ((a.k : Int) != (b.k : Int)) = false := by simp; omega
  have t1 : ((a.n : Int) == (b.n : Int)) = true := by simp; omega
  have r1 : ((a.n : Int) != (b.n : Int)) = false := by simp; omega
  have t2 : (a.s.toList == b.s.toList) = true := by rw [h2]; simp
  have r2 : (a.s.toList != b.s.toList) = false := by rw [h2]; simp
  have t3 : ((a.ks.length : Int) == (b.ks.length : Int)) = false := by simp; omega
  have r3 : ((a.ks.length : Int) != (b.ks.length : Int)) = true := by simp; omega
  clear h0 h1 h2 hx ha hb hks hks'
  go_enter Try.func22, Try.ntmps22
  go_wp2_with fail
  go_ret
  exact ⟨rfl, (below_boxV _ _).alloc (below_boxV _ _).size _⟩

set_option maxRecDepth 100000 in
set_option maxHeartbeats 1000000 in
theorem qsame_no4 (a b : Tree) (va vb : List Value) (w : World) (ha : ShowsT w a va) (hb : ShowsT w b vb) (h0 : a.k = b.k) (h1 : a.n = b.n) (h2 : a.s = b.s) (h3 : a.ks.length = b.ks.length) (hx : ¬ a.l.length = b.l.length) :
    Calls Try.prog 22 #[.agg va.toArray, .agg vb.toArray] w fun e w' => e = .returned (.bool false) ∧ Below w.heap.size w w' := by
  obtain ⟨kv, A, c, d0, d1, cs, rfl, _, _, hks, _⟩ := ha.open
  obtain ⟨kv', A', c', d0', d1', cs', rfl, _, _, hks', _⟩ := hb.open
  obtain ⟨Ak, ck, rfl⟩ := str_form hks
  obtain ⟨Ak', ck', rfl⟩ := str_form hks'
  have t0 : ((a.k : Int) == (b.k : Int)) = true := by simp; omega
  have r0 : ((a.k : Int) != (b.k : Int)) = false := by simp; omega
  have t1 : ((a.n : Int) == (b.n : Int)) = true := by simp; omega
  have r1 : ((a.n : Int) != (b.n : Int)) = false := by simp; omega
  have t2 : (a.s.toList == b.s.toList) = true := by rw [h2]; simp
  have r2 : (a.s.toList != b.s.toList) = false := by rw [h2]; simp
  have t3 : ((a.ks.length : Int) == (b.ks.length : Int)) = true := by simp; omega
  have r3 : ((a.ks.length : Int) != (b.ks.length : Int)) = false := by simp; omega
  have t4 : ((a.l.length : Int) == (b.l.length : Int)) = false := by simp; omega
  have r4 : ((a.l.length : Int) != (b.l.length : Int)) = true := by simp; omega
  clear h0 h1 h2 h3 hx ha hb hks hks'
  go_enter Try.func22, Try.ntmps22
  go_wp2_with fail
  go_ret
  exact ⟨rfl, (below_boxV _ _).alloc (below_boxV _ _).size _⟩

end Go.Proofs.Ytnafibnhmhbfiaa
