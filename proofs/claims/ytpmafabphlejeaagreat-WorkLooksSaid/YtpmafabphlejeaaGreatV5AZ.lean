/-
  Texts, together: V5A, V5B, V5C, V5D, V5E.
  Conditions: none but sizes.
-/
import Derived.WalkKit
import Derived.Test.YtpmafabphlejeaaGreatMemZ
import Derived.Test.YtpmafabphlejeaaGreatBigZ
import Derived.Deep.RegionHeld3
import Derived.BigQuiet
/-
  Values as trees, and how they lie in memory; the contracts of the document's own tooDeep and left for values.
  Conditions: none but sizes.
-/
namespace Go.Proofs.YtpmafabphlejeaaGreat
open Go.RowKit
set_option linter.unusedVariables false
set_option linter.unusedSimpArgs false

/-- A value. -/
inductive Tree where
  | node (k n : Nat) (s : ByteArray) (ks : List ByteArray) (l : List Tree)
def Tree.k : Tree → Nat | .node k _ _ _ _ => k
def Tree.n : Tree → Nat | .node _ n _ _ _ => n
def Tree.s : Tree → ByteArray | .node _ _ s _ _ => s
def Tree.ks : Tree → List ByteArray | .node _ _ _ ks _ => ks
def Tree.l : Tree → List Tree | .node _ _ _ _ l => l

/-- How a string lies: one cell. -/
def strC : Code ByteArray := { enc := fun x => [.string x], sz := 1, len := fun _ => rfl, one := fun x u hu => by simp at hu; subst hu; rfl, pos := by omega }

/-- These five cells show that value in w. -/
inductive ShowsT (w : World) : Tree → List Value → Prop
  | mk {k n : Nat} {s : ByteArray} {ks : List ByteArray} {l : List Tree} {kv : Value} {A : Option Addr} {c d0 d1 : Nat} (cs : Nat → List Value) (hk : k < 256) (hn : n < 18446744073709551616) (hks : ShowsG strC w d0 kv ks) (hkl : ks.length ≤ 8796093022208) (hkz : ∀ x ∈ ks, x.size ≤ 140737488351232) (hsz : s.size ≤ 140737488351232) (hln : l.length ≤ 2199023255552) (hlc : l.length ≤ c) (hcm : c ≤ maxLen)
      (hrow : 0 < l.length → ∃ o, A = some ⟨d1, o, none⟩ ∧ d1 < w.heap.size ∧ ∀ j, j < l.length → ∀ q, q < 5 → w.cell? ⟨d1, o + (j * 5 + q), none⟩ = (cs j)[q]?)
      (hch : ∀ j (h : j < l.length), ShowsT w l[j] (cs j)) : ShowsT w (.node k n s ks l) [.int .u8 k, .int .u64 n, .string s, kv, .slice A l.length c]

/-- Five cells, written out. -/
theorem ShowsT.open {w : World} {t : Tree} {vs : List Value} (h : ShowsT w t vs) : ∃ (kv : Value) (A : Option Addr) (c d0 d1 : Nat) (cs : Nat → List Value),
    vs = [.int .u8 t.k, .int .u64 t.n, .string t.s, kv, .slice A t.l.length c] ∧ t.k < 256 ∧ t.n < 18446744073709551616 ∧ ShowsG strC w d0 kv t.ks ∧ t.ks.length ≤ 8796093022208 ∧ (∀ x ∈ t.ks, x.size ≤ 140737488351232) ∧ t.s.size ≤ 140737488351232 ∧ t.l.length ≤ 2199023255552 ∧ t.l.length ≤ c ∧ c ≤ maxLen ∧
      (0 < t.l.length → ∃ o, A = some ⟨d1, o, none⟩ ∧ d1 < w.heap.size ∧ ∀ j, j < t.l.length → ∀ q, q < 5 → w.cell? ⟨d1, o + (j * 5 + q), none⟩ = (cs j)[q]?) ∧
      ∀ j (h : j < t.l.length), ShowsT w t.l[j] (cs j) := by
  cases h with
  | mk cs hk hn hks hkl hkz hsz hln hlc hcm hrow hch => exact ⟨_, _, _, _, _, cs, rfl, hk, hn, hks, hkl, hkz, hsz, hln, hlc, hcm, hrow, hch⟩
theorem ShowsT.len {w : World} {t : Tree} {vs : List Value} (h : ShowsT w t vs) : vs.length = 5 := by
  obtain ⟨_, _, _, _, _, _, rfl, _⟩ := h.open
  rfl
theorem ShowsT.kept {w w' : World} {B : Nat} {t : Tree} {vs : List Value} (h : ShowsT w t vs) (hb : Below B w w') (hB : w.heap.size ≤ B) : ShowsT w' t vs := by
  induction h with
  | @mk k n s ks l kv A c d0 d1 cs hk hn hks hkl hkz hsz hln hlc hcm hrow hch ih =>
    refine .mk (d0 := d0) (d1 := d1) cs hk hn (hks.below' hb hB) hkl hkz hsz hln hlc hcm (fun hp => ?_) ih
    obtain ⟨o, e1, e2, e3⟩ := hrow hp
    exact ⟨o, e1, Nat.lt_of_lt_of_le e2 hb.size, fun j hj q hq => (World.cell?_of_block (w := w) (hb.block d1 (Nat.lt_of_lt_of_le e2 hB))).trans (e3 j hj q hq)⟩

theorem below_boxV (w : World) (o : Obj) : Below w.heap.size w (w.alloc o) := (Below.refl _ _).alloc (Nat.le_refl _) o
/-- Five cells in a block of the call's own. -/
def BoxV (w : World) (b : Nat) (v0 v1 v2 v3 v4 : Value) : Prop := w.heap[b]? = some (.cells #[v0, v1, v2, v3, v4] 31 (0, 0))
section
variable {w w' : World} {b B : Nat} {v0 v1 v2 v3 v4 : Value}
theorem BoxV.new (w : World) : BoxV (w.alloc (Obj.cells #[v0, v1, v2, v3, v4] 31)) w.heap.size v0 v1 v2 v3 v4 := heap_alloc_new w _
theorem BoxV.lt (h : BoxV w b v0 v1 v2 v3 v4) : b < w.heap.size := (Array.getElem?_eq_some_iff.1 h).1
theorem BoxV.kept (h : BoxV w b v0 v1 v2 v3 v4) (hb : Below B w w') (hB : w.heap.size ≤ B) : BoxV w' b v0 v1 v2 v3 v4 := (hb.block b (Nat.lt_of_lt_of_le h.lt hB)).trans h
theorem BoxV.c0 (h : BoxV w b v0 v1 v2 v3 v4) : w.cell? ⟨b, 0, none⟩ = some v0 := by rw [cell_of_row w b _ _ 31 (0, 0) h]; rfl
theorem BoxV.c1 (h : BoxV w b v0 v1 v2 v3 v4) : w.cell? ⟨b, 1, none⟩ = some v1 := by rw [cell_of_row w b _ _ 31 (0, 0) h]; rfl
theorem BoxV.c2 (h : BoxV w b v0 v1 v2 v3 v4) : w.cell? ⟨b, 2, none⟩ = some v2 := by rw [cell_of_row w b _ _ 31 (0, 0) h]; rfl
theorem BoxV.c3 (h : BoxV w b v0 v1 v2 v3 v4) : w.cell? ⟨b, 3, none⟩ = some v3 := by rw [cell_of_row w b _ _ 31 (0, 0) h]; rfl
theorem BoxV.c4 (h : BoxV w b v0 v1 v2 v3 v4) : w.cell? ⟨b, 4, none⟩ = some v4 := by rw [cell_of_row w b _ _ 31 (0, 0) h]; rfl
end

/-- A child's cells, where the walk reckons them. -/
theorem ShowsT.child {w : World} {t : Tree} {kv : Value} {A : Option Addr} {c : Nat} {a b s : Value} (h : ShowsT w t [a, b, s, kv, .slice A t.l.length c]) (j : Nat) (hj : j < t.l.length) :
    ∃ (d o : Nat) (v0 v1 v2 v3 v4 : Value), A = some ⟨d, o, none⟩ ∧ d < w.heap.size ∧ ShowsT w t.l[j] [v0, v1, v2, v3, v4] ∧ w.cell? ⟨d, o + j * 5, none⟩ = some v0 ∧ w.cell? ⟨d, o + j * 5 + 1, none⟩ = some v1 ∧
      w.cell? ⟨d, o + j * 5 + 2, none⟩ = some v2 ∧ w.cell? ⟨d, o + j * 5 + 3, none⟩ = some v3 ∧ w.cell? ⟨d, o + j * 5 + 4, none⟩ = some v4 := by
  obtain ⟨kv', A', c', d0, d1, cs, e, _, _, _, _, _, _, _, _, _, hrow, hch⟩ := h.open
  simp only [List.cons.injEq, Value.slice.injEq, and_true] at e
  obtain ⟨_, _, _, _, e1, _, e2⟩ := e
  subst e1
  obtain ⟨o, rfl, hd, hc⟩ := hrow (by omega)
  have hs := hch j hj
  have hl := hs.len
  obtain ⟨v0, v1, v2, v3, v4, hv⟩ : ∃ v0 v1 v2 v3 v4, cs j = [v0, v1, v2, v3, v4] := by
    match cs j, hl with
    | [a, b, c, d, e], _ => exact ⟨a, b, c, d, e, rfl⟩
  rw [hv] at hs
  have hq := fun q hq => hc j hj q hq
  rw [hv] at hq
  exact ⟨d1, o, v0, v1, v2, v3, v4, rfl, hd, hs, hq 0 (by omega), hq 1 (by omega), hq 2 (by omega), hq 3 (by omega), hq 4 (by omega)⟩

/-- Does a value in it lie in so many others, or more? -/
def deepD : Nat → Tree → Bool
  | 0, _ => true
  | m + 1, t => t.l.any (deepD m)

set_option maxRecDepth 100000 in
set_option maxHeartbeats 1000000 in
theorem qdeep_any : ∀ (m : Nat) (t : Tree) (vs : List Value) (w : World), ShowsT w t vs → m ≤ 1000 →
    Calls Tryz.prog 82 #[.agg vs.toArray, .int .i64 m] w fun e w' => e = .returned (.bool (deepD m t)) ∧ Below w.heap.size w w'
  | 0, t, vs, w, h, hm => by
    obtain ⟨kv, A, c, d0, d1, cs, rfl, _⟩ := h.open
    go_enter Tryz.func82, Tryz.ntmps82
    go_wp2_with fail
    go_ret
    exact ⟨rfl, below_boxV _ _⟩
  | m + 1, t, vs, w, h, hm => by
    have IH := Lib.hid (fun t vs w h => qdeep_any m t vs w h (by omega))
    have hsh := h
    obtain ⟨kv, A, c, d0, d1, cs, rfl, _, _, _, _, _, _, hln, _⟩ := h.open
    obtain ⟨N, hN⟩ : ∃ N, N = m + 1 := ⟨_, rfl⟩
    have hm1 : ((N : Int) == 0) = false := by simp; omega
    have hNb : N ≤ 1000 := by omega
    have hN1 : 1 ≤ N := by omega
    have hs1 : (m : Int) = (N : Int) - 1 := by omega
    have hD : deepD (m + 1) t = t.l.any (deepD m) := rfl
    rw [hD, ← hN]
    have HS1 := Lib.hid hs1
    clear hD h hN hm hs1
    go_enter Tryz.func82, Tryz.ntmps82
    go_wp2_with fail
    go_loopw [5] (fun i wr => ∃ j : Nat, j ≤ t.l.length ∧ i = .int .i64 j ∧ BoxV wr w.heap.size (.int .u8 t.k) (.int .u64 t.n) (.string t.s) kv (.slice A t.l.length c) ∧ Below w.heap.size w wr ∧ ∀ q (h' : q < t.l.length), q < j → deepD m t.l[q] = false) (fun i _ => t.l.length - (intOf i).toNat)
    case atStart => exact ⟨0, by omega, rfl, BoxV.new w, below_boxV _ _, fun q _ h => absurd h (by omega)⟩
    case round =>
      obtain ⟨j, hj, rfl, hX, hb, hlo⟩ := hrel
      rename World => wj
      have x4 := hX.c4
      by_cases hlt : j < t.l.length
      · obtain ⟨d, o, v0, v1, v2, v3, v4, rfl, hd, hch, e0, e1, e2, e3, e4⟩ := (hsh.kept hb (Nat.le_refl _)).child j hlt
        have hjl : (j : Int) < (t.l.length : Int) := by omega
        have hc := fun vs w h => IH.out (t.l[j]'hlt) vs w h
        rw [HS1.out] at hc
        cases hdp : deepD m t.l[j] with
        | true =>
          have hfin : t.l.any (deepD m) = true := List.any_eq_true.2 ⟨_, List.getElem_mem hlt, hdp⟩
          rw [hdp] at hc
          have HC := Lib.hid hc
          have HF := Lib.hid hfin
          clear hc hlo hdp hfin
          go_wp2_with fail
          refine (HC.out _ _ hch).mono ?_
          rintro e wx ⟨rfl, hx⟩
          go_wp2_with fail
          go_ret
          exact ⟨by rw [HF.out]; rfl, hb.trans (hx.mono hb.size)⟩
        | false =>
          rw [hdp] at hc
          have HC := Lib.hid hc
          have HLO : Hid (∀ q (h' : q < t.l.length), q < j + 1 → deepD m t.l[q] = false) := by
            show ∀ q (h' : q < t.l.length), q < j + 1 → deepD m t.l[q] = false
            intro q hq hqj
            by_cases hqj2 : q < j
            · exact hlo q hq hqj2
            · obtain rfl : q = j := by omega
              exact hdp
          clear hc hlo hdp
          go_wp2_with fail
          refine (HC.out _ _ hch).mono ?_
          rintro e wx ⟨rfl, hx⟩
          go_wp2_with fail
          go_roundw
          case rel => exact ⟨j + 1, by omega, by go_num, hX.kept hx (Nat.le_refl _), hb.trans (hx.mono hb.size), HLO.out⟩
          case measure => simp [intOf]; omega
      · have hjl : ¬ (j : Int) < (t.l.length : Int) := by omega
        have hfin : t.l.any (deepD m) = false := by
          rw [List.any_eq_false]
          intro x hx
          obtain ⟨q, hq, rfl⟩ := List.getElem_of_mem hx
          rw [hlo q hq (by omega)]
          simp
        have HF := Lib.hid hfin
        clear hlo hfin
        go_wp2_with fail
        go_ret
        exact ⟨by rw [HF.out]; rfl, hb⟩

end Go.Proofs.YtpmafabphlejeaaGreat
/-
  The contract of the document's own left for values: how many values are left of so many.
  Conditions: none but sizes.
-/
namespace Go.Proofs.YtpmafabphlejeaaGreat
open Go.RowKit
set_option linter.unusedVariables false
set_option linter.unusedSimpArgs false

mutual
/-- How many values there are in all. -/
def cntT : Tree → Nat
  | .node _ _ _ _ l => 1 + cntL l
def cntL : List Tree → Nat
  | [] => 0
  | t :: r => cntT t + cntL r
end
theorem cntT_eq (t : Tree) : cntT t = 1 + cntL t.l := by cases t; rfl
theorem cntL_append : ∀ a b : List Tree, cntL (a ++ b) = cntL a + cntL b
  | [], b => by simp [cntL]
  | t :: a, b => by rw [List.cons_append, cntL, cntL, cntL_append a b]; omega
theorem cntL_take (l : List Tree) (j : Nat) (h : j < l.length) : cntL (l.take (j + 1)) = cntL (l.take j) + cntT l[j] := by
  rw [List.take_succ_eq_append_getElem h, cntL_append]
  simp [cntL]
theorem cntL_take_le (l : List Tree) (j : Nat) : cntL (l.take j) ≤ cntL l := by
  have := cntL_append (l.take j) (l.drop j)
  rw [List.take_append_drop] at this
  omega
/-- What is left of m when c are taken; -1: there were more. -/
def remD (m : Int) (c : Nat) : Int := if (c : Int) ≤ m then m - c else -1
theorem remD_cases (m : Int) (c : Nat) : (remD m c = -1 ∧ m < c) ∨ (0 ≤ remD m c ∧ remD m c = m - c ∧ (c : Int) ≤ m) := by
  unfold remD
  split
  · exact .inr ⟨by omega, rfl, by assumption⟩
  · exact .inl ⟨rfl, by omega⟩
theorem remD_add (m : Int) (c d : Nat) (h : (c : Int) ≤ m) : remD (m - c) d = remD m (c + d) := by
  unfold remD
  by_cases h1 : ((c + d : Nat) : Int) ≤ m
  · rw [if_pos (by omega), if_pos h1]; omega
  · rw [if_neg (by omega), if_neg h1]
theorem remD_less (m : Int) (c d : Nat) (h : m < c) (hcd : c ≤ d) : remD m d = -1 := by
  unfold remD
  rw [if_neg (by omega)]
theorem remD_node (n : Nat) (c : Nat) : remD ((n : Int) - 1) c = remD n (1 + c) := by
  unfold remD
  by_cases h1 : ((1 + c : Nat) : Int) ≤ n
  · rw [if_pos (by omega), if_pos h1]; omega
  · rw [if_neg (by omega), if_neg h1]

set_option maxRecDepth 100000 in
set_option maxHeartbeats 2000000 in
theorem qleft_any (n : Nat) : ∀ (t : Tree) (vs : List Value) (w : World), ShowsT w t vs → n ≤ 1000 →
    Calls Tryz.prog 81 #[.agg vs.toArray, .int .i64 n] w fun e w' => e = .returned (.int .i64 (remD n (cntT t))) ∧ Below w.heap.size w w' := by
  induction n using Nat.strongRecOn with
  | ind n ih =>
    intro t vs w h hn
    have IH := Lib.hid (fun (m : Int) (hm0 : 0 ≤ m) (hmn : m ≤ (n : Int) - 1) t vs w (h : ShowsT w t vs) => show Calls Tryz.prog 81 #[.agg vs.toArray, .int .i64 m] w fun e w' => e = .returned (.int .i64 (remD m (cntT t))) ∧ Below w.heap.size w w' from by
      obtain ⟨m', rfl⟩ := Int.eq_ofNat_of_zero_le hm0
      exact ih m' (by omega) t vs w h (by omega))
    clear ih
    have hsh := h
    obtain ⟨kv, A, c, d0, d1, cs, rfl, _, _, _, _, _, _, hln, _⟩ := h.open
    rw [cntT_eq, ← remD_node]
    clear h
    go_enter Tryz.func81, Tryz.ntmps81
    go_wp2_with fail
    go_loopw [1, 5] (fun x i wr => ∃ j : Nat, j ≤ t.l.length ∧ i = .int .i64 j ∧ x = .int .i64 (remD ((n : Int) - 1) (cntL (t.l.take j))) ∧ BoxV wr w.heap.size (.int .u8 t.k) (.int .u64 t.n) (.string t.s) kv (.slice A t.l.length c) ∧ Below w.heap.size w wr) (fun _ i _ => t.l.length - (intOf i).toNat)
    case atStart => exact ⟨0, by omega, rfl, by simp [cntL, remD]; omega, BoxV.new w, below_boxV _ _⟩
    case round =>
      obtain ⟨j, hj, rfl, rfl, hX, hb⟩ := hrel
      rename World => wj
      have x4 := hX.c4
      by_cases hlt : j < t.l.length
      · have hjl : (j : Int) < (t.l.length : Int) := by omega
        rcases remD_cases ((n : Int) - 1) (cntL (t.l.take j)) with ⟨hr, hc1⟩ | ⟨hr0, hr1, hc1⟩
        · have hfin : (-1 : Int) = remD ((n : Int) - 1) (cntL t.l) := (remD_less _ _ _ hc1 (cntL_take_le _ _)).symm
          rw [hr]
          have HF := Lib.hid hfin
          clear hfin hr hc1
          go_wp2_with fail
          go_ret
          exact ⟨by rw [← HF.out]; rfl, hb⟩
        · obtain ⟨d, o, v0, v1, v2, v3, v4, rfl, hd, hch, e0, e1, e2, e3, e4⟩ := (hsh.kept hb (Nat.le_refl _)).child j hlt
          have hstep : remD ((n : Int) - 1 - (cntL (t.l.take j) : Nat)) (cntT (t.l[j]'hlt)) = remD ((n : Int) - 1) (cntL (t.l.take (j + 1))) := by
            rw [cntL_take _ _ hlt, remD_add _ _ _ hc1]
          have hc := fun vs w h => IH.out (remD ((n : Int) - 1) (cntL (t.l.take j))) hr0 (by omega) (t.l[j]'hlt) vs w h
          rw [hr1] at hc ⊢
          rw [hstep] at hc
          have hr2 : (0 : Int) ≤ (n : Int) - 1 - (cntL (t.l.take j) : Nat) := by omega
          generalize (n : Int) - 1 - (cntL (t.l.take j) : Nat) = x at *
          have HC := Lib.hid hc
          clear hc hstep hc1 hr0 hr1
          go_wp2_with fail
          refine (HC.out _ _ hch).mono ?_
          rintro e wx ⟨rfl, hx⟩
          go_wp2_with fail
          go_roundw
          case rel => exact ⟨j + 1, by omega, by go_num, rfl, hX.kept hx (Nat.le_refl _), hb.trans (hx.mono hb.size)⟩
          case measure => simp [intOf]; omega
      · have hjl : ¬ (j : Int) < (t.l.length : Int) := by omega
        rw [show t.l.take j = t.l from List.take_of_length_le (by omega)]
        obtain ⟨x, hx⟩ : ∃ x, x = remD ((n : Int) - 1) (cntL t.l) := ⟨_, rfl⟩
        rw [← hx]
        have HX := Lib.hid hx
        clear hx
        go_wp2_with fail
        go_ret
        exact ⟨by rw [← HX.out]; rfl, hb⟩

end Go.Proofs.YtpmafabphlejeaaGreat
/-
  The contract of the document's own Same for values.
  Conditions: none but sizes.
-/
namespace Go.Proofs.YtpmafabphlejeaaGreat
open Go.RowKit
set_option linter.unusedVariables false
set_option linter.unusedSimpArgs false

mutual
/-- Are two values the same? -/
def sameT : Tree → Tree → Bool
  | .node k n s ks l, .node k' n' s' ks' l' => decide (k = k' ∧ n = n' ∧ s = s' ∧ ks = ks') && sameL l l'
def sameL : List Tree → List Tree → Bool
  | [], [] => true
  | a :: l, b :: m => sameT a b && sameL l m
  | [], _ :: _ => false
  | _ :: _, [] => false
end
theorem sameT_eq (a b : Tree) : sameT a b = (decide (a.k = b.k ∧ a.n = b.n ∧ a.s = b.s ∧ a.ks = b.ks) && sameL a.l b.l) := by cases a; cases b; rfl
theorem sameL_iff : ∀ l m : List Tree, sameL l m = true ↔ l.length = m.length ∧ ∀ j (h : j < l.length) (h' : j < m.length), sameT l[j] m[j] = true
  | [], [] => by simp [sameL]
  | [], _ :: _ => by simp [sameL]
  | _ :: _, [] => by simp [sameL]
  | a :: l, b :: m => by
    rw [sameL, Bool.and_eq_true, sameL_iff l m]
    simp only [List.length_cons, Nat.add_right_cancel_iff]
    constructor
    · rintro ⟨h1, h2, h3⟩
      refine ⟨h2, fun j h h' => ?_⟩
      cases j with
      | zero => exact h1
      | succ j => exact h3 j (by simpa using h) (by simpa using h')
    · rintro ⟨h2, h3⟩
      exact ⟨h3 0 (by simp) (by simp), h2, fun j h h' => h3 (j + 1) (by simpa using h) (by simpa using h')⟩
theorem same_no1 {a b : Tree} (h : ¬ (a.k = b.k ∧ a.n = b.n ∧ a.s = b.s ∧ a.ks = b.ks)) : sameT a b = false := by rw [sameT_eq, decide_eq_false h]; rfl
theorem same_no2 {a b : Tree} (h : ¬ (a.l.length = b.l.length ∧ ∀ j (h : j < a.l.length) (h' : j < b.l.length), sameT a.l[j] b.l[j] = true)) : sameT a b = false := by
  rw [sameT_eq]
  have : sameL a.l b.l = false := by
    cases hs : sameL a.l b.l with
    | false => rfl
    | true => exact absurd ((sameL_iff _ _).1 hs) h
  rw [this, Bool.and_false]
theorem v_same_yes {a b : Tree} (h1 : a.k = b.k) (h2 : a.n = b.n) (h3 : a.s = b.s) (h4 : a.ks = b.ks) (h5 : a.l.length = b.l.length) (h6 : ∀ j (h : j < a.l.length) (h' : j < b.l.length), sameT a.l[j] b.l[j] = true) : sameT a b = true := by
  rw [sameT_eq, decide_eq_true ⟨h1, h2, h3, h4⟩, (sameL_iff _ _).2 ⟨h5, h6⟩]
  rfl
theorem cntL_mem : ∀ {l : List Tree} {j : Nat} (h : j < l.length), cntT l[j] ≤ cntL l
  | t :: l, 0, _ => by simp [cntL]
  | t :: l, j + 1, h => by
    have := cntL_mem (l := l) (j := j) (by simpa using h)
    simp only [List.getElem_cons_succ, cntL]
    omega
theorem cnt_child (t : Tree) (j : Nat) (h : j < t.l.length) : cntT t.l[j] < cntT t := by
  rw [cntT_eq t]
  have := cntL_mem h
  omega
theorem str_cell {w : World} {d : Nat} {v : Value} {l : List ByteArray} (h : ShowsG strC w d v l) (j : Nat) (hj : j < l.length) : ∃ (o c : Nat), v = .slice (some ⟨d, o, none⟩) l.length c ∧ w.cell? ⟨d, o + j, none⟩ = some (.string l[j]) := by
  obtain ⟨A, c, rfl, _, _, h4⟩ := h
  obtain ⟨o, rfl, _, hc⟩ := h4 (by omega)
  have := hc j hj 0 (by decide)
  exact ⟨o, c, rfl, by simpa [strC] using this⟩
theorem str_form {w : World} {d : Nat} {v : Value} {l : List ByteArray} (h : ShowsG strC w d v l) : ∃ A c, v = .slice A l.length c := by
  obtain ⟨A, c, e, _⟩ := h
  exact ⟨A, c, e⟩
theorem toListNe {a b : ByteArray} (h : a ≠ b) : (a.toList == b.toList) = false := by
  have : ¬ a.toList = b.toList := fun e => h (by rw [← str8_sb a, ← str8_sb b, ← sb_toList, ← sb_toList, e])
  simpa using this

/-- Two boxes of the call's own, and what stood before. -/
structure Pair5 (w0 : World) (a0 a1 a2 a3 a4 b0 b1 b2 b3 b4 : Value) (w : World) : Prop where
  a : BoxV w w0.heap.size a0 a1 a2 a3 a4
  b : BoxV w (w0.heap.size + 1) b0 b1 b2 b3 b4
  bel : Below w0.heap.size w0 w
section
variable {w0 w w' : World} {a0 a1 a2 a3 a4 b0 b1 b2 b3 b4 : Value}
theorem Pair5.step (h : Pair5 w0 a0 a1 a2 a3 a4 b0 b1 b2 b3 b4 w) (hb : Below w.heap.size w w') : Pair5 w0 a0 a1 a2 a3 a4 b0 b1 b2 b3 b4 w' :=
  ⟨h.a.kept hb (Nat.le_refl _), h.b.kept hb (Nat.le_refl _), h.bel.trans (hb.mono h.bel.size)⟩
theorem Pair5.drewN (h : Pair5 w0 a0 a1 a2 a3 a4 b0 b1 b2 b3 b4 w) (q : Nat) : Pair5 w0 a0 a1 a2 a3 a4 b0 b1 b2 b3 b4 (w.drewN q) := ⟨h.a, h.b, below_drewN h.bel q⟩
theorem Pair5.drew (h : Pair5 w0 a0 a1 a2 a3 a4 b0 b1 b2 b3 b4 w) : Pair5 w0 a0 a1 a2 a3 a4 b0 b1 b2 b3 b4 w.drew := ⟨h.a, h.b, below_drew1 h.bel⟩
theorem Pair5.start (w0 : World) : Pair5 w0 a0 a1 a2 a3 a4 b0 b1 b2 b3 b4 ((w0.alloc (Obj.cells #[a0, a1, a2, a3, a4] 31)).alloc (Obj.cells #[b0, b1, b2, b3, b4] 31)) := by
  refine ⟨(BoxV.new w0).kept (below_boxV _ _) (Nat.le_refl _), ?_, (below_boxV _ _).alloc (below_boxV _ _).size _⟩
  have := BoxV.new (v0 := b0) (v1 := b1) (v2 := b2) (v3 := b3) (v4 := b4) (w0.alloc (Obj.cells #[a0, a1, a2, a3, a4] 31))
  simpa using this
end

set_option maxRecDepth 100000 in
set_option maxHeartbeats 1000000 in
theorem qsame_no0 (a b : Tree) (va vb : List Value) (w : World) (ha : ShowsT w a va) (hb : ShowsT w b vb) (hx : ¬ a.k = b.k) :
    Calls Tryz.prog 101 #[.agg va.toArray, .agg vb.toArray] w fun e w' => e = .returned (.bool false) ∧ Below w.heap.size w w' := by
  obtain ⟨kv, A, c, d0, d1, cs, rfl, _, _, hks, _⟩ := ha.open
  obtain ⟨kv', A', c', d0', d1', cs', rfl, _, _, hks', _⟩ := hb.open
  obtain ⟨Ak, ck, rfl⟩ := str_form hks
  obtain ⟨Ak', ck', rfl⟩ := str_form hks'
  have t0 : ((a.k : Int) == (b.k : Int)) = false := by simp; omega
  have r0 : ((a.k : Int) != (b.k : Int)) = true := by simp; omega
  clear  hx ha hb hks hks'
  go_enter Tryz.func101, Tryz.ntmps101
  go_wp2_with fail
  go_ret
  exact ⟨rfl, (below_boxV _ _).alloc (below_boxV _ _).size _⟩

set_option maxRecDepth 100000 in
set_option maxHeartbeats 1000000 in
theorem qsame_no1 (a b : Tree) (va vb : List Value) (w : World) (ha : ShowsT w a va) (hb : ShowsT w b vb) (h0 : a.k = b.k) (hx : ¬ a.n = b.n) :
    Calls Tryz.prog 101 #[.agg va.toArray, .agg vb.toArray] w fun e w' => e = .returned (.bool false) ∧ Below w.heap.size w w' := by
  obtain ⟨kv, A, c, d0, d1, cs, rfl, _, _, hks, _⟩ := ha.open
  obtain ⟨kv', A', c', d0', d1', cs', rfl, _, _, hks', _⟩ := hb.open
  obtain ⟨Ak, ck, rfl⟩ := str_form hks
  obtain ⟨Ak', ck', rfl⟩ := str_form hks'
  have t0 : ((a.k : Int) == (b.k : Int)) = true := by simp; omega
  have r0 : ((a.k : Int) != (b.k : Int)) = false := by simp; omega
  have t1 : ((a.n : Int) == (b.n : Int)) = false := by simp; omega
  have r1 : ((a.n : Int) != (b.n : Int)) = true := by simp; omega
  clear h0 hx ha hb hks hks'
  go_enter Tryz.func101, Tryz.ntmps101
  go_wp2_with fail
  go_ret
  exact ⟨rfl, (below_boxV _ _).alloc (below_boxV _ _).size _⟩

set_option maxRecDepth 100000 in
set_option maxHeartbeats 1000000 in
theorem qsame_no2 (a b : Tree) (va vb : List Value) (w : World) (ha : ShowsT w a va) (hb : ShowsT w b vb) (h0 : a.k = b.k) (h1 : a.n = b.n) (hx : ¬ a.s = b.s) :
    Calls Tryz.prog 101 #[.agg va.toArray, .agg vb.toArray] w fun e w' => e = .returned (.bool false) ∧ Below w.heap.size w w' := by
  obtain ⟨kv, A, c, d0, d1, cs, rfl, _, _, hks, _⟩ := ha.open
  obtain ⟨kv', A', c', d0', d1', cs', rfl, _, _, hks', _⟩ := hb.open
  obtain ⟨Ak, ck, rfl⟩ := str_form hks
  obtain ⟨Ak', ck', rfl⟩ := str_form hks'
  have t0 : ((a.k : Int) == (b.k : Int)) = true := by simp; omega
  have r0 : ((a.k : Int) != (b.k : Int)) = false := by simp; omega
  have t1 : ((a.n : Int) == (b.n : Int)) = true := by simp; omega
  have r1 : ((a.n : Int) != (b.n : Int)) = false := by simp; omega
  have t2 : (a.s.toList == b.s.toList) = false := toListNe hx
  have r2 : (a.s.toList != b.s.toList) = true := by rw [bne, t2]; rfl
  clear h0 h1 hx ha hb hks hks'
  go_enter Tryz.func101, Tryz.ntmps101
  go_wp2_with fail
  go_ret
  exact ⟨rfl, (below_boxV _ _).alloc (below_boxV _ _).size _⟩

set_option maxRecDepth 100000 in
set_option maxHeartbeats 1000000 in
theorem qsame_no3 (a b : Tree) (va vb : List Value) (w : World) (ha : ShowsT w a va) (hb : ShowsT w b vb) (h0 : a.k = b.k) (h1 : a.n = b.n) (h2 : a.s = b.s) (hx : ¬ a.ks.length = b.ks.length) :
    Calls Tryz.prog 101 #[.agg va.toArray, .agg vb.toArray] w fun e w' => e = .returned (.bool false) ∧ Below w.heap.size w w' := by
  obtain ⟨kv, A, c, d0, d1, cs, rfl, _, _, hks, _⟩ := ha.open
  obtain ⟨kv', A', c', d0', d1', cs', rfl, _, _, hks', _⟩ := hb.open
  obtain ⟨Ak, ck, rfl⟩ := str_form hks
  obtain ⟨Ak', ck', rfl⟩ := str_form hks'
  have t0 : ((a.k : Int) == (b.k : Int)) = true := by simp; omega
  have r0 : ((a.k : Int) != (b.k : Int)) = false := by simp; omega
  have t1 : ((a.n : Int) == (b.n : Int)) = true := by simp; omega
  have r1 : ((a.n : Int) != (b.n : Int)) = false := by simp; omega
  have t2 : (a.s.toList == b.s.toList) = true := by rw [h2]; simp
  have r2 : (a.s.toList != b.s.toList) = false := by rw [h2]; simp
  have t3 : ((a.ks.length : Int) == (b.ks.length : Int)) = false := by simp; omega
  have r3 : ((a.ks.length : Int) != (b.ks.length : Int)) = true := by simp; omega
  clear h0 h1 h2 hx ha hb hks hks'
  go_enter Tryz.func101, Tryz.ntmps101
  go_wp2_with fail
  go_ret
  exact ⟨rfl, (below_boxV _ _).alloc (below_boxV _ _).size _⟩

set_option maxRecDepth 100000 in
set_option maxHeartbeats 1000000 in
theorem qsame_no4 (a b : Tree) (va vb : List Value) (w : World) (ha : ShowsT w a va) (hb : ShowsT w b vb) (h0 : a.k = b.k) (h1 : a.n = b.n) (h2 : a.s = b.s) (h3 : a.ks.length = b.ks.length) (hx : ¬ a.l.length = b.l.length) :
    Calls Tryz.prog 101 #[.agg va.toArray, .agg vb.toArray] w fun e w' => e = .returned (.bool false) ∧ Below w.heap.size w w' := by
  obtain ⟨kv, A, c, d0, d1, cs, rfl, _, _, hks, _⟩ := ha.open
  obtain ⟨kv', A', c', d0', d1', cs', rfl, _, _, hks', _⟩ := hb.open
  obtain ⟨Ak, ck, rfl⟩ := str_form hks
  obtain ⟨Ak', ck', rfl⟩ := str_form hks'
  have t0 : ((a.k : Int) == (b.k : Int)) = true := by simp; omega
  have r0 : ((a.k : Int) != (b.k : Int)) = false := by simp; omega
  have t1 : ((a.n : Int) == (b.n : Int)) = true := by simp; omega
  have r1 : ((a.n : Int) != (b.n : Int)) = false := by simp; omega
  have t2 : (a.s.toList == b.s.toList) = true := by rw [h2]; simp
  have r2 : (a.s.toList != b.s.toList) = false := by rw [h2]; simp
  have t3 : ((a.ks.length : Int) == (b.ks.length : Int)) = true := by simp; omega
  have r3 : ((a.ks.length : Int) != (b.ks.length : Int)) = false := by simp; omega
  have t4 : ((a.l.length : Int) == (b.l.length : Int)) = false := by simp; omega
  have r4 : ((a.l.length : Int) != (b.l.length : Int)) = true := by simp; omega
  clear h0 h1 h2 h3 hx ha hb hks hks'
  go_enter Tryz.func101, Tryz.ntmps101
  go_wp2_with fail
  go_ret
  exact ⟨rfl, (below_boxV _ _).alloc (below_boxV _ _).size _⟩

end Go.Proofs.YtpmafabphlejeaaGreat
/-
  The contract of the document's own Same for values, the whole.
  Conditions: none but sizes.
-/
namespace Go.Proofs.YtpmafabphlejeaaGreat
open Go.RowKit
set_option linter.unusedVariables false
set_option linter.unusedSimpArgs false

theorem cell_kept {w w' : World} {B d k : Nat} {v : Value} (h : w.cell? ⟨d, k, none⟩ = some v) (hb : Below B w w') (hB : w.heap.size ≤ B) (hd : d < w.heap.size) : w'.cell? ⟨d, k, none⟩ = some v :=
  (World.cell?_of_block (w := w) (hb.block d (Nat.lt_of_lt_of_le hd hB))).trans h

set_option maxRecDepth 100000 in
set_option maxHeartbeats 8000000 in
theorem qsame_main (N : Nat) : ∀ (a b : Tree) (va vb : List Value) (w : World), cntT a = N → ShowsT w a va → ShowsT w b vb →
    Calls Tryz.prog 101 #[.agg va.toArray, .agg vb.toArray] w fun e w' => e = .returned (.bool (sameT a b)) ∧ Below w.heap.size w w' := by
  induction N using Nat.strongRecOn with
  | ind N ih =>
    intro a b va vb w hN ha hb
    by_cases h0 : a.k = b.k
    case neg => rw [same_no1 (fun h => h0 h.1)]; exact qsame_no0 a b va vb w ha hb h0
    by_cases h1 : a.n = b.n
    case neg => rw [same_no1 (fun h => h1 h.2.1)]; exact qsame_no1 a b va vb w ha hb h0 h1
    by_cases h2 : a.s = b.s
    case neg => rw [same_no1 (fun h => h2 h.2.2.1)]; exact qsame_no2 a b va vb w ha hb h0 h1 h2
    by_cases h3 : a.ks.length = b.ks.length
    case neg => rw [same_no1 (fun h => h3 (by rw [h.2.2.2]))]; exact qsame_no3 a b va vb w ha hb h0 h1 h2 h3
    by_cases h4 : a.l.length = b.l.length
    case neg => rw [same_no2 (fun h => h4 h.1)]; exact qsame_no4 a b va vb w ha hb h0 h1 h2 h3 h4
    have IH := Lib.hid (fun j (hj : j < a.l.length) b' va vb w' (ha' : ShowsT w' (a.l[j]'hj) va) (hb' : ShowsT w' b' vb) => ih (cntT (a.l[j]'hj)) (by rw [← hN]; exact cnt_child a j hj) (a.l[j]'hj) b' va vb w' rfl ha' hb')
    have NO1 := Lib.hid (fun h : ¬ a.ks = b.ks => same_no1 (a := a) (b := b) (fun hh => h hh.2.2.2))
    have NO2 := Lib.hid (fun j (hj : j < a.l.length) (hj' : j < b.l.length) (h : sameT (a.l[j]'hj) (b.l[j]'hj') = false) => same_no2 (a := a) (b := b) (fun hh => by rw [hh.2 j hj hj'] at h; cases h))
    have YES := Lib.hid (fun hk h6 => v_same_yes (a := a) (b := b) h0 h1 h2 hk h4 h6)
    clear ih hN
    have hsa := ha
    have hsb := hb
    obtain ⟨kv, A, c, d0, d1, cs, rfl, _, _, hks, hkl, _, _, hln, _⟩ := ha.open
    obtain ⟨kv', A', c', d0', d1', cs', rfl, _, _, hks', hkl', _, _, hln', _⟩ := hb.open
    obtain ⟨Ak, ck, rfl⟩ := str_form hks
    obtain ⟨Ak', ck', rfl⟩ := str_form hks'
    have r0 : ((a.k : Int) != (b.k : Int)) = false := by simp; omega
    have r1 : ((a.n : Int) != (b.n : Int)) = false := by simp; omega
    have r2 : (a.s.toList != b.s.toList) = false := by rw [h2]; simp
    have r3 : ((a.ks.length : Int) != (b.ks.length : Int)) = false := by simp; omega
    have r4 : ((a.l.length : Int) != (b.l.length : Int)) = false := by simp; omega
    have t0 : ((a.k : Int) == (b.k : Int)) = true := by simp; omega
    have t1 : ((a.n : Int) == (b.n : Int)) = true := by simp; omega
    have t2 : (a.s.toList == b.s.toList) = true := by rw [h2]; simp
    have t3 : ((a.ks.length : Int) == (b.ks.length : Int)) = true := by simp; omega
    have t4 : ((a.l.length : Int) == (b.l.length : Int)) = true := by simp; omega
    have H3 := Lib.hid h3
    have H4 := Lib.hid h4
    clear h0 h1 h2 h3 h4 ha hb
    go_enter Tryz.func101, Tryz.ntmps101
    go_wp2_with fail
    clear r0 r1 r2 r3 r4 t0 t1 t2 t3 t4
    go_loopw [5] (fun i wr => ∃ j : Nat, j ≤ a.ks.length ∧ i = .int .i64 j ∧ Pair5 w (.int .u8 a.k) (.int .u64 a.n) (.string a.s) (.slice Ak a.ks.length ck) (.slice A a.l.length c) (.int .u8 b.k) (.int .u64 b.n) (.string b.s) (.slice Ak' b.ks.length ck') (.slice A' b.l.length c') wr ∧ a.ks.take j = b.ks.take j) (fun i _ => a.ks.length - (intOf i).toNat)
    case atStart => exact ⟨0, by omega, rfl, Pair5.start w, rfl⟩
    case round =>
      obtain ⟨j, hj, rfl, hP, hsame⟩ := hrel
      rename World => wj
      have x3 := hP.a.c3
      have y3 := hP.b.c3
      by_cases hlt : j < a.ks.length
      · have hlt' : j < b.ks.length := by have := H3.out; omega
        obtain ⟨o, c2, e, e0⟩ := str_cell (hks.below' hP.bel (Nat.le_refl _)) j hlt
        cases e
        obtain ⟨o', c2', e, e1⟩ := str_cell (hks'.below' hP.bel (Nat.le_refl _)) j hlt'
        cases e
        have hjl : (j : Int) < (a.ks.length : Int) := by omega
        have hjl' : (j : Int) < (b.ks.length : Int) := by omega
        by_cases heq : a.ks[j] = b.ks[j]
        · have HS : Hid (a.ks.take (j + 1) = b.ks.take (j + 1)) := by
            show a.ks.take (j + 1) = b.ks.take (j + 1)
            rw [List.take_succ_eq_append_getElem hlt, List.take_succ_eq_append_getElem hlt', hsame, heq]
          have hd : (a.ks[j].toList == b.ks[j].toList) = true := by rw [heq]; simp
          generalize a.ks[j] = p at *
          generalize b.ks[j] = p' at *
          have HP' := Lib.hid (fun q => hP.drewN q)
          clear hsame heq
          go_wp2_with fail
          go_quiet (fail)
          go_wp2_with fail
          go_roundw
          case rel => exact ⟨j + 1, by omega, by go_num, HP'.out nq, HS.out⟩
          case measure => simp [intOf]; omega
        · have hfin := NO1.out (fun e => heq (by
            have := congrArg (fun z => z[j]?) e
            simpa [List.getElem?_eq_getElem hlt, List.getElem?_eq_getElem hlt'] using this))
          have hd := toListNe heq
          generalize a.ks[j] = p at *
          generalize b.ks[j] = p' at *
          have HF := Lib.hid hfin
          have HP := Lib.hid (fun q => (hP.drewN q).bel)
          clear hsame heq hfin
          go_wp2_with fail
          go_quiet (fail)
          go_wp2_with fail
          go_ret
          exact ⟨by rw [HF.out]; rfl, HP.out nq⟩
      · have hjl : ¬ (j : Int) < (a.ks.length : Int) := by omega
        have hkeys : a.ks = b.ks := by
          rw [List.take_of_length_le (by omega), List.take_of_length_le (by have := H3.out; omega)] at hsame
          exact hsame
        have HK := Lib.hid hkeys
        clear hsame hkeys
        go_wp2_with fail
        go_loopw [6] (fun i wr => ∃ q : Nat, q ≤ a.l.length ∧ i = .int .i64 q ∧ Pair5 w (.int .u8 a.k) (.int .u64 a.n) (.string a.s) (.slice Ak a.ks.length ck) (.slice A a.l.length c) (.int .u8 b.k) (.int .u64 b.n) (.string b.s) (.slice Ak' b.ks.length ck') (.slice A' b.l.length c') wr ∧ ∀ p (h : p < a.l.length) (h' : p < b.l.length), p < q → sameT a.l[p] b.l[p] = true) (fun i _ => a.l.length - (intOf i).toNat)
        case atStart => exact ⟨0, by omega, rfl, hP, fun p _ _ h => absurd h (by omega)⟩
        case round =>
          clear hP x3 y3
          obtain ⟨q, hq, rfl, hP, hlo⟩ := hrel
          rename World => wq
          have x4 := hP.a.c4
          have y4 := hP.b.c4
          by_cases hlt : q < a.l.length
          · have hlt' : q < b.l.length := by have := H4.out; omega
            obtain ⟨d, o, v0, v1, v2, v3, v4, rfl, hd, hch, e0, e1, e2, e3, e4⟩ := hsa.child q hlt
            obtain ⟨d', o', u0, u1, u2, u3, u4, rfl, hd', hch', f0, f1, f2, f3, f4⟩ := hsb.child q hlt'
            have hjl : (q : Int) < (a.l.length : Int) := by omega
            have hjl' : (q : Int) < (b.l.length : Int) := by omega
            have CEL := Lib.hid (fun w' (h : Pair5 w (.int .u8 a.k) (.int .u64 a.n) (.string a.s) (.slice Ak a.ks.length ck) (.slice (some ⟨d, o, none⟩) a.l.length c) (.int .u8 b.k) (.int .u64 b.n) (.string b.s) (.slice Ak' b.ks.length ck') (.slice (some ⟨d', o', none⟩) b.l.length c') w') =>
              And.intro (And.intro h.a.c4 h.b.c4) (And.intro (And.intro (cell_kept e0 h.bel (Nat.le_refl _) hd) (And.intro (cell_kept e1 h.bel (Nat.le_refl _) hd) (And.intro (cell_kept e2 h.bel (Nat.le_refl _) hd) (And.intro (cell_kept e3 h.bel (Nat.le_refl _) hd) (cell_kept e4 h.bel (Nat.le_refl _) hd)))))
                (And.intro (cell_kept f0 h.bel (Nat.le_refl _) hd') (And.intro (cell_kept f1 h.bel (Nat.le_refl _) hd') (And.intro (cell_kept f2 h.bel (Nat.le_refl _) hd') (And.intro (cell_kept f3 h.bel (Nat.le_refl _) hd') (cell_kept f4 h.bel (Nat.le_refl _) hd')))))))
            have hc := fun w' (h : Pair5 w (.int .u8 a.k) (.int .u64 a.n) (.string a.s) (.slice Ak a.ks.length ck) (.slice (some ⟨d, o, none⟩) a.l.length c) (.int .u8 b.k) (.int .u64 b.n) (.string b.s) (.slice Ak' b.ks.length ck') (.slice (some ⟨d', o', none⟩) b.l.length c') w') =>
              (IH.out q hlt (b.l[q]'hlt') _ _ w' (hch.kept h.bel (Nat.le_refl _)) (hch'.kept h.bel (Nat.le_refl _))).mono fun e w'' ⟨he, hb⟩ => And.intro he (h.step hb)
            have hPd := hP.drew
            clear e0 e1 e2 e3 e4 f0 f1 f2 f3 f4
            cases hst : sameT (a.l[q]'hlt) (b.l[q]'hlt') with
            | false =>
              rw [hst] at hc
              have HC := Lib.hid hc
              have HF := Lib.hid (NO2.out q hlt hlt' hst)
              clear hc hlo hst
              go_wp2_with fail
              go_region_held3 (fun w' => (w'.cell? ⟨w.heap.size, 4, none⟩ = some (.slice (some ⟨d, o, none⟩) a.l.length c) ∧ w'.cell? ⟨w.heap.size + 1, 4, none⟩ = some (.slice (some ⟨d', o', none⟩) b.l.length c')) ∧
                  (w'.cell? ⟨d, o + q * 5, none⟩ = some v0 ∧ w'.cell? ⟨d, o + q * 5 + 1, none⟩ = some v1 ∧ w'.cell? ⟨d, o + q * 5 + 2, none⟩ = some v2 ∧ w'.cell? ⟨d, o + q * 5 + 3, none⟩ = some v3 ∧ w'.cell? ⟨d, o + q * 5 + 4, none⟩ = some v4) ∧
                  w'.cell? ⟨d', o' + q * 5, none⟩ = some u0 ∧ w'.cell? ⟨d', o' + q * 5 + 1, none⟩ = some u1 ∧ w'.cell? ⟨d', o' + q * 5 + 2, none⟩ = some u2 ∧ w'.cell? ⟨d', o' + q * 5 + 3, none⟩ = some u3 ∧ w'.cell? ⟨d', o' + q * 5 + 4, none⟩ = some u4) (exact CEL.out _ (by assumption))
                (first
                  | (go_at_call 101; refine (HC.out _ (by assumption)).mono ?_; rintro e wx ⟨rfl, hx⟩))
              rename_i K hK hh
              refine hK _ _ ?_
              clear hK hh
              go_wp2_with fail
              go_ret
              exact ⟨by rw [HF.out]; rfl, hx.bel⟩
            | true =>
              rw [hst] at hc
              have HC := Lib.hid hc
              have HLO : Hid (∀ p (h : p < a.l.length) (h' : p < b.l.length), p < q + 1 → sameT a.l[p] b.l[p] = true) := by
                show ∀ p (h : p < a.l.length) (h' : p < b.l.length), p < q + 1 → sameT a.l[p] b.l[p] = true
                intro p hp hp' hpq
                by_cases hp2 : p < q
                · exact hlo p hp hp' hp2
                · obtain rfl : p = q := by omega
                  exact hst
              clear hc hlo hst
              go_wp2_with fail
              go_region_held3 (fun w' => (w'.cell? ⟨w.heap.size, 4, none⟩ = some (.slice (some ⟨d, o, none⟩) a.l.length c) ∧ w'.cell? ⟨w.heap.size + 1, 4, none⟩ = some (.slice (some ⟨d', o', none⟩) b.l.length c')) ∧
                  (w'.cell? ⟨d, o + q * 5, none⟩ = some v0 ∧ w'.cell? ⟨d, o + q * 5 + 1, none⟩ = some v1 ∧ w'.cell? ⟨d, o + q * 5 + 2, none⟩ = some v2 ∧ w'.cell? ⟨d, o + q * 5 + 3, none⟩ = some v3 ∧ w'.cell? ⟨d, o + q * 5 + 4, none⟩ = some v4) ∧
                  w'.cell? ⟨d', o' + q * 5, none⟩ = some u0 ∧ w'.cell? ⟨d', o' + q * 5 + 1, none⟩ = some u1 ∧ w'.cell? ⟨d', o' + q * 5 + 2, none⟩ = some u2 ∧ w'.cell? ⟨d', o' + q * 5 + 3, none⟩ = some u3 ∧ w'.cell? ⟨d', o' + q * 5 + 4, none⟩ = some u4) (exact CEL.out _ (by assumption))
                (first
                  | (go_at_call 101; refine (HC.out _ (by assumption)).mono ?_; rintro e wx ⟨rfl, hx⟩))
              rename_i K hK hh
              refine hK _ _ ?_
              clear hK hh
              go_wp2_with fail
              go_roundw
              case rel => exact ⟨q + 1, by omega, by go_num, hx, HLO.out⟩
              case measure => simp [intOf]; omega
          · have hjl : ¬ (q : Int) < (a.l.length : Int) := by omega
            have HF := Lib.hid (YES.out HK.out (fun p h h' => hlo p h h' (by omega)))
            clear hlo
            go_wp2_with fail
            go_ret
            exact ⟨by rw [HF.out]; rfl, hP.bel⟩

end Go.Proofs.YtpmafabphlejeaaGreat
/-
  The contract of the document's own small for values: how many bytes are left of so many.
  Conditions: none but sizes.
-/
namespace Go.Proofs.YtpmafabphlejeaaGreat
open Go.RowKit
set_option linter.unusedVariables false
set_option linter.unusedSimpArgs false

/-- The lengths of strings together. -/
def lenL : List ByteArray → Nat
  | [] => 0
  | s :: r => s.size + lenL r
theorem lenL_append : ∀ a b : List ByteArray, lenL (a ++ b) = lenL a + lenL b
  | [], b => by simp [lenL]
  | t :: a, b => by rw [List.cons_append, lenL, lenL, lenL_append a b]; omega
theorem lenL_take (l : List ByteArray) (j : Nat) (h : j < l.length) : lenL (l.take (j + 1)) = lenL (l.take j) + l[j].size := by
  rw [List.take_succ_eq_append_getElem h, lenL_append]
  simp [lenL]
theorem lenL_take_le (l : List ByteArray) (j : Nat) : lenL (l.take j) ≤ lenL l := by
  have := lenL_append (l.take j) (l.drop j)
  rw [List.take_append_drop] at this
  omega
mutual
/-- How long a value's texts are together, with one for each key. -/
def wgtT : Tree → Nat
  | .node _ _ s ks l => s.size + ks.length + lenL ks + wgtL l
def wgtL : List Tree → Nat
  | [] => 0
  | t :: r => wgtT t + wgtL r
end
theorem wgtT_eq (t : Tree) : wgtT t = t.s.size + t.ks.length + lenL t.ks + wgtL t.l := by cases t; rfl
theorem wgtL_append : ∀ a b : List Tree, wgtL (a ++ b) = wgtL a + wgtL b
  | [], b => by simp [wgtL]
  | t :: a, b => by rw [List.cons_append, wgtL, wgtL, wgtL_append a b]; omega
theorem wgtL_take (l : List Tree) (j : Nat) (h : j < l.length) : wgtL (l.take (j + 1)) = wgtL (l.take j) + wgtT l[j] := by
  rw [List.take_succ_eq_append_getElem h, wgtL_append]
  simp [wgtL]
theorem wgtL_take_le (l : List Tree) (j : Nat) : wgtL (l.take j) ≤ wgtL l := by
  have := wgtL_append (l.take j) (l.drop j)
  rw [List.take_append_drop] at this
  omega
theorem remD_shift (m : Int) (c d : Nat) : remD (m - c) d = remD m (c + d) := by
  unfold remD
  by_cases h1 : ((c + d : Nat) : Int) ≤ m
  · rw [if_pos (by omega), if_pos h1]; omega
  · rw [if_neg (by omega), if_neg h1]

set_option maxRecDepth 100000 in
set_option maxHeartbeats 8000000 in
theorem qsmall_main (N : Nat) : ∀ (t : Tree) (vs : List Value) (n : Nat) (w : World), cntT t = N → ShowsT w t vs → n ≤ 20000 →
    Calls Tryz.prog 83 #[.agg vs.toArray, .int .i64 n] w fun e w' => e = .returned (.int .i64 (remD n (wgtT t))) ∧ Below w.heap.size w w' := by
  induction N using Nat.strongRecOn with
  | ind N ih =>
    intro t vs n w hN h hn
    have IH := Lib.hid (fun j (hj : j < t.l.length) vs (m : Int) (hm0 : 0 ≤ m) (hmn : m ≤ n) w' (h' : ShowsT w' (t.l[j]'hj) vs) => show Calls Tryz.prog 83 #[.agg vs.toArray, .int .i64 m] w' fun e w'' => e = .returned (.int .i64 (remD m (wgtT (t.l[j]'hj)))) ∧ Below w'.heap.size w' w'' from by
      obtain ⟨m', rfl⟩ := Int.eq_ofNat_of_zero_le hm0
      exact ih (cntT (t.l[j]'hj)) (by rw [← hN]; exact cnt_child t j hj) (t.l[j]'hj) vs m' w' rfl h' (by omega))
    clear ih hN
    have hsh := h
    obtain ⟨kv, A, c, d0, d1, cs, rfl, _, _, hks, hkl, _, hsz, hln, _⟩ := h.open
    obtain ⟨Ak, ck, rfl⟩ := str_form hks
    rw [wgtT_eq]
    obtain ⟨R, hR⟩ : ∃ R, R = remD n (t.s.size + t.ks.length + lenL t.ks + wgtL t.l) := ⟨_, rfl⟩
    rw [← hR]
    have HR := Lib.hid hR
    clear h hR
    by_cases h1 : n < t.s.size
    · have hfin : remD n (t.s.size + t.ks.length + lenL t.ks + wgtL t.l) = -1 := by unfold remD; rw [if_neg (by omega)]
      obtain rfl : R = -1 := HR.out.trans hfin
      have h1' : (n : Int) < (t.s.size : Int) := by omega
      clear hfin h1
      go_enter Tryz.func83, Tryz.ntmps83
      go_wp2_with fail
      go_ret
      exact ⟨rfl, below_boxV _ _⟩
    by_cases h2 : n < t.ks.length
    · have hfin : remD n (t.s.size + t.ks.length + lenL t.ks + wgtL t.l) = -1 := by unfold remD; rw [if_neg (by omega)]
      obtain rfl : R = -1 := HR.out.trans hfin
      have h1' : ¬ (n : Int) < (t.s.size : Int) := by omega
      have h2' : (n : Int) < (t.ks.length : Int) := by omega
      clear hfin h1 h2
      go_enter Tryz.func83, Tryz.ntmps83
      go_wp2_with fail
      go_ret
      exact ⟨rfl, below_boxV _ _⟩
    have h1' : ¬ (n : Int) < (t.s.size : Int) := by omega
    have h2' : ¬ (n : Int) < (t.ks.length : Int) := by omega
    have hsn : t.s.size ≤ 20000 := by omega
    have hkn : t.ks.length ≤ 20000 := by omega
    go_enter Tryz.func83, Tryz.ntmps83
    go_wp2_with fail
    go_loopw [1, 5] (fun x i wr => ∃ j : Nat, j ≤ t.ks.length ∧ i = .int .i64 j ∧ x = .int .i64 ((n : Int) - t.s.size - t.ks.length - lenL (t.ks.take j)) ∧ (j = 0 ∨ t.s.size + t.ks.length + lenL (t.ks.take j) ≤ n) ∧ BoxV wr w.heap.size (.int .u8 t.k) (.int .u64 t.n) (.string t.s) (.slice Ak t.ks.length ck) (.slice A t.l.length c) ∧ Below w.heap.size w wr) (fun _ i _ => t.ks.length - (intOf i).toNat)
    case atStart => exact ⟨0, by omega, rfl, by simp [lenL], .inl rfl, BoxV.new w, below_boxV _ _⟩
    case round =>
      obtain ⟨j, hj, rfl, rfl, hle, hX, hb⟩ := hrel
      rename World => wj
      have x3 := hX.c3
      by_cases hlt : j < t.ks.length
      · obtain ⟨o, c2, e, e0⟩ := str_cell (hks.below' hb (Nat.le_refl _)) j hlt
        cases e
        have hjl : (j : Int) < (t.ks.length : Int) := by omega
        have hst := lenL_take t.ks j hlt
        have hmono := lenL_take_le t.ks (j + 1)
        have hlo := lenL_take_le t.ks j
        by_cases hover : n < t.s.size + t.ks.length + lenL (t.ks.take (j + 1))
        · have hfin : remD n (t.s.size + t.ks.length + lenL t.ks + wgtL t.l) = -1 := by unfold remD; rw [if_neg (by omega)]
          obtain rfl : R = -1 := HR.out.trans hfin
          have ht : (n : Int) - t.s.size - t.ks.length - lenL (t.ks.take j) < ((t.ks[j].size : Nat) : Int) := by omega
          generalize (n : Int) - t.s.size - t.ks.length - lenL (t.ks.take j) = x at *
          generalize t.ks[j] = p at *
          clear hst hmono hlo hover hfin hle
          go_wp2_with fail
          go_ret
          exact ⟨rfl, hb⟩
        · have ht : ¬ (n : Int) - t.s.size - t.ks.length - lenL (t.ks.take j) < ((t.ks[j].size : Nat) : Int) := by omega
          have hnx : (n : Int) - t.s.size - t.ks.length - lenL (t.ks.take j) - ((t.ks[j].size : Nat) : Int) = (n : Int) - t.s.size - t.ks.length - lenL (t.ks.take (j + 1)) := by omega
          have hx1 : (n : Int) - t.s.size - t.ks.length - lenL (t.ks.take j) ≤ 20000 := by omega
          have hx2 : 0 ≤ (n : Int) - t.s.size - t.ks.length - lenL (t.ks.take j) := by omega
          have hp1 : t.ks[j].size ≤ 20000 := by omega
          have HNX := Lib.hid hnx
          have HOV := Lib.hid hover
          generalize (n : Int) - t.s.size - t.ks.length - lenL (t.ks.take j) = x at *
          generalize t.ks[j] = p at *
          clear hst hmono hlo hover hle hnx
          go_wp2_with fail
          go_roundw
          case rel => exact ⟨j + 1, by omega, by go_num, by first | rw [HNX.out] | (congr 1; exact HNX.out), .inr (by have := HOV.out; omega), hX, hb⟩
          case measure => simp [intOf]; omega
      · have hjl : ¬ (j : Int) < (t.ks.length : Int) := by omega
        rw [show t.ks.take j = t.ks from List.take_of_length_le (by omega)] at hle ⊢
        have hM0 : (0 : Int) ≤ (n : Int) - t.s.size - t.ks.length - lenL t.ks := by
          rcases hle with rfl | hle
          · have : t.ks = [] := List.eq_nil_of_length_eq_zero (by omega)
            rw [this]
            simp [lenL]
            omega
          · omega
        have hMn : (n : Int) - t.s.size - t.ks.length - lenL t.ks ≤ n := by omega
        have hgoal : remD n (t.s.size + t.ks.length + lenL t.ks + wgtL t.l) = remD ((n : Int) - t.s.size - t.ks.length - lenL t.ks) (wgtL t.l) := by
          rw [remD_shift, remD_shift, remD_shift]
          congr 1
          omega
        have HR2 := Lib.hid (HR.out.trans hgoal)
        generalize (n : Int) - t.s.size - t.ks.length - lenL t.ks = M at *
        clear hle hgoal h1 h2 h1' h2' hsn hkn HR
        go_wp2_with fail
        go_loopw [1, 6] (fun x i wr => ∃ q : Nat, q ≤ t.l.length ∧ i = .int .i64 q ∧ x = .int .i64 (remD M (wgtL (t.l.take q))) ∧ BoxV wr w.heap.size (.int .u8 t.k) (.int .u64 t.n) (.string t.s) (.slice Ak t.ks.length ck) (.slice A t.l.length c) ∧ Below w.heap.size w wr) (fun _ i _ => t.l.length - (intOf i).toNat)
        case atStart => exact ⟨0, by omega, rfl, by simp [wgtL, remD]; omega, hX, hb⟩
        case round =>
          clear hX hb
          obtain ⟨q, hq, rfl, rfl, hX, hb⟩ := hrel
          rename World => wq
          have x4 := hX.c4
          by_cases hlt : q < t.l.length
          · have hjl : (q : Int) < (t.l.length : Int) := by omega
            rcases remD_cases M (wgtL (t.l.take q)) with ⟨hr, hc1⟩ | ⟨hr0, hr1, hc1⟩
            · have hfin : (-1 : Int) = remD M (wgtL t.l) := (remD_less _ _ _ hc1 (wgtL_take_le _ _)).symm
              rw [hr]
              have HF := Lib.hid hfin
              clear hfin hr hc1
              go_wp2_with fail
              go_ret
              exact ⟨by rw [HR2.out, ← HF.out]; rfl, hb⟩
            · obtain ⟨d, o, v0, v1, v2, v3, v4, rfl, hd, hch, e0, e1, e2, e3, e4⟩ := (hsh.kept hb (Nat.le_refl _)).child q hlt
              have hstep : remD (M - (wgtL (t.l.take q) : Nat)) (wgtT (t.l[q]'hlt)) = remD M (wgtL (t.l.take (q + 1))) := by
                rw [wgtL_take _ _ hlt, remD_shift]
              have hc := fun vs w h => IH.out q hlt vs (remD M (wgtL (t.l.take q))) hr0 (by omega) w h
              rw [hr1] at hc ⊢
              rw [hstep] at hc
              have hr2 : (0 : Int) ≤ M - (wgtL (t.l.take q) : Nat) := by omega
              generalize M - (wgtL (t.l.take q) : Nat) = x at *
              have HC := Lib.hid hc
              clear hc hstep hc1 hr0 hr1
              go_wp2_with fail
              refine (HC.out _ _ hch).mono ?_
              rintro e wx ⟨rfl, hx⟩
              go_wp2_with fail
              go_roundw
              case rel => exact ⟨q + 1, by omega, by go_num, rfl, hX.kept hx (Nat.le_refl _), hb.trans (hx.mono hb.size)⟩
              case measure => simp [intOf]; omega
          · have hjl : ¬ (q : Int) < (t.l.length : Int) := by omega
            rw [show t.l.take q = t.l from List.take_of_length_le (by omega)]
            obtain ⟨x, hx⟩ : ∃ x, x = remD M (wgtL t.l) := ⟨_, rfl⟩
            rw [← hx]
            have HX := Lib.hid hx
            clear hx
            go_wp2_with fail
            go_ret
            exact ⟨by rw [HR2.out, ← HX.out]; rfl, hb⟩

end Go.Proofs.YtpmafabphlejeaaGreat
