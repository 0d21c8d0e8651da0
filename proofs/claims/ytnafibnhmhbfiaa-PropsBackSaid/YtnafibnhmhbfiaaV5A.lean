/-
  Values as trees, and how they lie in memory; the contracts of the document's own tooDeep and left for values.
  Conditions: none but sizes.
-/
import Derived.Test.YtnafibnhmhbfiaaP
import Derived.Test.YtnafibnhmhbfiaaGen
import Derived.WalkKit
namespace Go.Proofs.Ytnafibnhmhbfiaa
open Go.RowKit
set_option linter.unusedVariables false
set_option linter.unusedSimpArgs false

/-- A value. -/
inductive Tree where
  | node (k n : Nat) (s : ByteArray) (ks : List ByteArray) (l : List Tree)
def Tree.k : Tree → Nat | .node k _ _ _ _ => k
def Tree.n : Tree → Nat | .node _ n _ _ _ => n
def Tree.s : Tree → ByteArray | .node _ _ s _ _ => s
def Tree.ks : Tree → List ByteArray | .node _ _ _ ks _ => ks
def Tree.l : Tree → List Tree | .node _ _ _ _ l => l

/-- How a string lies: one cell. -/
def strC : Code ByteArray := { enc := fun x => [.string x], sz := 1, len := fun _ => rfl, one := fun x u hu => by simp at hu; subst hu; rfl, pos := by omega }

/-- These five cells show that value in w. -/
inductive ShowsT (w : World) : Tree → List Value → Prop
  | mk {k n : Nat} {s : ByteArray} {ks : List ByteArray} {l : List Tree} {kv : Value} {A : Option Addr} {c d0 d1 : Nat} (cs : Nat → List Value) (hk : k < 256) (hn : n < 18446744073709551616) (hks : ShowsG strC w d0 kv ks) (hkl : ks.length ≤ 8796093022208) (hkz : ∀ x ∈ ks, x.size ≤ 140737488351232) (hsz : s.size ≤ 140737488351232) (hln : l.length ≤ 2199023255552) (hlc : l.length ≤ c) (hcm : c ≤ maxLen)
      (hrow : 0 < l.length → ∃ o, A = some ⟨d1, o, none⟩ ∧ d1 < w.heap.size ∧ ∀ j, j < l.length → ∀ q, q < 5 → w.cell? ⟨d1, o + (j * 5 + q), none⟩ = (cs j)[q]?)
      (hch : ∀ j (h : j < l.length), ShowsT w l[j] (cs j)) : ShowsT w (.node k n s ks l) [.int .u8 k, .int .u64 n, .string s, kv, .slice A l.length c]

/-- Five cells, written out. -/
theorem ShowsT.open {w : World} {t : Tree} {vs : List Value} (h : ShowsT w t vs) : ∃ (kv : Value) (A : Option Addr) (c d0 d1 : Nat) (cs : Nat → List Value),
    vs = [.int .u8 t.k, .int .u64 t.n, .string t.s, kv, .slice A t.l.length c] ∧ t.k < 256 ∧ t.n < 18446744073709551616 ∧ ShowsG strC w d0 kv t.ks ∧ t.ks.length ≤ 8796093022208 ∧ (∀ x ∈ t.ks, x.size ≤ 140737488351232) ∧ t.s.size ≤ 140737488351232 ∧ t.l.length ≤ 2199023255552 ∧ t.l.length ≤ c ∧ c ≤ maxLen ∧
      (0 < t.l.length → ∃ o, A = some ⟨d1, o, none⟩ ∧ d1 < w.heap.size ∧ ∀ j, j < t.l.length → ∀ q, q < 5 → w.cell? ⟨d1, o + (j * 5 + q), none⟩ = (cs j)[q]?) ∧
      ∀ j (h : j < t.l.length), ShowsT w t.l[j] (cs j) := by
  cases h with
  | mk cs hk hn hks hkl hkz hsz hln hlc hcm hrow hch => exact ⟨_, _, _, _, _, cs, rfl, hk, hn, hks, hkl, hkz, hsz, hln, hlc, hcm, hrow, hch⟩
theorem ShowsT.len {w : World} {t : Tree} {vs : List Value} (h : ShowsT w t vs) : vs.length = 5 := by
  obtain ⟨_, _, _, _, _, _, rfl, _⟩ := h.open
  rfl
theorem ShowsT.kept {w w' : World} {B : Nat} {t : Tree} {vs : List Value} (h : ShowsT w t vs) (hb : Below B w w') (hB : w.heap.size ≤ B) : ShowsT w' t vs := by
  induction h with
  | @mk k n s ks l kv A c d0 d1 cs hk hn hks hkl hkz hsz hln hlc hcm hrow hch ih =>
    refine .mk (d0 := d0) (d1 := d1) cs hk hn (hks.below' hb hB) hkl hkz hsz hln hlc hcm (fun hp => ?_) ih
    obtain ⟨o, e1, e2, e3⟩ := hrow hp
    exact ⟨o, e1, Nat.lt_of_lt_of_le e2 hb.size, fun j hj q hq => (World.cell?_of_block (w := w) (hb.block d1 (Nat.lt_of_lt_of_le e2 hB))).trans (e3 j hj q hq)⟩

theorem below_boxV (w : World) (o : Obj) : Below w.heap.size w (w.alloc o) := (Below.refl _ _).alloc (Nat.le_refl _) o
/-- Five cells in a block of the call's own. -/
def BoxV (w : World) (b : Nat) (v0 v1 v2 v3 v4 : Value) : Prop := w.heap[b]? = some (.cells #[v0, v1, v2, v3, v4] 27 (0, 0))
section
variable {w w' : World} {b B : Nat} {v0 v1 v2 v3 v4 : Value}
theorem BoxV.new (w : World) : BoxV (w.alloc (Obj.cells #[v0, v1, v2, v3, v4] 27)) w.heap.size v0 v1 v2 v3 v4 := heap_alloc_new w _
theorem BoxV.lt (h : BoxV w b v0 v1 v2 v3 v4) : b < w.heap.size := (Array.getElem?_eq_some_iff.1 h).1
theorem BoxV.kept (h : BoxV w b v0 v1 v2 v3 v4) (hb : Below B w w') (hB : w.heap.size ≤ B) : BoxV w' b v0 v1 v2 v3 v4 := (hb.block b (Nat.lt_of_lt_of_le h.lt hB)).trans h
theorem BoxV.c0 (h : BoxV w b v0 v1 v2 v3 v4) : w.cell? ⟨b, 0, none⟩ = some v0 := by rw [cell_of_row w b _ _ 27 (0, 0) h]; rfl
theorem BoxV.c1 (h : BoxV w b v0 v1 v2 v3 v4) : w.cell? ⟨b, 1, none⟩ = some v1 := by rw [cell_of_row w b _ _ 27 (0, 0) h]; rfl
theorem BoxV.c2 (h : BoxV w b v0 v1 v2 v3 v4) : w.cell? ⟨b, 2, none⟩ = some v2 := by rw [cell_of_row w b _ _ 27 (0, 0) h]; rfl
theorem BoxV.c3 (h : BoxV w b v0 v1 v2 v3 v4) : w.cell? ⟨b, 3, none⟩ = some v3 := by rw [cell_of_row w b _ _ 27 (0, 0) h]; rfl
theorem BoxV.c4 (h : BoxV w b v0 v1 v2 v3 v4) : w.cell? ⟨b, 4, none⟩ = some v4 := by rw [cell_of_row w b _ _ 27 (0, 0) h]; rfl
end

/-- A child's cells, where the walk reckons them. -/
theorem ShowsT.child {w : World} {t : Tree} {kv : Value} {A : Option Addr} {c : Nat} {a b s : Value} (h : ShowsT w t [a, b, s, kv, .slice A t.l.length c]) (j : Nat) (hj : j < t.l.length) :
    ∃ (d o : Nat) (v0 v1 v2 v3 v4 : Value), A = some ⟨d, o, none⟩ ∧ d < w.heap.size ∧ ShowsT w t.l[j] [v0, v1, v2, v3, v4] ∧ w.cell? ⟨d, o + j * 5, none⟩ = some v0 ∧ w.cell? ⟨d, o + j * 5 + 1, none⟩ = some v1 ∧
      w.cell? ⟨d, o + j * 5 + 2, none⟩ = some v2 ∧ w.cell? ⟨d, o + j * 5 + 3, none⟩ = some v3 ∧ w.cell? ⟨d, o + j * 5 + 4, none⟩ = some v4 := by
  obtain ⟨kv', A', c', d0, d1, cs, e, _, _, _, _, _, _, _, _, _, hrow, hch⟩ := h.open
  simp only [List.cons.injEq, Value.slice.injEq, and_true] at e
  obtain ⟨_, _, _, _, e1, _, e2⟩ := e
  subst e1
  obtain ⟨o, rfl, hd, hc⟩ := hrow (by omega)
  have hs := hch j hj
  have hl := hs.len
  obtain ⟨v0, v1, v2, v3, v4, hv⟩ : ∃ v0 v1 v2 v3 v4, cs j = [v0, v1, v2, v3, v4] := by
    match cs j, hl with
    | [a, b, c, d, e], _ => exact ⟨a, b, c, d, e, rfl⟩
  rw [hv] at hs
  have hq := fun q hq => hc j hj q hq
  rw [hv] at hq
  exact ⟨d1, o, v0, v1, v2, v3, v4, rfl, hd, hs, hq 0 (by omega), hq 1 (by omega), hq 2 (by omega), hq 3 (by omega), hq 4 (by omega)⟩

/-- Does a value in it lie in so many others, or more? -/
def deepD : Nat → Tree → Bool
  | 0, _ => true
  | m + 1, t => t.l.any (deepD m)

set_option maxRecDepth 100000 in
set_option maxHeartbeats 1000000 in
theorem qdeep_any : ∀ (m : Nat) (t : Tree) (vs : List Value) (w : World), ShowsT w t vs → m ≤ 1000 →
    Calls Try.prog 55 #[.agg vs.toArray, .int .i64 m] w fun e w' => e = .returned (.bool (deepD m t)) ∧ Below w.heap.size w w'
  | 0, t, vs, w, h, hm => by
    obtain ⟨kv, A, c, d0, d1, cs, rfl, _⟩ := h.open
    go_enter Try.func55, Try.ntmps55
    go_wp2_with fail
    go_ret
    exact ⟨rfl, below_boxV _ _⟩
  | m + 1, t, vs, w, h, hm => by
    have IH := Lib.hid (fun t vs w h => qdeep_any m t vs w h (by omega))
    have hsh := h
    obtain ⟨kv, A, c, d0, d1, cs, rfl, _, _, _, _, _, _, hln, _⟩ := h.open
    obtain ⟨N, hN⟩ : ∃ N, N = m + 1 := ⟨_, rfl⟩
    have hm1 : ((N : Int) == 0) = false := by simp; omega
    have hNb : N ≤ 1000 := by omega
    have hN1 : 1 ≤ N := by omega
    have hs1 : (m : Int) = (N : Int) - 1 := by omega
    have hD : deepD (m + 1) t = t.l.any (deepD m) := rfl
    rw [hD, ← hN]
    have HS1 := Lib.hid hs1
    clear hD h hN hm hs1
    go_enter Try.func55, Try.ntmps55
    go_wp2_with fail
    go_loopw [5] (fun i wr => ∃ j : Nat, j ≤ t.l.length ∧ i = .int .i64 j ∧ BoxV wr w.heap.size (.int .u8 t.k) (.int .u64 t.n) (.string t.s) kv (.slice A t.l.length c) ∧ Below w.heap.size w wr ∧ ∀ q (h' : q < t.l.length), q < j → deepD m t.l[q] = false) (fun i _ => t.l.length - (intOf i).toNat)
    case atStart => exact ⟨0, by omega, rfl, BoxV.new w, below_boxV _ _, fun q _ h => absurd h (by omega)⟩
    case round =>
      obtain ⟨j, hj, rfl, hX, hb, hlo⟩ := hrel
      rename World => wj
      have x4 := hX.c4
      by_cases hlt : j < t.l.length
      · obtain ⟨d, o, v0, v1, v2, v3, v4, rfl, hd, hch, e0, e1, e2, e3, e4⟩ := (hsh.kept hb (Nat.le_refl _)).child j hlt
        have hjl : (j : Int) < (t.l.length : Int) := by omega
        have hc := fun vs w h => IH.out (t.l[j]'hlt) vs w h
        rw [HS1.out] at hc
        cases hdp : deepD m t.l[j] with
        | true =>
          have hfin : t.l.any (deepD m) = true := List.any_eq_true.2 ⟨_, List.getElem_mem hlt, hdp⟩
          rw [hdp] at hc
          have HC := Lib.hid hc
          have HF := Lib.hid hfin
          clear hc hlo hdp hfin
          go_wp2_with fail
          refine (HC.out _ _ hch).mono ?_
          rintro e wx ⟨rfl, hx⟩
          go_wp2_with fail
          go_ret
          exact ⟨by rw [HF.out]; rfl, hb.trans (hx.mono hb.size)⟩
        | false =>
          rw [hdp] at hc
          have HC := Lib.hid hc
          have HLO : Hid (∀ q (h' : q < t.l.length), q < j + 1 → deepD m t.l[q] = false) := by
            show ∀ q (h' : q < t.l.length), q < j + 1 → deepD m t.l[q] = false
            intro q hq hqj
            by_cases hqj2 : q < j
            · exact hlo q hq hqj2
            · obtain rfl : q = j := by omega
              exact hdp
          clear hc hlo hdp
          go_wp2_with fail
          refine (HC.out _ _ hch).mono ?_
          rintro e wx ⟨rfl, hx⟩
          go_wp2_with fail
          go_roundw
          case rel => exact ⟨j + 1, by omega, by go_num, hX.kept hx (Nat.le_refl _), hb.trans (hx.mono hb.size), HLO.out⟩
          case measure => simp [intOf]; omega
      · have hjl : ¬ (j : Int) < (t.l.length : Int) := by omega
        have hfin : t.l.any (deepD m) = false := by
          rw [List.any_eq_false]
          intro x hx
          obtain ⟨q, hq, rfl⟩ := List.getElem_of_mem hx
          rw [hlo q hq (by omega)]
          simp
        have HF := Lib.hid hfin
        clear hlo hfin
        go_wp2_with fail
        go_ret
        exact ⟨by rw [HF.out]; rfl, hb⟩

end Go.Proofs.Ytnafibnhmhbfiaa
