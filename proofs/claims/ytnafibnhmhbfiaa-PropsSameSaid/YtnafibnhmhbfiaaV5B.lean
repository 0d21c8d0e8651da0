/-
  The contract of the document's own left for values: how many values are left of so many.
  Conditions: none but sizes.
-/
import Derived.Test.YtnafibnhmhbfiaaV5A
namespace Go.Proofs.Ytnafibnhmhbfiaa
open Go.RowKit
set_option linter.unusedVariables false
set_option linter.unusedSimpArgs false

mutual
/-- How many values there are in all. -/
def cntT : Tree → Nat
  | .node _ _ _ _ l => 1 + cntL l
def cntL : List Tree → Nat
  | [] => 0
  | t :: r => cntT t + cntL r
end
theorem cntT_eq (t : Tree) : cntT t = 1 + cntL t.l := by cases t; rfl
theorem cntL_append : ∀ a b : List Tree, cntL (a ++ b) = cntL a + cntL b
  | [], b => by simp [cntL]
  | t :: a, b => by rw [List.cons_append, cntL, cntL, cntL_append a b]; omega
theorem cntL_take (l : List Tree) (j : Nat) (h : j < l.length) : cntL (l.take (j + 1)) = cntL (l.take j) + cntT l[j] := by
  rw [List.take_succ_eq_append_getElem h, cntL_append]
  simp [cntL]
theorem cntL_take_le (l : List Tree) (j : Nat) : cntL (l.take j) ≤ cntL l := by
  have := cntL_append (l.take j) (l.drop j)
  rw [List.take_append_drop] at this
  omega
/-- What is left of m when c are taken; -1: there were more. -/
def remD (m : Int) (c : Nat) : Int := if (c : Int) ≤ m then m - c else -1
theorem remD_cases (m : Int) (c : Nat) : (remD m c = -1 ∧ m < c) ∨ (0 ≤ remD m c ∧ remD m c = m - c ∧ (c : Int) ≤ m) := by
  unfold remD
  split
  · exact .inr ⟨by omega, rfl, by assumption⟩
  · exact .inl ⟨rfl, by omega⟩
theorem remD_add (m : Int) (c d : Nat) (h : (c : Int) ≤ m) : remD (m - c) d = remD m (c + d) := by
  unfold remD
  by_cases h1 : ((c + d : Nat) : Int) ≤ m
  · rw [if_pos (by omega), if_pos h1]; omega
  · rw [if_neg (by omega), if_neg h1]
theorem remD_less (m : Int) (c d : Nat) (h : m < c) (hcd : c ≤ d) : remD m d = -1 := by
  unfold remD
  rw [if_neg (by omega)]
theorem remD_node (n : Nat) (c : Nat) : remD ((n : Int) - 1) c = remD n (1 + c) := by
  unfold remD
  by_cases h1 : ((1 + c : Nat) : Int) ≤ n
  · rw [if_pos (by omega), if_pos h1]; omega
  · rw [if_neg (by omega), if_neg h1]

set_option maxRecDepth 100000 in
set_option maxHeartbeats 2000000 in
theorem qleft_any (n : Nat) : ∀ (t : Tree) (vs : List Value) (w : World), ShowsT w t vs → n ≤ 1000 →
    Calls Try.prog 54 #[.agg vs.toArray, .int .i64 n] w fun e w' => e = .returned (.int .i64 (remD n (cntT t))) ∧ Below w.heap.size w w' := by
  induction n using Nat.strongRecOn with
  | ind n ih =>
    intro t vs w h hn
    have IH := Lib.hid (fun (m : Int) (hm0 : 0 ≤ m) (hmn : m ≤ (n : Int) - 1) t vs w (h : ShowsT w t vs) => show Calls Try.prog 54 #[.agg vs.toArray, .int .i64 m] w fun e w' => e = .returned (.int .i64 (remD m (cntT t))) ∧ Below w.heap.size w w' from by
      obtain ⟨m', rfl⟩ := Int.eq_ofNat_of_zero_le hm0
      exact ih m' (by omega) t vs w h (by omega))
    clear ih
    have hsh := h
    obtain ⟨kv, A, c, d0, d1, cs, rfl, _, _, _, _, _, _, hln, _⟩ := h.open
    rw [cntT_eq, ← remD_node]
    clear h
    go_enter Try.func54, Try.ntmps54
    go_wp2_with fail
    go_loopw [1, 5] (fun x i wr => ∃ j : Nat, j ≤ t.l.length ∧ i = .int .i64 j ∧ x = .int .i64 (remD ((n : Int) - 1) (cntL (t.l.take j))) ∧ BoxV wr w.heap.size (.int .u8 t.k) (.int .u64 t.n) (.string t.s) kv (.slice A t.l.length c) ∧ Below w.heap.size w wr) (fun _ i _ => t.l.length - (intOf i).toNat)
    case atStart => exact ⟨0, by omega, rfl, by simp [cntL, remD]; omega, BoxV.new w, below_boxV _ _⟩
    case round =>
      obtain ⟨j, hj, rfl, rfl, hX, hb⟩ := hrel
      rename World => wj
      have x4 := hX.c4
      by_cases hlt : j < t.l.length
      · have hjl : (j : Int) < (t.l.length : Int) := by omega
        rcases remD_cases ((n : Int) - 1) (cntL (t.l.take j)) with ⟨hr, hc1⟩ | ⟨hr0, hr1, hc1⟩
        · have hfin : (-1 : Int) = remD ((n : Int) - 1) (cntL t.l) := (remD_less _ _ _ hc1 (cntL_take_le _ _)).symm
          rw [hr]
          have HF := Lib.hid hfin
          clear hfin hr hc1
          go_wp2_with fail
          go_ret
          exact ⟨by rw [← HF.out]; rfl, hb⟩
        · obtain ⟨d, o, v0, v1, v2, v3, v4, rfl, hd, hch, e0, e1, e2, e3, e4⟩ := (hsh.kept hb (Nat.le_refl _)).child j hlt
          have hstep : remD ((n : Int) - 1 - (cntL (t.l.take j) : Nat)) (cntT (t.l[j]'hlt)) = remD ((n : Int) - 1) (cntL (t.l.take (j + 1))) := by
            rw [cntL_take _ _ hlt, remD_add _ _ _ hc1]
          have hc := fun vs w h => IH.out (remD ((n : Int) - 1) (cntL (t.l.take j))) hr0 (by omega) (t.l[j]'hlt) vs w h
          rw [hr1] at hc ⊢
          rw [hstep] at hc
          have hr2 : (0 : Int) ≤ (n : Int) - 1 - (cntL (t.l.take j) : Nat) := by omega
          generalize (n : Int) - 1 - (cntL (t.l.take j) : Nat) = x at *
          have HC := Lib.hid hc
          clear hc hstep hc1 hr0 hr1
          go_wp2_with fail
          refine (HC.out _ _ hch).mono ?_
          rintro e wx ⟨rfl, hx⟩
          go_wp2_with fail
          go_roundw
          case rel => exact ⟨j + 1, by omega, by go_num, rfl, hX.kept hx (Nat.le_refl _), hb.trans (hx.mono hb.size)⟩
          case measure => simp [intOf]; omega
      · have hjl : ¬ (j : Int) < (t.l.length : Int) := by omega
        rw [show t.l.take j = t.l from List.take_of_length_le (by omega)]
        obtain ⟨x, hx⟩ : ∃ x, x = remD ((n : Int) - 1) (cntL t.l) := ⟨_, rfl⟩
        rw [← hx]
        have HX := Lib.hid hx
        clear hx
        go_wp2_with fail
        go_ret
        exact ⟨by rw [← HX.out]; rfl, hb⟩

end Go.Proofs.Ytnafibnhmhbfiaa
