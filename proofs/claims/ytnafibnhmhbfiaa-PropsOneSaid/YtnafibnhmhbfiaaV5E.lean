/-
  The contract of the document's own small for values: how many bytes are left of so many.
  Conditions: none but sizes.
-/
import Derived.Test.YtnafibnhmhbfiaaV5D
namespace Go.Proofs.Ytnafibnhmhbfiaa
open Go.RowKit
set_option linter.unusedVariables false
set_option linter.unusedSimpArgs false

/-- The lengths of strings together. -/
def lenL : List ByteArray → Nat
  | [] => 0
  | s :: r => s.size + lenL r
theorem lenL_append : ∀ a b : List ByteArray, lenL (a ++ b) = lenL a + lenL b
  | [], b => by simp [lenL]
  | t :: a, b => by rw [List.cons_append, lenL, lenL, lenL_append a b]; omega
theorem lenL_take (l : List ByteArray) (j : Nat) (h : j < l.length) : lenL (l.take (j + 1)) = lenL (l.take j) + l[j].size := by
  rw [List.take_succ_eq_append_getElem h, lenL_append]
  simp [lenL]
theorem lenL_take_le (l : List ByteArray) (j : Nat) : lenL (l.take j) ≤ lenL l := by
  have := lenL_append (l.take j) (l.drop j)
  rw [List.take_append_drop] at this
  omega
mutual
/-- How long a value's texts are together, with one for each key. -/
def wgtT : Tree → Nat
  | .node _ _ s ks l => s.size + ks.length + lenL ks + wgtL l
def wgtL : List Tree → Nat
  | [] => 0
  | t :: r => wgtT t + wgtL r
end
theorem wgtT_eq (t : Tree) : wgtT t = t.s.size + t.ks.length + lenL t.ks + wgtL t.l := by cases t; rfl
theorem wgtL_append : ∀ a b : List Tree, wgtL (a ++ b) = wgtL a + wgtL b
  | [], b => by simp [wgtL]
  | t :: a, b => by rw [List.cons_append, wgtL, wgtL, wgtL_append a b]; omega
theorem wgtL_take (l : List Tree) (j : Nat) (h : j < l.length) : wgtL (l.take (j + 1)) = wgtL (l.take j) + wgtT l[j] := by
  rw [List.take_succ_eq_append_getElem h, wgtL_append]
  simp [wgtL]
theorem wgtL_take_le (l : List Tree) (j : Nat) : wgtL (l.take j) ≤ wgtL l := by
  have := wgtL_append (l.take j) (l.drop j)
  rw [List.take_append_drop] at this
  omega
theorem remD_shift (m : Int) (c d : Nat) : remD (m - c) d = remD m (c + d) := by
  unfold remD
  by_cases h1 : ((c + d : Nat) : Int) ≤ m
  · rw [if_pos (by omega), if_pos h1]; omega
  · rw [if_neg (by omega), if_neg h1]

set_option maxRecDepth 100000 in
set_option maxHeartbeats 8000000 in
theorem qsmall_main (N : Nat) : ∀ (t : Tree) (vs : List Value) (n : Nat) (w : World), cntT t = N → ShowsT w t vs → n ≤ 20000 →
    Calls Try.prog 56 #[.agg vs.toArray, .int .i64 n] w fun e w' => e = .returned (.int .i64 (remD n (wgtT t))) ∧ Below w.heap.size w w' := by
  induction N using Nat.strongRecOn with
  | ind N ih =>
    intro t vs n w hN h hn
    have IH := Lib.hid (fun j (hj : j < t.l.length) vs (m : Int) (hm0 : 0 ≤ m) (hmn : m ≤ n) w' (h' : ShowsT w' (t.l[j]'hj) vs) => show Calls Try.prog 56 #[.agg vs.toArray, .int .i64 m] w' fun e w'' => e = .returned (.int .i64 (remD m (wgtT (t.l[j]'hj)))) ∧ Below w'.heap.size w' w'' from by
      obtain ⟨m', rfl⟩ := Int.eq_ofNat_of_zero_le hm0
      exact ih (cntT (t.l[j]'hj)) (by rw [← hN]; exact cnt_child t j hj) (t.l[j]'hj) vs m' w' rfl h' (by omega))
    clear ih hN
    have hsh := h
    obtain ⟨kv, A, c, d0, d1, cs, rfl, _, _, hks, hkl, _, hsz, hln, _⟩ := h.open
    obtain ⟨Ak, ck, rfl⟩ := str_form hks
    rw [wgtT_eq]
    obtain ⟨R, hR⟩ : ∃ R, R = remD n (t.s.size + t.ks.length + lenL t.ks + wgtL t.l) := ⟨_, rfl⟩
    rw [← hR]
    have HR := Lib.hid hR
    clear h hR
    by_cases h1 : n < t.s.size
    · have hfin : remD n (t.s.size + t.ks.length + lenL t.ks + wgtL t.l) = -1 := by unfold remD; rw [if_neg (by omega)]
      obtain rfl : R = -1 := HR.out.trans hfin
      have h1' : (n : Int) < (t.s.size : Int) := by omega
      clear hfin h1
      go_enter Try.func56, Try.ntmps56
      go_wp2_with fail
      go_ret
      exact ⟨rfl, below_boxV _ _⟩
    by_cases h2 : n < t.ks.length
    · have hfin : remD n (t.s.size + t.ks.length + lenL t.ks + wgtL t.l) = -1 := by unfold remD; rw [if_neg (by omega)]
      obtain rfl : R = -1 := HR.out.trans hfin
      have h1' : ¬ (n : Int) < (t.s.size : Int) := by omega
      have h2' : (n : Int) < (t.ks.length : Int) := by omega
      clear hfin h1 h2
      go_enter Try.func56, Try.ntmps56
      go_wp2_with fail
      go_ret
      exact ⟨rfl, below_boxV _ _⟩
    have h1' : ¬ (n : Int) < (t.s.size : Int) := by omega
    have h2' : ¬ (n : Int) < (t.ks.length : Int) := by omega
    have hsn : t.s.size ≤ 20000 := by omega
    have hkn : t.ks.length ≤ 20000 := by omega
    go_enter Try.func56, Try.ntmps56
    go_wp2_with fail
    go_loopw [1, 5] (fun x i wr => ∃ j : Nat, j ≤ t.ks.length ∧ i = .int .i64 j ∧ x = .int .i64 ((n : Int) - t.s.size - t.ks.length - lenL (t.ks.take j)) ∧ (j = 0 ∨ t.s.size + t.ks.length + lenL (t.ks.take j) ≤ n) ∧ BoxV wr w.heap.size (.int .u8 t.k) (.int .u64 t.n) (.string t.s) (.slice Ak t.ks.length ck) (.slice A t.l.length c) ∧ Below w.heap.size w wr) (fun _ i _ => t.ks.length - (intOf i).toNat)
    case atStart => exact ⟨0, by omega, rfl, by simp [lenL], .inl rfl, BoxV.new w, below_boxV _ _⟩
    case round =>
      obtain ⟨j, hj, rfl, rfl, hle, hX, hb⟩ := hrel
      rename World => wj
      have x3 := hX.c3
      by_cases hlt : j < t.ks.length
      · obtain ⟨o, c2, e, e0⟩ := str_cell (hks.below' hb (Nat.le_refl _)) j hlt
        cases e
        have hjl : (j : Int) < (t.ks.length : Int) := by omega
        have hst := lenL_take t.ks j hlt
        have hmono := lenL_take_le t.ks (j + 1)
        have hlo := lenL_take_le t.ks j
        by_cases hover : n < t.s.size + t.ks.length + lenL (t.ks.take (j + 1))
        · have hfin : remD n (t.s.size + t.ks.length + lenL t.ks + wgtL t.l) = -1 := by unfold remD; rw [if_neg (by omega)]
          obtain rfl : R = -1 := HR.out.trans hfin
          have ht : (n : Int) - t.s.size - t.ks.length - lenL (t.ks.take j) < ((t.ks[j].size : Nat) : Int) := by omega
          generalize (n : Int) - t.s.size - t.ks.length - lenL (t.ks.take j) = x at *
          generalize t.ks[j] = p at *
          clear hst hmono hlo hover hfin hle
          go_wp2_with fail
          go_ret
          exact ⟨rfl, hb⟩
        · have ht : ¬ (n : Int) - t.s.size - t.ks.length - lenL (t.ks.take j) < ((t.ks[j].size : Nat) : Int) := by omega
          have hnx : (n : Int) - t.s.size - t.ks.length - lenL (t.ks.take j) - ((t.ks[j].size : Nat) : Int) = (n : Int) - t.s.size - t.ks.length - lenL (t.ks.take (j + 1)) := by omega
          have hx1 : (n : Int) - t.s.size - t.ks.length - lenL (t.ks.take j) ≤ 20000 := by omega
          have hx2 : 0 ≤ (n : Int) - t.s.size - t.ks.length - lenL (t.ks.take j) := by omega
          have hp1 : t.ks[j].size ≤ 20000 := by omega
          have HNX := Lib.hid hnx
          have HOV := Lib.hid hover
          generalize (n : Int) - t.s.size - t.ks.length - lenL (t.ks.take j) = x at *
          generalize t.ks[j] = p at *
          clear hst hmono hlo hover hle hnx
          go_wp2_with fail
          go_roundw
          case rel => exact ⟨j + 1, by omega, by go_num, by first | rw [HNX.out] | (congr 1; exact HNX.out), .inr (by have := HOV.out; omega), hX, hb⟩
          case measure => simp [intOf]; omega
      · have hjl : ¬ (j : Int) < (t.ks.length : Int) := by omega
        rw [show t.ks.take j = t.ks from List.take_of_length_le (by omega)] at hle ⊢
        have hM0 : (0 : Int) ≤ (n : Int) - t.s.size - t.ks.length - lenL t.ks := by
          rcases hle with rfl | hle
          · have : t.ks = [] := List.eq_nil_of_length_eq_zero (by omega)
            rw [this]
            simp [lenL]
            omega
          · omega
        have hMn : (n : Int) - t.s.size - t.ks.length - lenL t.ks ≤ n := by omega
        have hgoal : remD n (t.s.size + t.ks.length + lenL t.ks + wgtL t.l) = remD ((n : Int) - t.s.size - t.ks.length - lenL t.ks) (wgtL t.l) := by
          rw [remD_shift, remD_shift, remD_shift]
          congr 1
          omega
        have HR2 := Lib.hid (HR.out.trans hgoal)
        generalize (n : Int) - t.s.size - t.ks.length - lenL t.ks = M at *
        clear hle hgoal h1 h2 h1' h2' hsn hkn HR
        go_wp2_with fail
        go_loopw [1, 6] (fun x i wr => ∃ q : Nat, q ≤ t.l.length ∧ i = .int .i64 q ∧ x = .int .i64 (remD M (wgtL (t.l.take q))) ∧ BoxV wr w.heap.size (.int .u8 t.k) (.int .u64 t.n) (.string t.s) (.slice Ak t.ks.length ck) (.slice A t.l.length c) ∧ Below w.heap.size w wr) (fun _ i _ => t.l.length - (intOf i).toNat)
        case atStart => exact ⟨0, by omega, rfl, by simp [wgtL, remD]; omega, hX, hb⟩
        case round =>
          clear hX hb
          obtain ⟨q, hq, rfl, rfl, hX, hb⟩ := hrel
          rename World => wq
          have x4 := hX.c4
          by_cases hlt : q < t.l.length
          · have hjl : (q : Int) < (t.l.length : Int) := by omega
            rcases remD_cases M (wgtL (t.l.take q)) with ⟨hr, hc1⟩ | ⟨hr0, hr1, hc1⟩
            · have hfin : (-1 : Int) = remD M (wgtL t.l) := (remD_less _ _ _ hc1 (wgtL_take_le _ _)).symm
              rw [hr]
              have HF := Lib.hid hfin
              clear hfin hr hc1
              go_wp2_with fail
              go_ret
              exact ⟨by rw [HR2.out, ← HF.out]; rfl, hb⟩
            · obtain ⟨d, o, v0, v1, v2, v3, v4, rfl, hd, hch, e0, e1, e2, e3, e4⟩ := (hsh.kept hb (Nat.le_refl _)).child q hlt
              have hstep : remD (M - (wgtL (t.l.take q) : Nat)) (wgtT (t.l[q]'hlt)) = remD M (wgtL (t.l.take (q + 1))) := by
                rw [wgtL_take _ _ hlt, remD_shift]
              have hc := fun vs w h => IH.out q hlt vs (remD M (wgtL (t.l.take q))) hr0 (by omega) w h
              rw [hr1] at hc ⊢
              rw [hstep] at hc
              have hr2 : (0 : Int) ≤ M - (wgtL (t.l.take q) : Nat) := by omega
              generalize M - (wgtL (t.l.take q) : Nat) = x at *
              have HC := Lib.hid hc
              clear hc hstep hc1 hr0 hr1
              go_wp2_with fail
              refine (HC.out _ _ hch).mono ?_
              rintro e wx ⟨rfl, hx⟩
              go_wp2_with fail
              go_roundw
              case rel => exact ⟨q + 1, by omega, by go_num, rfl, hX.kept hx (Nat.le_refl _), hb.trans (hx.mono hb.size)⟩
              case measure => simp [intOf]; omega
          · have hjl : ¬ (q : Int) < (t.l.length : Int) := by omega
            rw [show t.l.take q = t.l from List.take_of_length_le (by omega)]
            obtain ⟨x, hx⟩ : ∃ x, x = remD M (wgtL t.l) := ⟨_, rfl⟩
            rw [← hx]
            have HX := Lib.hid hx
            clear hx
            go_wp2_with fail
            go_ret
            exact ⟨by rw [HR2.out, ← HX.out]; rfl, hb⟩

end Go.Proofs.Ytnafibnhmhbfiaa
