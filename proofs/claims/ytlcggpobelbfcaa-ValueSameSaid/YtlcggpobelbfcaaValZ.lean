/-
  The contract of slices.Index at strings.
  Conditions: none but sizes.
-/
import Derived.Test.YtlcggpobelbfcaaV5D
import Derived.Deep.LoopGhost
namespace Go.Proofs.Ytlcggpobelbfcaa
open Go.RowKit
set_option linter.unusedVariables false
set_option linter.unusedSimpArgs false

/-- Where a string stands first from j on. -/
def idxD (s : ByteArray) : Nat → List ByteArray → Int
  | _, [] => -1
  | j, x :: r => if s = x then (j : Int) else idxD s (j + 1) r
theorem idxD_none (s : ByteArray) : ∀ (l : List ByteArray) (i : Nat), (∀ q (h : q < l.length), l[q] ≠ s) → idxD s i l = -1
  | [], _, _ => rfl
  | x :: r, i, h => by
    have h0 : x ≠ s := h 0 (by simp)
    unfold idxD
    rw [if_neg (fun e => h0 e.symm)]
    exact idxD_none s r (i + 1) (fun q hq => h (q + 1) (by simpa using hq))
theorem idxD_some (s : ByteArray) : ∀ (l : List ByteArray) (i j : Nat) (hj : j < l.length), l[j] = s → (∀ q (h : q < l.length), q < j → l[q] ≠ s) → idxD s i l = ((i + j : Nat) : Int)
  | x :: r, i, 0, _, h, _ => by
    unfold idxD
    rw [if_pos (by simpa using h.symm)]
    simp
  | x :: r, i, j + 1, hj, h, hlo => by
    have h0 : x ≠ s := hlo 0 (by simp) (by omega)
    unfold idxD
    rw [if_neg (fun e => h0 e.symm), idxD_some s r (i + 1) j (by simpa using hj) (by simpa using h) (fun q hq hqj => hlo (q + 1) (by simpa using hq) (by omega))]
    rw [show i + 1 + j = i + (j + 1) by omega]

set_option maxRecDepth 100000 in
set_option maxHeartbeats 2000000 in
theorem sindex_any (v : Value) (d : Nat) (l : List ByteArray) (s : ByteArray) (w : World) (hv : ShowsG strC w d v l) (hl : l.length ≤ 8796093022208) :
    Calls Try.prog 41 #[v, .string s] w fun e w' => e = .returned (.int .i64 (idxD s 0 l)) ∧ w = w' := by
  obtain ⟨A, c, rfl⟩ := str_form hv
  obtain ⟨R, hR⟩ : ∃ R, R = idxD s 0 l := ⟨_, rfl⟩
  rw [← hR]
  have HCELL := Lib.hid (fun j hj => str_cell hv j hj)
  obtain ⟨n, hn⟩ : ∃ n, n = l.length := ⟨_, rfl⟩
  rw [← hn] at hl ⊢
  have HN := Lib.hid hn
  have HR := Lib.hid hR
  clear hv hR hn
  go_enter Try.func41, Try.ntmps41
  go_wp2_with fail
  go_loopw [5, 8] (fun _ i wr => wr = w ∧ ∃ j : Nat, j ≤ n ∧ i = .int .i64 j ∧ ∀ q (h : q < l.length), q < j → l[q] ≠ s) (fun _ i _ => n - (intOf i).toNat)
  case atStart => exact ⟨rfl, 0, by omega, rfl, fun q _ h => absurd h (by omega)⟩
  case round =>
    obtain ⟨rfl, j, hj, rfl, hlo⟩ := hrel
    by_cases hlt : j < n
    · have hlt' : j < l.length := by rw [← HN.out]; exact hlt
      have hjl : (j : Int) < (n : Int) := by omega
      obtain ⟨o, c', hA, hcell⟩ := HCELL.out j hlt'
      have hn' := HN.out
      simp only [← hn', Value.slice.injEq, true_and] at hA
      obtain ⟨rfl, rfl⟩ := hA
      by_cases hx : l[j] = s
      · have HV := Lib.hid (HR.out.trans (idxD_some s l 0 j hlt' hx hlo))
        rw [hx] at hcell
        clear hlo hx hn'
        go_wp2_with fail
        go_ret
        exact ⟨by rw [HV.out]; simp, rfl⟩
      · have HLO := Lib.hid (show ∀ q (h : q < l.length), q < j + 1 → l[q] ≠ s from fun q hq hqj => by
          by_cases hq2 : q < j
          · exact hlo q hq hq2
          · obtain rfl : q = j := by omega
            exact hx)
        have hne := toListNe (a := s) (b := l[j]) (fun e => hx e.symm)
        clear hlo hn' hx
        generalize l[j]'hlt' = x at *
        go_wp2_with fail
        go_roundw
        case rel => exact ⟨trivial, j + 1, by omega, by go_num, HLO.out⟩
        case measure => simp [intOf]; omega
    · have hjl : ¬ (j : Int) < (n : Int) := by omega
      have HV := Lib.hid (HR.out.trans (idxD_none s l 0 fun q hq => hlo q hq (by have := HN.out; omega)))
      clear hlo
      go_wp2_with fail
      go_ret
      exact ⟨by rw [HV.out]; rfl, rfl⟩
end Go.Proofs.Ytlcggpobelbfcaa
