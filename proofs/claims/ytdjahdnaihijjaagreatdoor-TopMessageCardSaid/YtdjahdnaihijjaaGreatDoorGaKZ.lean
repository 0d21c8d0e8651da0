/-
  The contract of gather.Cut.
  Conditions: none but sizes.
-/
import Derived.Test.YtdjahdnaihijjaaGreatDoorGaAZ
namespace Go.Proofs.YtdjahdnaihijjaaGreatDoor
open Go.RowKit
set_option linter.unusedVariables false
set_option linter.unusedSimpArgs false

/-- What Cut tells. -/
def cutD (most : Int) (k ch : Nat) (l : List Sg) : List Fr × Nat :=
  if most < 1 ∨ 4084 < most then ([], 2) else if checkA k l ≠ 0 then ([], 70) else (framesD most.toNat k ch true l, 0)

def CutSaid (r : List Fr × Nat) (w : World) (e : Ending) (w' : World) : Prop := ∃ v, e = .returned (.tuple #[v, .int .i64 r.2]) ∧ OwnG frC 51 w' w.heap.size v r.1 ∧ Below w.heap.size w w'

theorem checkA_zero {k : Nat} {l : List Sg} (h : checkA k l = 0) : typesD k l = true ∧ sumS l ≤ 16384 := by
  unfold checkA at h
  split at h
  · assumption
  · cases h
theorem checkA_no {k : Nat} {l : List Sg} (h : checkA k l ≠ 0) : checkA k l = 70 := by
  unfold checkA at h ⊢
  split
  · rename_i h2
    rw [if_pos h2] at h
    exact absurd rfl h
  · rfl
theorem types_three {k : Nat} {l : List Sg} (h : typesD k l = true) : l.length ≤ 3 := by
  have hr : ∀ (r : List Sg) (x : Nat), risesD x r = true → r.length + x ≤ 3 ∨ r = [] := by
    intro r
    induction r with
    | nil => intro x _; exact .inr rfl
    | cons y r ih =>
      intro x hx
      simp only [risesD, Bool.and_eq_true, decide_eq_true_eq] at hx
      rcases ih y.t hx.2 with h | h
      · left; simp; omega
      · left; subst h; simp; omega
  cases l with
  | nil => simp
  | cons s r =>
    simp only [typesD, Bool.and_eq_true] at h
    obtain ⟨h1, h2⟩ := h
    split at h2
    · simp at h2; subst h2; simp
    · rename_i hk
      unfold firstD at h1
      rw [if_neg hk] at h1
      split at h1
      · simp at h1
        rcases hr r s.t h2 with h | h
        · simp; omega
        · subst h; simp
      · cases h1

set_option maxRecDepth 100000 in
set_option maxHeartbeats 4000000 in
theorem gcut_any (ch k : Nat) (most : Int) (A : Option Addr) (c d : Nat) (l : List Sg) (w : World) (h : ShowsG sgC w d (.slice A l.length c) l) (hl : l.length ≤ 17592186044416) (hz : ∀ s ∈ l, s.p.size ≤ 140737488351232) :
    Calls Tryz.prog 6 #[asV ch k (.slice A l.length c), .int .i64 most] w (CutSaid (cutD most k ch l) w) := by
  have hX := BoxA.new w ch k (.slice A l.length c)
  have hb0 := f_below_box w (Obj.cells #[.int .u16 ch, .int .u8 k, .slice A l.length c] 41)
  have HC := Lib.hid (fun w' (hb : Below w.heap.size w w') => gcheck_any ch k A c d l w' (h.below' hb (Nat.le_refl _)) hl hz)
  have HP := Lib.hid (fun n w' (hb : Below w.heap.size w w') h1 h2 h3 h4 => pieces_any n ch k A c d l w' (h.below' hb (Nat.le_refl _)) h1 h2 h3 h4)
  unfold PiecesSaid at HP
  unfold CutSaid cutD
  unfold asV at *
  have HX := Lib.hid (And.intro hX hb0)
  clear h hX hb0
  by_cases h1 : most < 1
  · rw [if_pos (.inl h1)]
    clear HC HP
    go_enter Tryz.func6, Tryz.ntmps6
    go_wp2_with fail
    go_ret2
    exact ⟨_, rfl, OwnG.nil_ _ _ _ _, HX.out.2⟩
  · by_cases h2 : 4084 < most
    · rw [if_pos (.inr h2)]
      clear HC HP
      go_enter Tryz.func6, Tryz.ntmps6
      go_wp2_with fail
      go_ret2
      exact ⟨_, rfl, OwnG.nil_ _ _ _ _, HX.out.2⟩
    · rw [if_neg (by omega)]
      by_cases hc : checkA k l = 0
      · rw [if_neg (by omega)]
        rw [hc] at HC
        obtain ⟨ht, hs⟩ := checkA_zero hc
        have hl3 := types_three ht
        obtain ⟨n, hn⟩ : ∃ n : Nat, most = n := ⟨most.toNat, by omega⟩
        subst hn
        have HPn := Lib.hid (fun w' hb => HP.out n w' hb hl3 hs (by omega) (by omega))
        simp only [Int.toNat_natCast]
        clear hc ht hs hl3 HP hz
        go_enter Tryz.func6, Tryz.ntmps6
        go_wp2_with (first
          | (go_at_call 24
             refine (HC.out _ HX.out.2).mono ?_
             rintro e w1 ⟨rfl, hb1⟩
             have hX1 := HX.out.1.kept hb1 (Nat.le_refl _)
             have hb01 := HX.out.2.trans (hb1.mono HX.out.2.size)
             have x0 := hX1.c0
             have x1 := hX1.c1
             have x2 := hX1.c2)
          | (go_at_call 25
             refine (HPn.out _ hb01).mono ?_
             rintro e w2 ⟨v, rfl, ho, hb2⟩))
        go_ret2
        exact ⟨_, rfl, ho.mono hb01.size, hb01.trans (hb2.mono hb01.size)⟩
      · rw [if_pos hc]
        rw [checkA_no hc] at HC
        clear hc HP
        go_enter Tryz.func6, Tryz.ntmps6
        go_wp2_with (go_at_call 24; refine (HC.out _ HX.out.2).mono ?_; rintro e w1 ⟨rfl, hb1⟩)
        go_ret2
        exact ⟨_, rfl, OwnG.nil_ _ _ _ _, HX.out.2.trans (hb1.mono HX.out.2.size)⟩

end Go.Proofs.YtdjahdnaihijjaaGreatDoor
