/-
  The program's find among ready numbers, and Owner.
  Conditions: none but sizes.
-/
import Derived.Test.YtkcbkimconaegaaQpA
import Derived.Deep.LoopGhost
import Derived.Deep.Slices
import Derived.Shelf.RegionOpenPlain
namespace Go.Proofs.Ytkcbkimconaegaa
open Go.RowKit
set_option linter.unusedVariables false
set_option linter.unusedSimpArgs false
set_option maxRecDepth 100000

set_option maxHeartbeats 800000 in
theorem pclo_any (ba bx : Nat) (A : Option Addr) (c n d x i : Nat) (l : List Nat) (W : World) (hn : l.length = n) (hl : ShowsG (natC .u64) W d (.slice A n c) l) (ca : W.cell? ⟨ba, 0, none⟩ = some (.slice A n c)) (cx : W.cell? ⟨bx, 0, none⟩ = some (.int .u64 (x : Nat))) (hi : i < l.length) :
    Calls Try.prog 55 #[.int .i64 i, .pointer (some ⟨ba, 0, none⟩), .pointer (some ⟨bx, 0, none⟩)] W fun e w' => e = .returned (.bool (decide (x ≤ l[i]))) ∧ ∃ q, w' = W.drewN q := by
  subst hn
  obtain ⟨o, rfl, _, hcl⟩ := hl.at_ (by omega)
  have c2 : W.cell? ⟨d, o + i, none⟩ = some (.int .u64 (l[i] : Nat)) := by simpa [natC] using hcl i hi 0 (by decide)
  have hil : (i : Int) < (l.length : Int) := by omega
  generalize l[i] = b at *
  clear hcl hl
  go_enter Try.func55, Try.ntmps55
  go_wp2_with fail
  go_quiet (fail)
  go_wp2_with fail
  go_ret
  exact ⟨by first | rfl | simp, nq, rfl⟩

set_option maxHeartbeats 800000 in
theorem psearch_any (ba bx : Nat) (A : Option Addr) (c n d x : Nat) (r s : List Nat) (W : World) (hn : (r ++ s).length = n) (hl : ShowsG (natC .u64) W d (.slice A n c) (r ++ s)) (ca : W.cell? ⟨ba, 0, none⟩ = some (.slice A n c)) (cx : W.cell? ⟨bx, 0, none⟩ = some (.int .u64 (x : Nat))) (h1 : ∀ y ∈ r, y < x) (h2 : ∀ y ∈ s, x ≤ y) (hb : n ≤ 17592186044416) :
    Calls Try.prog 54 #[.int .i64 n, .func (.func 55) #[] #[.pointer (some ⟨ba, 0, none⟩), .pointer (some ⟨bx, 0, none⟩)]] W fun e w' => e = .returned (.int .i64 r.length) ∧ ∃ q, w' = W.drewN q := by
  obtain ⟨l, hle⟩ : ∃ l, l = r ++ s := ⟨_, rfl⟩
  rw [← hle] at hn hl
  subst hn
  have M := Lib.hid (fun t (ht : t < l.length) => (show l[t] < x ↔ t < r.length from by
    subst hle
    by_cases c : t < r.length
    · rw [List.getElem_append_left c]
      have := h1 _ (List.getElem_mem c)
      omega
    · rw [List.getElem_append_right (by omega)]
      have := h2 _ (List.getElem_mem (show t - r.length < s.length by rw [List.length_append] at ht; omega))
      omega))
  have hrl : r.length ≤ l.length := by rw [hle, List.length_append]; omega
  have HF := Lib.hid (fun q i hi => pclo_any ba bx A c l.length d x i l (W.drewN q) rfl (hl.drewN q) (by exact ca) (by exact cx) hi)
  generalize r.length = K at *
  clear ca cx hl hle h1 h2
  go_enter Try.func54, Try.ntmps54
  go_wp2_with fail
  go_loopw [5, 6] (fun s5 s6 wr => ∃ lo hi q : Nat, s5 = .int .i64 lo ∧ s6 = .int .i64 hi ∧ lo ≤ K ∧ K ≤ hi ∧ hi ≤ l.length ∧ wr = W.drewN q) (fun s5 s6 _ => (intOf s6).toNat - (intOf s5).toNat)
  case atStart => exact ⟨0, l.length, 0, rfl, rfl, Nat.zero_le _, hrl, Nat.le_refl _, rfl⟩
  case round =>
    obtain ⟨lo, hi, q, rfl, rfl, hlo, hhi, hin, rfl⟩ := hrel
    by_cases hlt : lo < hi
    · have hm : (lo + hi) / 2 < l.length := by omega
      have hcl := HF.out q ((lo + hi) / 2) hm
      have hM := M.out _ hm
      rw [show (((lo + hi) / 2 : Nat) : Int) = ((lo : Int) + (hi : Int)) / 2 by omega] at hcl
      by_cases hx : x ≤ l[(lo + hi) / 2]
      · have hK : K ≤ (lo + hi) / 2 := by omega
        rw [show decide (x ≤ l[(lo + hi) / 2]) = true by simpa using hx] at hcl
        clear hx hM
        go_wp2_with (go_at_call 55; refine hcl.mono ?_; rintro e w' ⟨rfl, nq, rfl⟩)
        go_roundw
        case rel => exact ⟨lo, (lo + hi) / 2, q + nq, rfl, by go_num, hlo, hK, by omega, rfl⟩
        case measure => simp [intOf]; omega
      · have hK : (lo + hi) / 2 + 1 ≤ K := by omega
        rw [show decide (x ≤ l[(lo + hi) / 2]) = false by simpa using hx] at hcl
        clear hx hM
        go_wp2_with (go_at_call 55; refine hcl.mono ?_; rintro e w' ⟨rfl, nq, rfl⟩)
        go_roundw
        case rel => exact ⟨(lo + hi) / 2 + 1, hi, q + nq, by go_num, rfl, hK, hhi, hin, rfl⟩
        case measure => simp [intOf]; omega
    · have e1 : lo = K := by omega
      subst e1
      go_wp2_with fail
      go_ret
      exact ⟨rfl, q, rfl⟩
set_option maxHeartbeats 1000000 in
/-- Where a number is, or would have to be. -/
theorem pfind_any (A : Option Addr) (c n d x : Nat) (r s : List Nat) (w : World) (hn : (r ++ s).length = n) (hl : ShowsG (natC .u64) w d (.slice A n c) (r ++ s)) (h1 : ∀ y ∈ r, y < x) (h2 : ∀ y ∈ s, x ≤ y) (hb : n ≤ 17592186044416) :
    Calls Try.prog 42 #[.slice A n c, .int .u64 x] w fun e w' => e = .returned (.tuple #[.int .i64 r.length, .bool (decide (s.head? = some x))]) ∧ Below w.heap.size w w' := by
  obtain ⟨W, hW⟩ : ∃ W, W = (w.alloc (.cells #[.slice A n c] 42)).alloc (.cells #[.int .u64 x] 22) := ⟨_, rfl⟩
  have hsW : W.heap.size = w.heap.size + 1 + 1 := by rw [hW]; simp
  have hbW : Below w.heap.size w W := by rw [hW]; exact ((Below.refl _ _).alloc (Nat.le_refl _) _).alloc (by simp) _
  have hlW : ShowsG (natC .u64) W d (.slice A n c) (r ++ s) := hl.below' hbW (Nat.le_refl _)
  have k0 : W.heap[w.heap.size]? = some (.cells #[.slice A n c] 42 (0, 0)) := by rw [hW]; exact (heap_alloc_old _ _ (by simp)).trans (heap_alloc_new w _)
  have k1 : W.heap[w.heap.size + 1]? = some (.cells #[.int .u64 x] 22 (0, 0)) := by
    rw [hW, ← World.size_alloc w (Obj.cells #[.slice A n c] 42)]
    exact heap_alloc_new _ _
  have ca : W.cell? ⟨w.heap.size, 0, none⟩ = some (.slice A n c) := by rw [cell_of_row _ _ _ _ _ (0, 0) k0]; rfl
  have cx : W.cell? ⟨w.heap.size + 1, 0, none⟩ = some (.int .u64 x) := by rw [cell_of_row _ _ _ _ _ (0, 0) k1]; rfl
  have hS := Lib.hid (psearch_any w.heap.size (w.heap.size + 1) A c n d x r s W hn hlW ca cx h1 h2 hb)
  have HBW := Lib.hid hbW
  have hrn : r.length ≤ n := by rw [← hn, List.length_append]; omega
  cases s with
  | nil =>
    have hd : decide (([] : List Nat).head? = some x) = false := by simp
    rw [hd]
    have hnr : n = r.length := by rw [← hn]; simp
    subst hnr
    have hf : ¬ (r.length : Int) < (r.length : Int) := by omega
    clear hl hlW k0 k1 hbW hb h1 h2 hn hrn
    generalize r.length = K at *
    go_enter Try.func42, Try.ntmps42
    go_wp2_with (go_at_call 54; rw [← hW]; clear hW hsW; refine hS.out.mono ?_; rintro e w' ⟨rfl, q, rfl⟩)
    go_quiet (fail)
    go_wp2_with fail
    go_ret2
    exact ⟨rfl, below_drewN (below_drewN HBW.out _) _⟩
  | cons y s =>
    have hlt : r.length < (r ++ y :: s).length := by rw [List.length_append, List.length_cons]; omega
    obtain ⟨o, rfl, _, hcl⟩ := hlW.at_ (by omega)
    have c2 : W.cell? ⟨d, o + r.length, none⟩ = some (.int .u64 (y : Nat)) := by
      have := hcl r.length hlt 0 (by decide)
      simpa [natC] using this
    have hKn : (r.length : Int) < (n : Int) := by rw [← hn]; omega
    obtain ⟨b, hbd⟩ : ∃ b, b = decide ((y :: s).head? = some x) := ⟨_, rfl⟩
    have hd : decide ((y : Int) = (x : Int)) = b := by rw [hbd]; simp; omega
    have hd2 : ((y : Int) == (x : Int)) = b := by rw [← hd]; rfl
    rw [← hbd]
    clear hl hlW k0 k1 hbW hb h1 h2 hn hrn hcl hlt hbd
    generalize r.length = K at *
    go_enter Try.func42, Try.ntmps42
    go_wp2_with (go_at_call 54; rw [← hW]; clear hW hsW; refine hS.out.mono ?_; rintro e w' ⟨rfl, q, rfl⟩)
    go_quiet (fail)
    go_wp2_with fail
    go_ret2
    exact ⟨by first | rfl | simp, below_drewN (below_drewN HBW.out _) _⟩

end Go.Proofs.Ytkcbkimconaegaa
