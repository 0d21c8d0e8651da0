/-
  Properties in memory; the contracts of the small functions of package props.
  Conditions: none but sizes.
-/
import Derived.Deep.QuietTactic
import Derived.BigQuiet
import Derived.Deep.RegionHeld3
import Derived.Test.YtnafibnhmhbfiaaPrPZ
import Derived.Test.YtnafibnhmhbfiaaValLZ
import Derived.Test.YtnafibnhmhbfiaaValIZ
namespace Go.Proofs.Ytnafibnhmhbfiaa
open Go.RowKit
set_option linter.unusedVariables false
set_option linter.unusedSimpArgs false

/-- Nine cells in a block of the call's own. -/
def BoxPr (w : World) (b : Nat) (p : PropP) (v0 v1 v2 v3 v4 : Value) : Prop := w.heap[b]? = some (.cells #[.string p.key, .bool p.dur, .bool p.red, .string p.id, v0, v1, v2, v3, v4] 29 (0, 0))
section
variable {w w' : World} {b B : Nat} {p : PropP} {v0 v1 v2 v3 v4 : Value}
theorem BoxPr.new (w : World) : BoxPr (w.alloc (Obj.cells #[.string p.key, .bool p.dur, .bool p.red, .string p.id, v0, v1, v2, v3, v4] 29)) w.heap.size p v0 v1 v2 v3 v4 := heap_alloc_new w _
theorem BoxPr.lt (h : BoxPr w b p v0 v1 v2 v3 v4) : b < w.heap.size := (Array.getElem?_eq_some_iff.1 h).1
theorem BoxPr.kept (h : BoxPr w b p v0 v1 v2 v3 v4) (hb : Below B w w') (hB : w.heap.size ≤ B) : BoxPr w' b p v0 v1 v2 v3 v4 := (hb.block b (Nat.lt_of_lt_of_le h.lt hB)).trans h
theorem BoxPr.fr (h : BoxPr w b p v0 v1 v2 v3 v4) (i : Nat) : w.frozen? ⟨b, i, none⟩ = false := frozen_of_row w b i _ 29 h
theorem BoxPr.cells (h : BoxPr w b p v0 v1 v2 v3 v4) : (w.cell? ⟨b, 0, none⟩ = some (.string p.key) ∧ w.cell? ⟨b, 1, none⟩ = some (.bool p.dur) ∧ w.cell? ⟨b, 2, none⟩ = some (.bool p.red) ∧ w.cell? ⟨b, 3, none⟩ = some (.string p.id)) ∧
    (w.cell? ⟨b, 4, none⟩ = some v0 ∧ w.cell? ⟨b, 5, none⟩ = some v1 ∧ w.cell? ⟨b, 6, none⟩ = some v2 ∧ w.cell? ⟨b, 7, none⟩ = some v3 ∧ w.cell? ⟨b, 8, none⟩ = some v4) :=
  ⟨⟨cell_of_row w b 0 _ 29 (0, 0) h, cell_of_row w b 1 _ 29 (0, 0) h, cell_of_row w b 2 _ 29 (0, 0) h, cell_of_row w b 3 _ 29 (0, 0) h⟩,
    ⟨cell_of_row w b 4 _ 29 (0, 0) h, cell_of_row w b 5 _ 29 (0, 0) h, cell_of_row w b 6 _ 29 (0, 0) h, cell_of_row w b 7 _ 29 (0, 0) h, cell_of_row w b 8 _ 29 (0, 0) h⟩⟩
end
def propV (p : PropP) (v0 v1 v2 v3 v4 : Value) : Value := .agg #[.string p.key, .bool p.dur, .bool p.red, .string p.id, v0, v1, v2, v3, v4]
/-- Properties are shown. -/
structure ShowsP (w : World) (p : PropP) (v0 v1 v2 v3 v4 : Value) : Prop where
  key : p.key.size ≤ 140737488351232
  id : p.id.size ≤ 140737488351232
  app : ShowsT w p.app [v0, v1, v2, v3, v4]
theorem ShowsP.kept {w w' : World} {B : Nat} {p : PropP} {v0 v1 v2 v3 v4 : Value} (h : ShowsP w p v0 v1 v2 v3 v4) (hb : Below B w w') (hB : w.heap.size ≤ B) : ShowsP w' p v0 v1 v2 v3 v4 := ⟨h.key, h.id, h.app.kept hb hB⟩
theorem ShowsP.sub {w w' : World} {p : PropP} {v0 v1 v2 v3 v4 : Value} (h : ShowsP w p v0 v1 v2 v3 v4) (hs : Sub w w') : ShowsP w' p v0 v1 v2 v3 v4 := ⟨h.key, h.id, h.app.sub hs⟩

theorem pflag_any (b : Bool) (n : Nat) (w : World) : Calls Try.prog 61 #[.bool b, .int .u64 n] w fun e w' => e = .returned (.int .u64 ((if b = true then n else 0 : Nat) : Int)) ∧ w' = w := by
  cases b
  all_goals
    go_enter Try.func61, Try.ntmps61
    go_wp2_with fail
    go_ret
    exact ⟨rfl, rfl⟩

theorem mapB_eq (t : Tree) : ((t.k : Int) == 168) = mapB t := by
  unfold mapB
  rw [Bool.eq_iff_iff]
  simp only [beq_iff_eq, decide_eq_true_eq]
  omega
set_option maxHeartbeats 400000 in
theorem isMap_any (t : Tree) (vs : List Value) (w : World) (h : ShowsT w t vs) : Calls Try.prog 62 #[.agg vs.toArray] w fun e w' => e = .returned (.bool (mapB t)) ∧ Below w.heap.size w w' := by
  obtain ⟨kv, A, c, d0, d1, cs, rfl, _⟩ := h.open
  have hm := mapB_eq t
  generalize mapB t = M at *
  generalize t.k = k at *
  clear h
  go_enter Try.func62, Try.ntmps62
  go_wp2_with fail
  go_ret
  exact ⟨by first | rfl | rw [hm], below_boxV _ _⟩

theorem hasB_list (s : ByteArray) : s.toList.isEmpty = !hasB s := by
  rw [sb_toList]
  unfold hasB
  rw [← sb_length]
  cases sb s <;> simp

set_option maxRecDepth 100000 in
set_option maxHeartbeats 2000000 in
theorem ptext_any (s : ByteArray) (w : World) (h : s.size ≤ 255) : Calls Try.prog 30 #[.string s] w fun e w' => ∃ v, e = .returned v ∧ Own 5 w' w.heap.size v (txtF s) ∧ Below w.heap.size w w' := by
  have hl := hasB_list s
  have HP := Lib.hid (putText_any (.slice none 0 0) [] 0 1 s w (Shows.nil_ _ _) (by simp; omega) (by omega) (by omega))
  unfold txtF
  cases hb : hasB s with
  | true =>
    rw [hb] at hl
    have hl2 : s.toList.isEmpty = false := hl
    have hl3 : ¬ s.toList = [] := by intro e; rw [e] at hl2; cases hl2
    rw [if_pos rfl]
    simp only [List.nil_append] at HP
    generalize be 1 s.size ++ sb s = X at *
    clear hl hb
    go_enter Try.func30, Try.ntmps30
    go_wp2_with fail
    refine HP.out.mono ?_
    rintro e w1 ⟨v, rfl, ho, hb⟩
    go_wp2_with fail
    go_ret
    exact ⟨_, rfl, ho, hb⟩
  | false =>
    rw [hb] at hl
    have hl2 : s.toList.isEmpty = true := hl
    have hl3 : s.toList = [] := List.isEmpty_iff.1 hl2
    rw [if_neg (by decide)]
    clear hl hb HP
    go_enter Try.func30, Try.ntmps30
    go_wp2_with fail
    go_ret
    exact ⟨_, rfl, Own.nil_ _ _ _, Below.refl _ _⟩

set_option maxRecDepth 100000 in
set_option maxHeartbeats 2000000 in
theorem pvalues_any (t : Tree) (vs : List Value) (w : World) (h : ShowsT w t vs) (ha : appOK t) : Calls Try.prog 32 #[.agg vs.toArray] w fun e w' => ∃ v, e = .returned v ∧ Own 5 w' w.heap.size v (appF t) ∧ Below w.heap.size w w' := by
  have HM := Lib.hid (fun w' (hb : Below w.heap.size w w') => isMap_any t vs w' (h.kept hb (Nat.le_refl _)))
  have hc : mapB t = true → checkT t = 0 := fun hm => by
    rcases ha with ⟨_, hc⟩ | rfl
    · exact hc
    · exact absurd hm (by decide)
  have HP := Lib.hid (fun (hm : mapB t = true) w' (hb : Below w.heap.size w w') => put_ok t vs w' (h.kept hb (Nat.le_refl _)) (hc hm))
  obtain ⟨k0, n0, s0, a3, n3, c3, a4, n4, c4, rfl⟩ := h.cells5
  have hX := BoxV.new (v0 := .int .u8 k0) (v1 := .int .u64 n0) (v2 := .string s0) (v3 := .slice a3 n3 c3) (v4 := .slice a4 n4 c4) w
  have hBX := below_boxV w (Obj.cells #[.int .u8 k0, .int .u64 n0, .string s0, .slice a3 n3 c3, .slice a4 n4 c4] 27)
  unfold appF
  cases hm : mapB t with
  | true =>
    rw [if_pos rfl]
    have HP2 := Lib.hid (HP.out hm)
    rw [hm] at HM
    have HB := Lib.hid (And.intro hX hBX)
    generalize bytesT t = E at *
    clear h ha hc hm hX hBX HP
    go_enter Try.func32, Try.ntmps32
    go_wp2_with fail
    refine (HM.out _ HB.out.2).mono ?_
    rintro e w1 ⟨rfl, hb1⟩
    have hX1 := HB.out.1.kept hb1 (Nat.le_refl _)
    have hB1 := HB.out.2.trans (hb1.mono HB.out.2.size)
    have x0 := hX1.c0
    have x1 := hX1.c1
    have x2 := hX1.c2
    have x3 := hX1.c3
    have x4 := hX1.c4
    have HB1 := Lib.hid hB1
    clear hX1 hB1
    go_wp2_with fail
    refine (HP2.out _ HB1.out).mono ?_
    rintro e w2 ⟨v, rfl, ho, hb2⟩
    go_wp2_with fail
    go_ret
    exact ⟨_, rfl, ho.mono HB1.out.size, HB1.out.trans (hb2.mono HB1.out.size)⟩
  | false =>
    rw [if_neg (by decide)]
    rw [hm] at HM
    have HB := Lib.hid (And.intro hX hBX)
    clear h ha hc hm hX hBX HP
    go_enter Try.func32, Try.ntmps32
    go_wp2_with fail
    refine (HM.out _ HB.out.2).mono ?_
    rintro e w1 ⟨rfl, hb1⟩
    go_wp2_with fail
    go_ret
    exact ⟨_, rfl, Own.nil_ _ _ _, HB.out.2.trans (hb1.mono HB.out.2.size)⟩

open Classical in
noncomputable def appB (t : Tree) : Bool := decide (appOK t)
theorem zero_shows (w : World) : ShowsT w prZ [.int .u8 (0 : Nat), .int .u64 (0 : Nat), .string ⟨#[]⟩, .slice none 0 0, .slice none 0 0] :=
  .mk (l := []) (d0 := 0) (d1 := 0) (fun _ => []) (by decide) (by decide) (ShowsG.nil_ _ _ _) (by simp) (by simp) (by decide) (by simp) (by simp) (by simp) (fun h => absurd h (by simp)) (fun j h => absurd h (by simp))
theorem check_beq (t : Tree) : ((checkT t : Int) == 0) = decide (checkT t = 0) := by
  rw [Bool.eq_iff_iff]
  simp only [beq_iff_eq, decide_eq_true_eq]
  omega
set_option maxRecDepth 100000 in
set_option maxHeartbeats 2000000 in
theorem isApp_any (t : Tree) (vs : List Value) (w : World) (h : ShowsT w t vs) (hc : cntT t ≤ 1000000) : Calls Try.prog 38 #[.agg vs.toArray] w fun e w' => e = .returned (.bool (appB t)) ∧ Below w.heap.size w w' := by
  have HM := Lib.hid (fun w' (hb : Below w.heap.size w w') => isMap_any t vs w' (h.kept hb (Nat.le_refl _)))
  have HC := Lib.hid (fun w' (hb : Below w.heap.size w w') => check_any t vs w' (h.kept hb (Nat.le_refl _)))
  have HS := Lib.hid (fun w' (hb : Below w.heap.size w w') => same_any t prZ vs _ w' (h.kept hb (Nat.le_refl _)) (zero_shows w') hc)
  have hfin : appB t = if mapB t = true then decide (checkT t = 0) else sameT t prZ := by
    unfold appB
    cases hm : mapB t with
    | true =>
      rw [if_pos rfl]
      have hk : t.k = 168 := by simpa [mapB] using hm
      have hz : t ≠ prZ := by rintro rfl; exact absurd hm (by decide)
      rw [Bool.eq_iff_iff]
      simp only [decide_eq_true_eq]
      constructor
      · rintro (⟨_, h⟩ | h)
        · exact h
        · exact absurd h hz
      · intro h; exact .inl ⟨hk, h⟩
    | false =>
      rw [if_neg (by decide)]
      have hk : t.k ≠ 168 := by simpa [mapB] using hm
      rw [Bool.eq_iff_iff, sameT_iff]
      simp only [decide_eq_true_eq]
      constructor
      · rintro (⟨h, _⟩ | h)
        · exact absurd h hk
        · exact h
      · intro h; exact .inr h
  rw [hfin]
  have hcb := check_beq t
  obtain ⟨k0, n0, s0, a3, n3, c3, a4, n4, c4, rfl⟩ := h.cells5
  have hX := BoxV.new (v0 := .int .u8 k0) (v1 := .int .u64 n0) (v2 := .string s0) (v3 := .slice a3 n3 c3) (v4 := .slice a4 n4 c4) w
  have hBX := below_boxV w (Obj.cells #[.int .u8 k0, .int .u64 n0, .string s0, .slice a3 n3 c3, .slice a4 n4 c4] 27)
  have HB := Lib.hid (And.intro hX hBX)
  generalize decide (checkT t = 0) = D at *
  generalize checkT t = C at *
  generalize sameT t prZ = S at *
  simp only [Int.cast_ofNat_Int] at HS
  have HCB := Lib.hid hcb
  clear h hc hfin hX hBX hcb
  cases hm : mapB t with
  | true =>
    rw [hm] at HM
    rw [if_pos rfl]
    clear hm
    go_enter Try.func38, Try.ntmps38
    go_wp2_with fail
    refine (HM.out _ HB.out.2).mono ?_
    rintro e w1 ⟨rfl, hb1⟩
    have hX1 := HB.out.1.kept hb1 (Nat.le_refl _)
    have HB1 := Lib.hid (HB.out.2.trans (hb1.mono HB.out.2.size))
    have x0 := hX1.c0
    have x1 := hX1.c1
    have x2 := hX1.c2
    have x3 := hX1.c3
    have x4 := hX1.c4
    clear hX1
    go_wp2_with fail
    refine (HC.out _ HB1.out).mono ?_
    rintro e w2 ⟨rfl, hb2⟩
    have hcb := HCB.out
    go_wp2_with fail
    go_ret
    exact ⟨by first | rfl | rw [HCB.out], HB1.out.trans (hb2.mono HB1.out.size)⟩
  | false =>
    rw [hm] at HM
    rw [if_neg (by decide)]
    clear hm
    go_enter Try.func38, Try.ntmps38
    go_wp2_with fail
    refine (HM.out _ HB.out.2).mono ?_
    rintro e w1 ⟨rfl, hb1⟩
    have hX1 := HB.out.1.kept hb1 (Nat.le_refl _)
    have HB1 := Lib.hid (HB.out.2.trans (hb1.mono HB.out.2.size))
    have x0 := hX1.c0
    have x1 := hX1.c1
    have x2 := hX1.c2
    have x3 := hX1.c3
    have x4 := hX1.c4
    clear hX1
    go_wp2_with fail
    refine (HS.out _ HB1.out).mono ?_
    rintro e w2 ⟨rfl, hb2⟩
    go_wp2_with fail
    go_ret
    exact ⟨rfl, HB1.out.trans (hb2.mono HB1.out.size)⟩

end Go.Proofs.Ytnafibnhmhbfiaa
