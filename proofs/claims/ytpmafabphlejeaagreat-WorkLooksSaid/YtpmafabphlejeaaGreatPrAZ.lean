/-
  Texts, together: PrA, PrB, PrC.
  Conditions: none but sizes.
-/
import Derived.Deep.QuietTactic
import Derived.BigQuiet
import Derived.Deep.RegionHeld3
import Derived.Test.YtpmafabphlejeaaGreatPrPZ
import Derived.Test.YtpmafabphlejeaaGreatValLZ
import Derived.Test.YtpmafabphlejeaaGreatValIZ
import Derived.Lib.AppendZeros
import Derived.Laws.BitsAllLaws
import Derived.Test.YtpmafabphlejeaaGreatMemZ
import Derived.Test.YtpmafabphlejeaaGreatBigZ
import Derived.Test.YtpmafabphlejeaaGreatOctAZ
/-
  Properties in memory; the contracts of the small functions of package props.
  Conditions: none but sizes.
-/
namespace Go.Proofs.YtpmafabphlejeaaGreat
open Go.RowKit
set_option linter.unusedVariables false
set_option linter.unusedSimpArgs false

/-- Nine cells in a block of the call's own. -/
def BoxPr (w : World) (b : Nat) (p : PropP) (v0 v1 v2 v3 v4 : Value) : Prop := w.heap[b]? = some (.cells #[.string p.key, .bool p.dur, .bool p.red, .string p.id, v0, v1, v2, v3, v4] 33 (0, 0))
section
variable {w w' : World} {b B : Nat} {p : PropP} {v0 v1 v2 v3 v4 : Value}
theorem BoxPr.new (w : World) : BoxPr (w.alloc (Obj.cells #[.string p.key, .bool p.dur, .bool p.red, .string p.id, v0, v1, v2, v3, v4] 33)) w.heap.size p v0 v1 v2 v3 v4 := heap_alloc_new w _
theorem BoxPr.lt (h : BoxPr w b p v0 v1 v2 v3 v4) : b < w.heap.size := (Array.getElem?_eq_some_iff.1 h).1
theorem BoxPr.kept (h : BoxPr w b p v0 v1 v2 v3 v4) (hb : Below B w w') (hB : w.heap.size ≤ B) : BoxPr w' b p v0 v1 v2 v3 v4 := (hb.block b (Nat.lt_of_lt_of_le h.lt hB)).trans h
theorem BoxPr.fr (h : BoxPr w b p v0 v1 v2 v3 v4) (i : Nat) : w.frozen? ⟨b, i, none⟩ = false := frozen_of_row w b i _ 33 h
theorem BoxPr.cells (h : BoxPr w b p v0 v1 v2 v3 v4) : (w.cell? ⟨b, 0, none⟩ = some (.string p.key) ∧ w.cell? ⟨b, 1, none⟩ = some (.bool p.dur) ∧ w.cell? ⟨b, 2, none⟩ = some (.bool p.red) ∧ w.cell? ⟨b, 3, none⟩ = some (.string p.id)) ∧
    (w.cell? ⟨b, 4, none⟩ = some v0 ∧ w.cell? ⟨b, 5, none⟩ = some v1 ∧ w.cell? ⟨b, 6, none⟩ = some v2 ∧ w.cell? ⟨b, 7, none⟩ = some v3 ∧ w.cell? ⟨b, 8, none⟩ = some v4) :=
  ⟨⟨cell_of_row w b 0 _ 33 (0, 0) h, cell_of_row w b 1 _ 33 (0, 0) h, cell_of_row w b 2 _ 33 (0, 0) h, cell_of_row w b 3 _ 33 (0, 0) h⟩,
    ⟨cell_of_row w b 4 _ 33 (0, 0) h, cell_of_row w b 5 _ 33 (0, 0) h, cell_of_row w b 6 _ 33 (0, 0) h, cell_of_row w b 7 _ 33 (0, 0) h, cell_of_row w b 8 _ 33 (0, 0) h⟩⟩
end
def propV (p : PropP) (v0 v1 v2 v3 v4 : Value) : Value := .agg #[.string p.key, .bool p.dur, .bool p.red, .string p.id, v0, v1, v2, v3, v4]
/-- Properties are shown. -/
structure ShowsP (w : World) (p : PropP) (v0 v1 v2 v3 v4 : Value) : Prop where
  key : p.key.size ≤ 140737488351232
  id : p.id.size ≤ 140737488351232
  app : ShowsT w p.app [v0, v1, v2, v3, v4]
theorem ShowsP.kept {w w' : World} {B : Nat} {p : PropP} {v0 v1 v2 v3 v4 : Value} (h : ShowsP w p v0 v1 v2 v3 v4) (hb : Below B w w') (hB : w.heap.size ≤ B) : ShowsP w' p v0 v1 v2 v3 v4 := ⟨h.key, h.id, h.app.kept hb hB⟩
theorem ShowsP.sub {w w' : World} {p : PropP} {v0 v1 v2 v3 v4 : Value} (h : ShowsP w p v0 v1 v2 v3 v4) (hs : Sub w w') : ShowsP w' p v0 v1 v2 v3 v4 := ⟨h.key, h.id, h.app.sub hs⟩

theorem pflag_any (b : Bool) (n : Nat) (w : World) : Calls Tryz.prog 137 #[.bool b, .int .u64 n] w fun e w' => e = .returned (.int .u64 ((if b = true then n else 0 : Nat) : Int)) ∧ w' = w := by
  cases b
  all_goals
    go_enter Tryz.func137, Tryz.ntmps137
    go_wp2_with fail
    go_ret
    exact ⟨rfl, rfl⟩

theorem mapB_eq (t : Tree) : ((t.k : Int) == 168) = mapB t := by
  unfold mapB
  rw [Bool.eq_iff_iff]
  simp only [beq_iff_eq, decide_eq_true_eq]
  omega
set_option maxHeartbeats 400000 in
theorem isMap_any (t : Tree) (vs : List Value) (w : World) (h : ShowsT w t vs) : Calls Tryz.prog 138 #[.agg vs.toArray] w fun e w' => e = .returned (.bool (mapB t)) ∧ Below w.heap.size w w' := by
  obtain ⟨kv, A, c, d0, d1, cs, rfl, _⟩ := h.open
  have hm := mapB_eq t
  generalize mapB t = M at *
  generalize t.k = k at *
  clear h
  go_enter Tryz.func138, Tryz.ntmps138
  go_wp2_with fail
  go_ret
  exact ⟨by first | rfl | rw [hm], below_boxV _ _⟩

theorem hasB_list (s : ByteArray) : s.toList.isEmpty = !hasB s := by
  rw [sb_toList]
  unfold hasB
  rw [← sb_length]
  cases sb s <;> simp

set_option maxRecDepth 100000 in
set_option maxHeartbeats 2000000 in
theorem ptext_any (s : ByteArray) (w : World) (h : s.size ≤ 255) : Calls Tryz.prog 121 #[.string s] w fun e w' => ∃ v, e = .returned v ∧ Own 5 w' w.heap.size v (txtF s) ∧ Below w.heap.size w w' := by
  have hl := hasB_list s
  have HP := Lib.hid (putText_any (.slice none 0 0) [] 0 1 s w (Shows.nil_ _ _) (by simp; omega) (by omega) (by omega))
  unfold txtF
  cases hb : hasB s with
  | true =>
    rw [hb] at hl
    have hl2 : s.toList.isEmpty = false := hl
    have hl3 : ¬ s.toList = [] := by intro e; rw [e] at hl2; cases hl2
    rw [if_pos rfl]
    simp only [List.nil_append] at HP
    generalize be 1 s.size ++ sb s = X at *
    clear hl hb
    go_enter Tryz.func121, Tryz.ntmps121
    go_wp2_with fail
    refine HP.out.mono ?_
    rintro e w1 ⟨v, rfl, ho, hb⟩
    go_wp2_with fail
    go_ret
    exact ⟨_, rfl, ho, hb⟩
  | false =>
    rw [hb] at hl
    have hl2 : s.toList.isEmpty = true := hl
    have hl3 : s.toList = [] := List.isEmpty_iff.1 hl2
    rw [if_neg (by decide)]
    clear hl hb HP
    go_enter Tryz.func121, Tryz.ntmps121
    go_wp2_with fail
    go_ret
    exact ⟨_, rfl, Own.nil_ _ _ _, Below.refl _ _⟩

set_option maxRecDepth 100000 in
set_option maxHeartbeats 2000000 in
theorem pvalues_any (t : Tree) (vs : List Value) (w : World) (h : ShowsT w t vs) (ha : appOK t) : Calls Tryz.prog 123 #[.agg vs.toArray] w fun e w' => ∃ v, e = .returned v ∧ Own 5 w' w.heap.size v (appF t) ∧ Below w.heap.size w w' := by
  have HM := Lib.hid (fun w' (hb : Below w.heap.size w w') => isMap_any t vs w' (h.kept hb (Nat.le_refl _)))
  have hc : mapB t = true → checkT t = 0 := fun hm => by
    rcases ha with ⟨_, hc⟩ | rfl
    · exact hc
    · exact absurd hm (by decide)
  have HP := Lib.hid (fun (hm : mapB t = true) w' (hb : Below w.heap.size w w') => put_ok t vs w' (h.kept hb (Nat.le_refl _)) (hc hm))
  obtain ⟨k0, n0, s0, a3, n3, c3, a4, n4, c4, rfl⟩ := h.cells5
  have hX := BoxV.new (v0 := .int .u8 k0) (v1 := .int .u64 n0) (v2 := .string s0) (v3 := .slice a3 n3 c3) (v4 := .slice a4 n4 c4) w
  have hBX := below_boxV w (Obj.cells #[.int .u8 k0, .int .u64 n0, .string s0, .slice a3 n3 c3, .slice a4 n4 c4] 31)
  unfold appF
  cases hm : mapB t with
  | true =>
    rw [if_pos rfl]
    have HP2 := Lib.hid (HP.out hm)
    rw [hm] at HM
    have HB := Lib.hid (And.intro hX hBX)
    generalize bytesT t = E at *
    clear h ha hc hm hX hBX HP
    go_enter Tryz.func123, Tryz.ntmps123
    go_wp2_with fail
    refine (HM.out _ HB.out.2).mono ?_
    rintro e w1 ⟨rfl, hb1⟩
    have hX1 := HB.out.1.kept hb1 (Nat.le_refl _)
    have hB1 := HB.out.2.trans (hb1.mono HB.out.2.size)
    have x0 := hX1.c0
    have x1 := hX1.c1
    have x2 := hX1.c2
    have x3 := hX1.c3
    have x4 := hX1.c4
    have HB1 := Lib.hid hB1
    clear hX1 hB1
    go_wp2_with fail
    refine (HP2.out _ HB1.out).mono ?_
    rintro e w2 ⟨v, rfl, ho, hb2⟩
    go_wp2_with fail
    go_ret
    exact ⟨_, rfl, ho.mono HB1.out.size, HB1.out.trans (hb2.mono HB1.out.size)⟩
  | false =>
    rw [if_neg (by decide)]
    rw [hm] at HM
    have HB := Lib.hid (And.intro hX hBX)
    clear h ha hc hm hX hBX HP
    go_enter Tryz.func123, Tryz.ntmps123
    go_wp2_with fail
    refine (HM.out _ HB.out.2).mono ?_
    rintro e w1 ⟨rfl, hb1⟩
    go_wp2_with fail
    go_ret
    exact ⟨_, rfl, Own.nil_ _ _ _, HB.out.2.trans (hb1.mono HB.out.2.size)⟩

open Classical in
noncomputable def appB (t : Tree) : Bool := decide (appOK t)
theorem zero_shows (w : World) : ShowsT w prZ [.int .u8 (0 : Nat), .int .u64 (0 : Nat), .string ⟨#[]⟩, .slice none 0 0, .slice none 0 0] :=
  .mk (l := []) (d0 := 0) (d1 := 0) (fun _ => []) (by decide) (by decide) (ShowsG.nil_ _ _ _) (by simp) (by simp) (by decide) (by simp) (by simp) (by simp) (fun h => absurd h (by simp)) (fun j h => absurd h (by simp))
theorem check_beq (t : Tree) : ((checkT t : Int) == 0) = decide (checkT t = 0) := by
  rw [Bool.eq_iff_iff]
  simp only [beq_iff_eq, decide_eq_true_eq]
  omega
set_option maxRecDepth 100000 in
set_option maxHeartbeats 2000000 in
theorem isApp_any (t : Tree) (vs : List Value) (w : World) (h : ShowsT w t vs) (hc : cntT t ≤ 1000000) : Calls Tryz.prog 132 #[.agg vs.toArray] w fun e w' => e = .returned (.bool (appB t)) ∧ Below w.heap.size w w' := by
  have HM := Lib.hid (fun w' (hb : Below w.heap.size w w') => isMap_any t vs w' (h.kept hb (Nat.le_refl _)))
  have HC := Lib.hid (fun w' (hb : Below w.heap.size w w') => check_any t vs w' (h.kept hb (Nat.le_refl _)))
  have HS := Lib.hid (fun w' (hb : Below w.heap.size w w') => same_any t prZ vs _ w' (h.kept hb (Nat.le_refl _)) (zero_shows w') hc)
  have hfin : appB t = if mapB t = true then decide (checkT t = 0) else sameT t prZ := by
    unfold appB
    cases hm : mapB t with
    | true =>
      rw [if_pos rfl]
      have hk : t.k = 168 := by simpa [mapB] using hm
      have hz : t ≠ prZ := by rintro rfl; exact absurd hm (by decide)
      rw [Bool.eq_iff_iff]
      simp only [decide_eq_true_eq]
      constructor
      · rintro (⟨_, h⟩ | h)
        · exact h
        · exact absurd h hz
      · intro h; exact .inl ⟨hk, h⟩
    | false =>
      rw [if_neg (by decide)]
      have hk : t.k ≠ 168 := by simpa [mapB] using hm
      rw [Bool.eq_iff_iff, sameT_iff]
      simp only [decide_eq_true_eq]
      constructor
      · rintro (⟨h, _⟩ | h)
        · exact absurd h hk
        · exact h
      · intro h; exact .inr h
  rw [hfin]
  have hcb := check_beq t
  obtain ⟨k0, n0, s0, a3, n3, c3, a4, n4, c4, rfl⟩ := h.cells5
  have hX := BoxV.new (v0 := .int .u8 k0) (v1 := .int .u64 n0) (v2 := .string s0) (v3 := .slice a3 n3 c3) (v4 := .slice a4 n4 c4) w
  have hBX := below_boxV w (Obj.cells #[.int .u8 k0, .int .u64 n0, .string s0, .slice a3 n3 c3, .slice a4 n4 c4] 31)
  have HB := Lib.hid (And.intro hX hBX)
  generalize decide (checkT t = 0) = D at *
  generalize checkT t = C at *
  generalize sameT t prZ = S at *
  simp only [Int.cast_ofNat_Int] at HS
  have HCB := Lib.hid hcb
  clear h hc hfin hX hBX hcb
  cases hm : mapB t with
  | true =>
    rw [hm] at HM
    rw [if_pos rfl]
    clear hm
    go_enter Tryz.func132, Tryz.ntmps132
    go_wp2_with fail
    refine (HM.out _ HB.out.2).mono ?_
    rintro e w1 ⟨rfl, hb1⟩
    have hX1 := HB.out.1.kept hb1 (Nat.le_refl _)
    have HB1 := Lib.hid (HB.out.2.trans (hb1.mono HB.out.2.size))
    have x0 := hX1.c0
    have x1 := hX1.c1
    have x2 := hX1.c2
    have x3 := hX1.c3
    have x4 := hX1.c4
    clear hX1
    go_wp2_with fail
    refine (HC.out _ HB1.out).mono ?_
    rintro e w2 ⟨rfl, hb2⟩
    have hcb := HCB.out
    go_wp2_with fail
    go_ret
    exact ⟨by first | rfl | rw [HCB.out], HB1.out.trans (hb2.mono HB1.out.size)⟩
  | false =>
    rw [hm] at HM
    rw [if_neg (by decide)]
    clear hm
    go_enter Tryz.func132, Tryz.ntmps132
    go_wp2_with fail
    refine (HM.out _ HB.out.2).mono ?_
    rintro e w1 ⟨rfl, hb1⟩
    have hX1 := HB.out.1.kept hb1 (Nat.le_refl _)
    have HB1 := Lib.hid (HB.out.2.trans (hb1.mono HB.out.2.size))
    have x0 := hX1.c0
    have x1 := hX1.c1
    have x2 := hX1.c2
    have x3 := hX1.c3
    have x4 := hX1.c4
    clear hX1
    go_wp2_with fail
    refine (HS.out _ HB1.out).mono ?_
    rintro e w2 ⟨rfl, hb2⟩
    go_wp2_with fail
    go_ret
    exact ⟨rfl, HB1.out.trans (hb2.mono HB1.out.size)⟩

end Go.Proofs.YtpmafabphlejeaaGreat
/-
  The contracts of props.firstFlags, secondFlags and Check.
  Conditions: none but sizes.
-/
namespace Go.Proofs.YtpmafabphlejeaaGreat
open Go.RowKit
set_option linter.unusedVariables false
set_option linter.unusedSimpArgs false

theorem pflag_int (b : Bool) (n : Int) (w : World) : Calls Tryz.prog 137 #[.bool b, .int .u64 n] w fun e w' => e = .returned (.int .u64 (if b = true then n else 0)) ∧ w' = w := by
  cases b
  all_goals
    go_enter Tryz.func137, Tryz.ntmps137
    go_wp2_with fail
    go_ret
    exact ⟨rfl, rfl⟩
theorem calls_far {f : Nat} {args : Array Value} {w w' : World} {r : Value} (H : Calls Tryz.prog f args w' fun e w'' => e = .returned r ∧ Below w'.heap.size w' w'') (hb : Below w.heap.size w w') :
    Calls Tryz.prog f args w' fun e w'' => e = .returned r ∧ Below w.heap.size w w'' ∧ Below w'.heap.size w' w'' :=
  H.mono fun e w'' h => ⟨h.1, hb.trans (h.2.mono hb.size), h.2⟩
theorem or_flA (d r k : Bool) : bits .or .u64 (bits .or .u64 (if d = true then (1 : Int) else 0) (if r = true then (2 : Int) else 0)) (if k = true then (4 : Int) else 0) = (flA d r k : Nat) := by
  cases d <;> cases r <;> cases k <;> decide +kernel
theorem or_flB (i m : Bool) : bits .or .u64 (if i = true then (1 : Int) else 0) (if m = true then (2 : Int) else 0) = (flB i m : Nat) := by
  cases i <;> cases m <;> decide +kernel
theorem hasB_yes {s : ByteArray} (h : hasB s = true) : s.toList.isEmpty = false ∧ ¬ s.toList = [] := by
  have hl := hasB_list s
  rw [h] at hl
  exact ⟨hl, by intro e; rw [e] at hl; cases hl⟩
theorem hasB_not {s : ByteArray} (h : hasB s = false) : s.toList.isEmpty = true ∧ s.toList = [] := by
  have hl := hasB_list s
  rw [h] at hl
  exact ⟨hl, List.isEmpty_iff.1 hl⟩

set_option maxRecDepth 100000 in
set_option maxHeartbeats 4000000 in
theorem firstFlags_any (p : PropP) (v0 v1 v2 v3 v4 : Value) (w : World) :
    Calls Tryz.prog 120 #[propV p v0 v1 v2 v3 v4] w fun e w' => e = .returned (.int .u64 (fA p)) ∧ Below w.heap.size w w' := by
  obtain ⟨key, dur, red, id, app⟩ := p
  unfold propV fA
  simp only []
  have hl := hasB_list key
  have hor := or_flA dur red (hasB key)
  generalize flA dur red (hasB key) = F at *
  obtain ⟨kn, hkn⟩ : ∃ kn : Bool, kn = !hasB key := ⟨_, rfl⟩
  have hk2 : hasB key = !kn := by rw [hkn]; simp
  rw [← hkn] at hl
  rw [hk2] at hor
  have H1 := Lib.hid (fun w => pflag_int dur 1 w)
  have H2 := Lib.hid (fun w => pflag_int red 2 w)
  have H4 := Lib.hid (fun w => pflag_int (!kn) 4 w)
  generalize (if dur = true then (1 : Int) else 0) = f1 at *
  generalize (if red = true then (2 : Int) else 0) = f2 at *
  generalize (if (!kn) = true then (4 : Int) else 0) = f4 at *
  have HO := Lib.hid hor
  clear hkn hk2 hor
  go_enter Tryz.func120, Tryz.ntmps120
  go_wp2_with fail
  go_quiet (first | (go_at_call 137; with_reducible exact Calls.quiet_of_same (H1.out _)) | (go_at_call 137; with_reducible exact Calls.quiet_of_same (H2.out _)) | (go_at_call 137; with_reducible exact Calls.quiet_of_same (H4.out _)))
  go_wp2_with fail
  go_ret
  exact ⟨by rw [← HO.out]; rfl, below_drewN (below_boxV _ _) _⟩

set_option maxRecDepth 100000 in
set_option maxHeartbeats 4000000 in
theorem secondFlags_any (p : PropP) (v0 v1 v2 v3 v4 : Value) (w : World) (h : ShowsT w p.app [v0, v1, v2, v3, v4]) :
    Calls Tryz.prog 122 #[propV p v0 v1 v2 v3 v4] w fun e w' => e = .returned (.int .u64 (fB p)) ∧ Below w.heap.size w w' := by
  obtain ⟨key, dur, red, id, app⟩ := p
  unfold propV fB
  simp only [] at h ⊢
  have hl := hasB_list id
  have hor := or_flB (hasB id) (mapB app)
  generalize flB (hasB id) (mapB app) = F at *
  obtain ⟨kn, hkn⟩ : ∃ kn : Bool, kn = !hasB id := ⟨_, rfl⟩
  have hk2 : hasB id = !kn := by rw [hkn]; simp
  rw [← hkn] at hl
  rw [hk2] at hor
  have H1 := Lib.hid (fun w => pflag_int (!kn) 1 w)
  have H2 := Lib.hid (fun w => pflag_int (mapB app) 2 w)
  obtain ⟨k0, n0, s0, a3, n3, c3, a4, n4, c4, hvs⟩ := h.cells5
  simp only [List.cons.injEq, and_true] at hvs
  obtain ⟨rfl, rfl, rfl, rfl, rfl⟩ := hvs
  have hX := BoxPr.new (p := ⟨key, dur, red, id, app⟩) (v0 := .int .u8 k0) (v1 := .int .u64 n0) (v2 := .string s0) (v3 := .slice a3 n3 c3) (v4 := .slice a4 n4 c4) w
  have hbX := below_boxV w (Obj.cells #[.string key, .bool dur, .bool red, .string id, .int .u8 k0, .int .u64 n0, .string s0, .slice a3 n3 c3, .slice a4 n4 c4] 33)
  simp only [] at hX
  have HM := Lib.hid (fun w' (hb : Below w.heap.size w w') => calls_far (isMap_any app _ w' (h.kept hb (Nat.le_refl _))) hb)
  generalize mapB app = M at *
  generalize (if (!kn) = true then (1 : Int) else 0) = f1 at *
  generalize (if M = true then (2 : Int) else 0) = f2 at *
  have HO := Lib.hid hor
  have hd := below_drew1 hbX
  obtain ⟨⟨_, _, _, c3'⟩, c4', c5', c6', c7', c8'⟩ := hX.cells
  simp only [] at c3'
  have HKEEP := Lib.hid (fun w' (hb : Below (w.heap.size + 1) (w.alloc (Obj.cells #[.string key, .bool dur, .bool red, .string id, .int .u8 k0, .int .u64 n0, .string s0, .slice a3 n3 c3, .slice a4 n4 c4] 33)) w') =>
    (show w'.cell? ⟨w.heap.size, 3, none⟩ = some (.string id) ∧ w'.cell? ⟨w.heap.size, 4, none⟩ = some (.int .u8 k0) ∧ w'.cell? ⟨w.heap.size, 5, none⟩ = some (.int .u64 n0) ∧ w'.cell? ⟨w.heap.size, 6, none⟩ = some (.string s0) ∧ w'.cell? ⟨w.heap.size, 7, none⟩ = some (.slice a3 n3 c3) ∧ w'.cell? ⟨w.heap.size, 8, none⟩ = some (.slice a4 n4 c4) by
      have hX' := (hX.kept (B := w.heap.size + 1) hb (by simp)).cells
      obtain ⟨⟨_, _, _, c3'⟩, c4', c5', c6', c7', c8'⟩ := hX'
      exact ⟨c3', c4', c5', c6', c7', c8'⟩))
  have hk0 : Below (w.heap.size + 1) (w.alloc (Obj.cells #[.string key, .bool dur, .bool red, .string id, .int .u8 k0, .int .u64 n0, .string s0, .slice a3 n3 c3, .slice a4 n4 c4] 33)) (w.alloc (Obj.cells #[.string key, .bool dur, .bool red, .string id, .int .u8 k0, .int .u64 n0, .string s0, .slice a3 n3 c3, .slice a4 n4 c4] 33)).drew := below_drew1 (Below.refl _ _)
  have HTR := Lib.hid (fun w' w'' (h1 : Below (w.heap.size + 1) (w.alloc (Obj.cells #[.string key, .bool dur, .bool red, .string id, .int .u8 k0, .int .u64 n0, .string s0, .slice a3 n3 c3, .slice a4 n4 c4] 33)) w') (h2 : Below w'.heap.size w' w'') => (show Below (w.heap.size + 1) (w.alloc (Obj.cells #[.string key, .bool dur, .bool red, .string id, .int .u8 k0, .int .u64 n0, .string s0, .slice a3 n3 c3, .slice a4 n4 c4] 33)) w'' from h1.trans (h2.mono (by have := h1.size; simpa using this))))
  clear hkn hk2 hor hX h
  go_enter Tryz.func122, Tryz.ntmps122
  go_wp2_with fail
  go_region_held3 (fun w' => w'.cell? ⟨w.heap.size, 3, none⟩ = some (.string id) ∧ w'.cell? ⟨w.heap.size, 4, none⟩ = some (.int .u8 k0) ∧ w'.cell? ⟨w.heap.size, 5, none⟩ = some (.int .u64 n0) ∧ w'.cell? ⟨w.heap.size, 6, none⟩ = some (.string s0) ∧ w'.cell? ⟨w.heap.size, 7, none⟩ = some (.slice a3 n3 c3) ∧ w'.cell? ⟨w.heap.size, 8, none⟩ = some (.slice a4 n4 c4)) (exact HKEEP.out _ (by assumption))
    (first
      | (go_at_call 137; with_reducible refine (H1.out _).mono ?_; rintro e5 w5 ⟨rfl, rfl⟩)
      | (go_at_call 137; with_reducible refine (H2.out _).mono ?_; rintro e5 w5 ⟨rfl, rfl⟩)
      | (go_at_call 138; refine (HM.out _ (by assumption)).mono ?_; rintro e6 w6 ⟨rfl, hb6, hb7⟩; have hk6 := HTR.out _ _ (by assumption) hb7))
  all_goals
    go_wp2_with fail
    go_ret
    exact ⟨by rw [← HO.out]; rfl, by assumption⟩

open Classical in
noncomputable def errP (p : PropP) : Nat := if validPr p then 0 else 90
theorem errP_ok {p : PropP} (h : validPr p) : errP p = 0 := if_pos h
theorem errP_no {p : PropP} (h : ¬ validPr p) : errP p = 90 := if_neg h

set_option maxRecDepth 100000 in
set_option maxHeartbeats 4000000 in
theorem pcheck_any (p : PropP) (v0 v1 v2 v3 v4 : Value) (w : World) (h : ShowsP w p v0 v1 v2 v3 v4) (hc : cntT p.app ≤ 1000000) :
    Calls Tryz.prog 115 #[propV p v0 v1 v2 v3 v4] w fun e w' => e = .returned (.int .i64 (errP p)) ∧ Below w.heap.size w w' := by
  obtain ⟨key, dur, red, id, app⟩ := p
  obtain ⟨hz1, hz2, hT⟩ := h
  simp only [] at hz1 hz2 hT hc
  have HA := Lib.hid (fun w' (hb : Below w.heap.size w w') => isApp_any app _ w' (hT.kept hb (Nat.le_refl _)) hc)
  have hb0 := below_boxV w (Obj.cells #[.string key, .bool dur, .bool red, .string id, v0, v1, v2, v3, v4] 33)
  have hX := BoxPr.new (p := ⟨key, dur, red, id, app⟩) (v0 := v0) (v1 := v1) (v2 := v2) (v3 := v3) (v4 := v4) w
  obtain ⟨⟨c0, _, _, c3⟩, c4, c5, c6, c7, c8⟩ := hX.cells
  simp only [] at c0 c3
  obtain ⟨R, hR⟩ : ∃ R, R = errP ⟨key, dur, red, id, app⟩ := ⟨_, rfl⟩
  rw [← hR]
  have HB := Lib.hid hb0
  unfold propV
  simp only []
  by_cases h1 : key.size ≤ 255
  · by_cases h2 : id.size ≤ 255
    · have t1 : decide (255 < (key.size : Int)) = false := by simp; omega
      have t2 : decide (255 < (id.size : Int)) = false := by simp; omega
      obtain ⟨k0, n0, s0, a3, n3, c3', a4, n4, c4', hvs⟩ := hT.cells5
      simp only [List.cons.injEq, and_true] at hvs
      obtain ⟨rfl, rfl, rfl, rfl, rfl⟩ := hvs
      cases hap : appB app with
      | true =>
        have HF : Hid (R = 0) := Lib.hid (by rw [hR]; exact errP_ok ⟨h1, h2, by simpa [appB] using hap⟩)
        rw [hap] at HA
        clear hap hR hT hb0 hX hc
        go_enter Tryz.func115, Tryz.ntmps115
        go_wp2_with fail
        refine (HA.out _ HB.out).mono ?_
        rintro e w1 ⟨rfl, hb1⟩
        go_wp2_with fail
        go_ret
        exact ⟨by rw [HF.out]; rfl, HB.out.trans (hb1.mono HB.out.size)⟩
      | false =>
        have hnv : ¬ validPr ⟨key, dur, red, id, app⟩ := by
          intro hv
          have h3 : appB app = true := by simpa [appB] using hv.2.2
          rw [hap] at h3
          cases h3
        have HF : Hid (R = 90) := Lib.hid (by rw [hR]; exact errP_no hnv)
        rw [hap] at HA
        clear hap hR hT hb0 hX hc hnv
        go_enter Tryz.func115, Tryz.ntmps115
        go_wp2_with fail
        refine (HA.out _ HB.out).mono ?_
        rintro e w1 ⟨rfl, hb1⟩
        go_wp2_with fail
        go_ret
        exact ⟨by rw [HF.out]; rfl, HB.out.trans (hb1.mono HB.out.size)⟩
    · have t1 : decide (255 < (key.size : Int)) = false := by simp; omega
      have t2 : decide (255 < (id.size : Int)) = true := by simp; omega
      have HF : Hid (R = 90) := Lib.hid (by rw [hR]; exact errP_no fun hv => h2 hv.2.1)
      clear hR hT hb0 hX hc
      go_enter Tryz.func115, Tryz.ntmps115
      go_wp2_with fail
      go_ret
      exact ⟨by rw [HF.out]; rfl, HB.out⟩
  · have t1 : decide (255 < (key.size : Int)) = true := by simp; omega
    have HF : Hid (R = 90) := Lib.hid (by rw [hR]; exact errP_no fun hv => h1 hv.1)
    clear hR hT hb0 hX hc
    go_enter Tryz.func115, Tryz.ntmps115
    go_wp2_with fail
    go_ret
    exact ⟨by rw [HF.out]; rfl, HB.out⟩

end Go.Proofs.YtpmafabphlejeaaGreat
/-
  The contracts of slices.Grow at the nil slice and of slices.Concat, for bytes.
  Conditions: at most 2^40 bytes.
-/
namespace Go.Proofs.YtpmafabphlejeaaGreat
open Go.RowKit
set_option linter.unusedVariables false
set_option linter.unusedSimpArgs false

theorem info8 : (Tryz.prog.info? 5).map (fun i => (i.zero, i.size, i.bytes)) = some (some (.int .u8 0), 1, 1) := by kernel_rfl
set_option maxRecDepth 100000 in
set_option maxHeartbeats 800000 in
theorem grow8_nil (m : Nat) (w : World) (hm : m ≤ 1099511627776) :
    Calls Tryz.prog 135 #[.slice none 0 0, .int .i64 m] w fun e w' => ∃ v, e = .returned v ∧ Own 5 w' w.heap.size v [] ∧ Below w.heap.size w w' := by
  have h1 : ¬ ((m : Int) < 0) := by omega
  by_cases h0 : m = 0
  · subst h0
    go_enter Tryz.func135, Tryz.ntmps135
    go_wp2_with fail
    go_ret
    exact ⟨_, rfl, Own.nil_ _ _ _, Below.refl _ _⟩
  · obtain ⟨i, hi0, hz, hs1, hb1⟩ := info_parts info8
    have hrz : ∀ ty, (Builtin.append_ #[133, 3] ty #[.slice none 0 0, .int .i64 (m : Int)]).run Tryz.prog w = .ok (.slice (some ⟨w.heap.size, 0, none⟩) m (grownCap w m 0 5)) (w.drew.alloc (.cells (Builtin.zeroCells (Value.int .u8 0).cells m ++ Builtin.zeroCells (Value.int .u8 0).cells (grownCap w m 0 5 - m)) 5)) := fun ty =>
      Lib.run_append_nil_zeros w 133 3 ty 5 i _ .i64 .i64 Tryz.underlying133 Tryz.underlying3 hi0 hz m (by omega) (by rw [hs1]; decide) (by omega) (by rw [hb1]; omega)
    have hG1 : m ≤ grownCap w m 0 5 := grownCap_ge w _ _ _
    have hG2 := grownCap_le_maxLen w m 0 5 (by unfold maxLen; omega)
    generalize grownCap w m 0 5 = G at *
    have hp : (0 : Int) < (m : Int) := by omega
    have HM := Lib.hid hG2
    clear hG2
    go_enter Tryz.func135, Tryz.ntmps135
    go_wp2_with (at_builtin; refine Lib.wpList_append_run _ rfl _ _ _ _ rfl _ _ rfl rfl _ _ (hrz _) ?_)
    all_goals
      go_ret
      exact ⟨_, rfl, World.ownsRow_made _ _ G (Nat.le_refl _) HM.out (by rw [Array.size_append, size_zeroCells, size_zeroCells, ← Nat.add_mul, show m + (G - m) = G by omega]; rfl), ((Below.refl _ _).drew).alloc (Nat.le_refl _) _⟩

/-- A slice as it lies in a slice of slices: its address, its capacity, the block where it shows its list, the list. -/
abbrev Part8 := Option Addr × Nat × Nat × List UInt8
def partC8 : Code Part8 := { enc := fun p => [.slice p.1 p.2.2.2.length p.2.1], sz := 1, len := fun _ => rfl, one := fun x u hu => by simp at hu; subst hu; rfl, pos := by omega }
def cat8 (ps : List Part8) : List UInt8 := ps.flatMap fun p => p.2.2.2
theorem cat8_take (ps : List Part8) (k : Nat) (h : k < ps.length) : cat8 (ps.take (k + 1)) = cat8 (ps.take k) ++ ps[k].2.2.2 := by
  unfold cat8
  rw [List.take_succ_eq_append_getElem h, List.flatMap_append]
  simp
theorem cat8_take_le (ps : List Part8) (k : Nat) : (cat8 (ps.take k)).length ≤ (cat8 ps).length := by
  have : cat8 ps = cat8 (ps.take k) ++ cat8 (ps.drop k) := by
    unfold cat8
    rw [← List.flatMap_append, List.take_append_drop]
  rw [this, List.length_append]
  omega

set_option maxRecDepth 100000 in
set_option maxHeartbeats 1600000 in
theorem concat8_any (A : Option Addr) (c n D : Nat) (ps : List Part8) (w : World) (hn : ps.length = n) (hl : ShowsG partC8 w D (.slice A n c) ps) (hp : ∀ p ∈ ps, Shows w p.2.2.1 (.slice p.1 p.2.2.2.length p.2.1) p.2.2.2) (hb : (cat8 ps).length ≤ 1099511627776) :
    Calls Tryz.prog 118 #[.slice A n c] w fun e w' => ∃ v, e = .returned v ∧ Own 5 w' w.heap.size v (cat8 ps) ∧ Below w.heap.size w w' := by
  subst hn
  have HP := Lib.hid hp
  clear hp
  have hn63 : (ps.length : Int) ≤ 9223372036854775807 := by
    obtain ⟨_, _, h⟩ := hl.lens
    have : ps.length ≤ maxLen := by omega
    unfold maxLen at this
    omega
  go_enter Tryz.func118, Tryz.ntmps118
  go_wp2_with fail
  go_loop [3, 11] (fun s i => ∃ k : Nat, k ≤ ps.length ∧ i = .int .i64 k ∧ s = .int .i64 ((cat8 (ps.take k)).length : Nat)) (fun _ i => ps.length - (intOf i).toNat)
  case atStart => exact ⟨0, Nat.zero_le _, rfl, rfl⟩
  case round =>
    obtain ⟨k, hk, rfl, rfl⟩ := hrel
    by_cases hlt : k < ps.length
    · obtain ⟨o, rfl, _, hcl⟩ := hl.at_ (by omega)
      have cc : w.cell? ⟨D, o + k, none⟩ = some (.slice ps[k].1 ps[k].2.2.2.length ps[k].2.1) := by simpa [partC8] using hcl k hlt 0 (by decide)
      have h1 := cat8_take_le ps (k + 1)
      have h2 := cat8_take ps k hlt
      have h3 := congrArg List.length h2
      rw [List.length_append] at h3
      have HT := Lib.hid h3
      generalize (cat8 (ps.take k)).length = s at *
      generalize ps[k].2.2.2.length = m at *
      generalize ps[k].1 = A1 at *
      generalize ps[k].2.1 = c1 at *
      have hsm : s + m ≤ 1099511627776 := by omega
      have hneg : ¬ ((s : Int) + (m : Int) < 0) := by omega
      clear h1 h2 h3 hcl hl
      go_wp2_with fail
      go_round
      case rel => exact ⟨k + 1, by omega, by go_num, by rw [HT.out]; go_num⟩
      case measure => simp [intOf]; omega
    · rw [List.take_of_length_le (by omega)]
      have hgr := Lib.hid (fun w' => grow8_nil (cat8 ps).length w' (by omega))
      go_wp2_with (go_at_call 135; refine (hgr.out _).mono ?_; rintro e w1 ⟨v, rfl, ho, hb1⟩)
      go_loopw [6, 27] (fun s i wr => ∃ k : Nat, k ≤ ps.length ∧ i = .int .i64 k ∧ Own 5 wr w.heap.size s (cat8 (ps.take k)) ∧ Below w.heap.size w wr) (fun _ i _ => ps.length - (intOf i).toNat)
      case atStart => exact ⟨0, Nat.zero_le _, rfl, ho, hb1⟩
      case round =>
        rename World => x
        obtain ⟨k, hk, rfl, ho, hbw⟩ := hrel
        by_cases hlt : k < ps.length
        · obtain ⟨o, rfl, _, hcl⟩ := (hl.below' hbw (Nat.le_refl _)).at_ (by omega)
          have cc : x.cell? ⟨D, o + k, none⟩ = some (.slice ps[k].1 ps[k].2.2.2.length ps[k].2.1) := by simpa [partC8] using hcl k hlt 0 (by decide)
          have h1 := cat8_take_le ps (k + 1)
          have h2 := cat8_take ps k hlt
          rw [h2, List.length_append] at h1
          have HT := Lib.hid h2
          have hsh0 := HP.out ps[k] (List.getElem_mem hlt)
          have hsh := Lib.hid (hsh0.keep hbw.size (fun hp => hbw.block _ (hsh0.lt hp)))
          generalize ps[k].2.2.2 = m at *
          generalize ps[k].2.2.1 = d1 at *
          generalize ps[k].1 = A1 at *
          generalize ps[k].2.1 = c1 at *
          have hx := hbw.size
          clear h2 hcl hsh0
          go_wp2_with (at_builtin
                       refine wpList_append8 _ rfl (.tmp 31) (.tmp 32) 133 rfl w.heap.size 5 Tryz.underlying133 info8 _ _ rfl ho d1 _ m rfl hsh.out (by omega) hx ?_
                       intro v4 w4 ho4 hg4)
          go_roundw
          case rel => exact ⟨k + 1, by omega, by go_num, by rw [HT.out]; exact ho4, hbw.grown hg4 hx (fun q hq => (ho.block q hq).1)⟩
          case measure => simp [intOf]; omega
        · rw [List.take_of_length_le (by omega)] at ho
          go_wp2_with fail
          go_ret
          exact ⟨_, rfl, ho, hbw⟩

end Go.Proofs.YtpmafabphlejeaaGreat
