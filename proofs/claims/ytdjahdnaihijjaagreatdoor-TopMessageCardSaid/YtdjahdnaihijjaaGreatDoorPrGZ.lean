/-
  Texts, together: PrG, PrH.
  Conditions: none but sizes.
-/
import Derived.Lib.ConvBytes
import Derived.Laws.BitsAllLaws
import Derived.Test.YtdjahdnaihijjaaGreatDoorPrAZ
import Derived.Test.YtdjahdnaihijjaaGreatDoorValGZ
import Derived.Test.YtdjahdnaihijjaaGreatDoorOctAZ
import Derived.Deep.RegionHeld3
import Derived.Test.YtdjahdnaihijjaaGreatDoorValIZ
/-
  The contracts of props.next, of a part's has, text and values, of decoded and of Get.
  Conditions: none but sizes.
-/
namespace Go.Proofs.YtdjahdnaihijjaaGreatDoor
open Go.RowKit
set_option linter.unusedVariables false
set_option linter.unusedSimpArgs false

/-- '[]byte(s)'. -/
theorem conv_tobytes (w : World) (s : ByteArray) (hs : s.size ≤ 140737488355328) : ∃ v w', (convert 9 47 (.string s)).run Tryz.prog w = .ok v w' ∧ Shows w' w.heap.size v (sb s) ∧ Below w.heap.size w w' := by
  refine ⟨_, _, Lib.run_convert_string_bytes w 9 47 5 s Tryz.underlying9 Tryz.underlying47 Tryz.underlying5, ?_, ?_⟩
  · refine ⟨_, _, by rw [sb_length], by rw [sb_length]; exact grownCap_ge _ _ _ _, grownCap_le_maxLen _ _ _ _ (by simp only [maxLen]; omega), fun hp => ⟨0, rfl, by rw [Lib.bytesWorld_size]; omega, fun j hj => ?_⟩⟩
    rw [Nat.zero_add, Lib.bytesWorld_cell _ _ _ _ (by rw [← sb_length]; exact hj)]
    have : s.data.toList = sb s := rfl
    rw [this]
    simp [u8c, List.getD, hj]
  · exact ⟨rfl, rfl, rfl, by rw [Lib.bytesWorld_size]; omega, fun k hk => Lib.bytesWorld_at_old w _ s k hk⟩

/-- A part that is read: its reader and its flags. -/
def partV (g f : Nat) : Value := .agg #[.pointer (some ⟨g, 0, none⟩), .int .u64 f]
def bitB (f b : Nat) : Bool := decide (f &&& b ≠ 0)
theorem and_neq (f b : Nat) (hf : f < 65536) (hb : b < 65536) : (bits .and .u64 (f : Int) (b : Int) != 0) = bitB f b := by
  rw [u64_and_nat f b (by omega) (by omega)]
  unfold bitB
  rw [Bool.eq_iff_iff]
  simp only [bne_iff_ne, decide_eq_true_eq, ne_eq]
  omega
theorem grown_of_below {w w' : World} {r : Option Nat} (h : Below w.heap.size w w') : w.grownBy w' r := ⟨h.os, h.tape, h.output, h.size, fun k hk _ => h.block k hk⟩
theorem RS.below {w w' : World} {g d : Nat} {s : St} (h : RS w g d s) (hb : Below w.heap.size w w') : RS w' g d s := h.keep hb.size (hb.block g h.lt) (fun hd => hb.block d hd)
theorem RS.below' {w w' : World} {g d B : Nat} {s : St} (h : RS w g d s) (hb : Below B w w') (hB : w.heap.size ≤ B) : RS w' g d s := h.keep hb.size (hb.block g (Nat.lt_of_lt_of_le h.lt hB)) (fun hd => hb.block d (Nat.lt_of_lt_of_le hd hB))

set_option maxRecDepth 100000 in
set_option maxHeartbeats 1000000 in
theorem phas_any (g f b : Nat) (B : Int) (w : World) (hf : f < 65536) (hb : b < 65536) (hB : B = (b : Int)) :
    Calls Tryz.prog 62 #[partV g f, .int .u64 B] w fun e w' => e = .returned (.bool (bitB f b)) ∧ Below w.heap.size w w' := by
  subst hB
  have t := and_neq f b hf hb
  generalize bitB f b = D at *
  unfold partV
  go_enter Tryz.func62, Tryz.ntmps62
  go_wp2_with fail
  go_ret
  exact ⟨by first | rfl | rw [t], below_boxV _ _⟩

/-- Two cells in a block of the call's own. -/
theorem box2_cells (w : World) (x y : Value) (t : TypeId) : (w.alloc (Obj.cells #[x, y] t)).cell? ⟨w.heap.size, 0, none⟩ = some x ∧ (w.alloc (Obj.cells #[x, y] t)).cell? ⟨w.heap.size, 1, none⟩ = some y := by
  have h := heap_alloc_new w (Obj.cells #[x, y] t)
  exact ⟨by rw [cell_of_row _ _ 0 _ t (0, 0) h]; rfl, by rw [cell_of_row _ _ 1 _ t (0, 0) h]; rfl⟩
theorem cell_below {w w' : World} {k i : Nat} {v : Value} (h : w.cell? ⟨k, i, none⟩ = some v) (hb : Below w.heap.size w w') : w'.cell? ⟨k, i, none⟩ = some v := by
  have hk : k < w.heap.size := by
    by_cases hk : k < w.heap.size
    · exact hk
    · have e : w.heap[k]? = none := Array.getElem?_eq_none (by omega)
      simp [World.cell?, e] at h
  rw [← h]
  exact World.cell?_of_block (w := w) (hb.block k hk)

set_option maxRecDepth 100000 in
set_option maxHeartbeats 2000000 in
theorem ptextR_any (g d f b : Nat) (B : Int) (s : St) (w : World) (h : RS w g d s) (hl : lenS s ≤ 140737488355328) (hf : f < 65536) (hb : b < 65536) (hB : B = (b : Int)) :
    Calls Tryz.prog 63 #[partV g f, .int .u64 B] w fun e w' => e = .returned (.string (str8 (txtR f b s).1)) ∧ RS w' g d (txtR f b s).2 ∧ w.grownBy w' (some g) := by
  have HH := Lib.hid (fun w => phas_any g f b B w hf hb hB)
  have HB := Lib.hid (below_boxV w (Obj.cells #[.pointer (some ⟨g, 0, none⟩), .int .u64 f] 126))
  obtain ⟨x0, x1⟩ := box2_cells w (.pointer (some ⟨g, 0, none⟩)) (.int .u64 f) 126
  have HX := Lib.hid x0
  have HR := Lib.hid (fun w' (hb : Below w.heap.size w w') => h.below hb)
  have HT := Lib.hid (fun w' (h : RS w' g d s) => text_any g d s 1 255 w' h hl (by omega) (by omega))
  have he : txtR f b s = if bitB f b = true then textS 1 255 s else ([], s) := by
    unfold txtR bitB
    by_cases hz : f &&& b ≠ 0
    · rw [if_pos hz, if_pos (decide_eq_true hz)]
    · rw [if_neg hz, if_neg (by simp only [decide_eq_true_eq]; exact hz)]
  rw [he]
  clear he h hB
  generalize textS 1 255 s = X at *
  unfold partV at HH ⊢
  cases hD : bitB f b with
  | true =>
    rw [hD] at HH
    rw [if_pos rfl]
    clear hD
    go_enter Tryz.func63, Tryz.ntmps63
    go_wp2_with fail
    refine (HH.out _).mono ?_
    rintro e w1 ⟨rfl, hb1⟩
    have hb01 := HB.out.trans (hb1.mono HB.out.size)
    have y0 := cell_below HX.out hb1
    have HT1 := Lib.hid (HT.out w1 (HR.out w1 hb01))
    have HB1 := Lib.hid hb01
    clear x0 x1 hb1 hb01
    go_wp2_with fail
    refine HT1.out.mono ?_
    rintro e w2 ⟨rfl, hr2, hg2⟩
    go_wp2_with fail
    go_ret
    exact ⟨rfl, hr2, grown_trans' (grown_of_below HB1.out) hg2⟩
  | false =>
    rw [hD] at HH
    rw [if_neg (by decide)]
    clear hD
    go_enter Tryz.func63, Tryz.ntmps63
    go_wp2_with fail
    refine (HH.out _).mono ?_
    rintro e w1 ⟨rfl, hb1⟩
    have hb01 := HB.out.trans (hb1.mono HB.out.size)
    go_wp2_with fail
    go_ret
    exact ⟨rfl, HR.out _ hb01, grown_of_below hb01⟩

theorem nextPr_flag (s : St) : (nextPr s).1.1 < 65536 := by
  have := numOf_lt (takeS 2 (numS 2 (some (textS 4 (lenS s) s).1)).2).1
  have hl := takeS_len 2 (numS 2 (some (textS 4 (lenS s) s).1)).2
  have : numOf (takeS 2 (numS 2 (some (textS 4 (lenS s) s).1)).2).1 < 65536 := by
    refine Nat.lt_of_lt_of_le this ?_
    exact Nat.le_trans (Nat.pow_le_pow_right (by decide) (show _ ≤ 2 by omega)) (by decide)
  exact this
/-- What next tells: the part's flags, what is left in it, and what is left behind it. -/
def NextSaid (g d : Nat) (s : St) (w : World) (e : Ending) (w' : World) : Prop :=
  ∃ g' d', e = .returned (partV g' (nextPr s).1.1) ∧ RS w' g' d' (nextPr s).1.2 ∧ RS w' g d (nextPr s).2 ∧ w.heap.size ≤ g' ∧ (w.heap.size ≤ d' ∧ d' ≤ g') ∧ w.grownBy w' (some g)

theorem RS.grown {w w' : World} {g d k : Nat} {s : St} (h : RS w g d s) (hg : w.grownBy w' (some k)) (h1 : g ≠ k) (h2 : d ≠ k) : RS w' g d s :=
  h.keep hg.size (hg.block g h.lt (fun e => h1 (Option.some.inj e))) (fun hd => hg.block d hd (fun e => h2 (Option.some.inj e)))
theorem RS.set {w : World} {g d k : Nat} {s : St} (h : RS w g d s) (h1 : g ≠ k) (h2 : d ≠ k) (i : Nat) (u : Value) : RS (w.setCell ⟨k, i, none⟩ u) g d s :=
  h.keep (by simp) (Below.heap_setCell _ _ _ _ (by show g ≠ k; exact h1)) (fun _ => Below.heap_setCell _ _ _ _ (by show d ≠ k; exact h2))
theorem left_at (g d : Nat) (s : St) (w : World) (h : RS w g d s) : Calls Tryz.prog 60 #[.pointer (some ⟨g, 0, none⟩)] w fun e w' => e = .returned (.int .i64 (lenS s)) ∧ w' = w := by
  cases s with
  | none => exact (left_none g d w h).mono fun e w' he => ⟨he.1, he.2.symm⟩
  | some l => exact (left_some g d l w h).mono fun e w' he => ⟨he.1, he.2.symm⟩
theorem cell_grown {w w' : World} {k i g : Nat} {v : Value} (h : w.cell? ⟨k, i, none⟩ = some v) (hg : w.grownBy w' (some g)) (hk : k ≠ g) : w'.cell? ⟨k, i, none⟩ = some v := by
  have hlt : k < w.heap.size := by
    by_cases hk : k < w.heap.size
    · exact hk
    · have e : w.heap[k]? = none := Array.getElem?_eq_none (by omega)
      simp [World.cell?, e] at h
  rw [← h]
  exact World.cell?_of_block (w := w) (hg.block k hlt (fun e => hk (Option.some.inj e)))
theorem grown_far {a w w' : World} {g k : Nat} (h : a.grownBy w (some g)) (hg : w.grownBy w' (some k)) (hk : a.heap.size ≤ k) : a.grownBy w' (some g) :=
  ⟨hg.os.trans h.os, hg.tape.trans h.tape, hg.output.trans h.output, Nat.le_trans h.size hg.size, fun j hj hr => (hg.block j (Nat.lt_of_lt_of_le hj h.size) (fun e => by have := Option.some.inj e; omega)).trans (h.block j hj hr)⟩
theorem grown_below {a w w' : World} {g : Nat} (h : a.grownBy w (some g)) (hb : Below w.heap.size w w') : a.grownBy w' (some g) := grown_trans' h (grown_of_below hb)
theorem grown_setP {a w : World} {g k : Nat} (h : a.grownBy w (some g)) (hk : a.heap.size ≤ k) (i : Nat) (u : Value) : a.grownBy (w.setCell ⟨k, i, none⟩ u) (some g) :=
  ⟨h.os, h.tape, h.output, by simpa using h.size, fun j hj hr => (Below.heap_setCell _ _ _ _ (by show j ≠ k; omega)).trans (h.block j hj hr)⟩

set_option maxRecDepth 100000 in
set_option maxHeartbeats 4000000 in
theorem pnext_any (g d : Nat) (s : St) (w : World) (h : RS w g d s) (hl : lenS s ≤ 140737488351232) (hd : d < w.heap.size) :
    Calls Tryz.prog 61 #[.pointer (some ⟨g, 0, none⟩)] w (NextSaid g d s w) := by
  have hglt := h.lt
  unfold NextSaid
  have hn : nextPr s = (numS 2 (numS 2 (some (textS 4 (lenS s) s).1)).2, (textS 4 (lenS s) s).2) := rfl
  rw [hn]
  have hxl : (textS 4 (lenS s) s).1.length ≤ 140737488351232 := Nat.le_trans (textS_fst_le _ _ _) hl
  have hB0 := below_boxV w (Obj.cells #[.pointer none, .int .u64 0] 126)
  have HL := Lib.hid (left_at g d s _ (h.below hB0))
  have HT := Lib.hid (text_any g d s 4 (lenS s) _ (h.below hB0) (by omega) (by omega) (by omega))
  have HB0 := Lib.hid hB0
  generalize textS 4 (lenS s) s = X at *
  obtain ⟨x, s2⟩ := X
  simp only [] at hxl HT ⊢
  have hs8 : (str8 x).size = x.length := str8_size x
  have HN1 := Lib.hid (fun g' d' w' (hr : RS w' g' d' (some x)) => num_any g' d' (some x) 2 w' hr (by show x.length ≤ _; omega))
  have hl2 : lenS (numS 2 (some x)).2 ≤ x.length := numS_lenS 2 (some x)
  generalize hA : numS 2 (some x) = Y1 at *
  obtain ⟨n1, s3⟩ := Y1
  simp only [] at hl2 HN1 ⊢
  have HN2 := Lib.hid (fun g' d' w' (hr : RS w' g' d' s3) => num_any g' d' s3 2 w' hr (by omega))
  generalize numS 2 s3 = Y2 at *
  obtain ⟨n2, s4⟩ := Y2
  simp only [] at HN2 ⊢
  clear hn hA hB0 h
  have HLEN := Lib.hid hl
  generalize lenS s = len at *
  go_enter Tryz.func61, Tryz.ntmps61
  go_wp2_with fail
  refine HL.out.mono ?_
  rintro e w1 ⟨rfl, rfl⟩
  go_wp2_with fail
  refine HT.out.mono ?_
  rintro e w2 ⟨rfl, hr2, hg2⟩
  obtain ⟨v3, w3, hcv, hs3, hb3⟩ := conv_tobytes w2 (str8 x) (by omega)
  rw [sb_str8] at hs3
  have HO := Lib.hid (open_any v3 x w2.heap.size w3 hs3 (by omega))
  have hsz2 := hg2.size
  simp at hsz2
  have hg02 := grown_trans' (grown_of_below (r := some g) HB0.out) hg2
  have hk0 : w2.heap[w.heap.size]? = some (.cells #[.pointer none, .int .u64 0] 126 (0, 0)) := (hg2.block w.heap.size (by simp) (fun e => by have := Option.some.inj e; omega)).trans (heap_alloc_new w (Obj.cells #[.pointer none, .int .u64 0] 126))
  have HK2 := Lib.hid hk0
  have HR2 := Lib.hid hr2
  have HG02 := Lib.hid hg02
  have HB3 := Lib.hid hb3
  clear hg02 hr2 hb3 hs3 hg2 hk0
  go_wp2_with fail
  refine HO.out.mono ?_
  rintro e w4 ⟨g', d', rfl, hr4, hg', ⟨hd1, hd2⟩, hb4⟩
  have hsz3 := HB3.out.size
  have hsz4 := hb4.size
  have hg'lt := hr4.lt
  have HR4 := Lib.hid hr4
  have HK4 := Lib.hid ((hb4.block w.heap.size (by omega)).trans ((HB3.out.block w.heap.size (by omega)).trans HK2.out))
  have HRW4 := Lib.hid ((HR2.out.below HB3.out).below hb4)
  have HG4 := Lib.hid (grown_below (grown_below HG02.out HB3.out) hb4)
  obtain ⟨y0, y1⟩ := box2_cells w4 (.pointer (some ⟨g', 0, none⟩)) (.int .u64 0) 126
  have hB5 := below_boxV w4 (Obj.cells #[.pointer (some ⟨g', 0, none⟩), .int .u64 0] 126)
  have HN1' := Lib.hid (HN1.out g' d' _ (HR4.out.below hB5))
  have HRW5 := Lib.hid (HRW4.out.below hB5)
  have HG5 := Lib.hid (grown_below HG4.out hB5)
  have hfr := fun i => frozen_of_row _ w4.heap.size i _ 126 (heap_alloc_new w4 (Obj.cells #[.pointer (some ⟨g', 0, none⟩), .int .u64 0] 126))
  have HY := Lib.hid (And.intro y0 y1)
  clear hr4 hb4 hB5
  go_wp2_with fail
  refine HN1'.out.mono ?_
  rintro e w6 ⟨rfl, hr6, hg6⟩
  have hne : w4.heap.size ≠ g' := by omega
  obtain ⟨z0, z1⟩ := HY.out
  have z0' := cell_grown z0 hg6 hne
  have z1' := cell_grown z1 hg6 hne
  have hfr6 := frozen_of_row w6 w4.heap.size 1 _ 126 ((hg6.block w4.heap.size (by simp) (fun e => hne (Option.some.inj e))).trans (heap_alloc_new w4 (Obj.cells #[.pointer (some ⟨g', 0, none⟩), .int .u64 0] 126)))
  have hrw6 := (HRW5.out).grown hg6 (by omega) (by omega)
  have hG6 := grown_far HG5.out hg6 (by omega)
  have HN2' := Lib.hid (HN2.out g' d' _ hr6)
  have HRW6 := Lib.hid hrw6
  have HG6 := Lib.hid hG6
  have hsz6 := hg6.size
  simp at hsz6
  clear hrw6 hG6 hr6 y0 y1 z0 z1
  go_wp2_with fail
  refine HN2'.out.mono ?_
  rintro e w7 ⟨rfl, hr7, hg7⟩
  have z0 := cell_grown z0' hg7 hne
  have z1 := cell_grown z1' hg7 hne
  have hblk : w7.heap[w4.heap.size]? = some (.cells #[.pointer (some ⟨g', 0, none⟩), .int .u64 0] 126 (0, 0)) := (hg7.block w4.heap.size (by omega) (fun e => hne (Option.some.inj e))).trans ((hg6.block w4.heap.size (by simp) (fun e => hne (Option.some.inj e))).trans (heap_alloc_new w4 (Obj.cells #[.pointer (some ⟨g', 0, none⟩), .int .u64 0] 126)))
  have hfr7 := frozen_of_row w7 w4.heap.size 1 _ 126 hblk
  have hk7 : w7.heap[w.heap.size]? = some (.cells #[.pointer none, .int .u64 0] 126 (0, 0)) := (hg7.block w.heap.size (by omega) (fun e => by have := Option.some.inj e; omega)).trans ((hg6.block w.heap.size (by simp; omega) (fun e => by have := Option.some.inj e; omega)).trans (((below_boxV w4 (Obj.cells #[.pointer (some ⟨g', 0, none⟩), .int .u64 0] 126)).block w.heap.size (by omega)).trans HK4.out))
  have k0 := cell_of_row w7 w.heap.size 0 _ 126 (0, 0) hk7
  have k1 := cell_of_row w7 w.heap.size 1 _ 126 (0, 0) hk7
  have kf := fun i => frozen_of_row w7 w.heap.size i _ 126 hk7
  have kf0 := kf 0
  have kf1 := kf 1
  have hrw : w.heap.size ≠ w4.heap.size := by omega
  have hRW7 := HRW6.out.grown hg7 (by omega) (by omega)
  have hG7 := grown_far HG6.out hg7 (by omega)
  have HF := Lib.hid (And.intro hr7 (And.intro hRW7 hG7))
  have hkS : (w7.setCell ⟨w4.heap.size, 1, none⟩ (.int .u64 n2)).heap[w.heap.size]? = some (.cells #[.pointer none, .int .u64 0] 126 (0, 0)) := (Below.heap_setCell _ _ _ _ (by show w.heap.size ≠ w4.heap.size; omega)).trans hk7
  have r1 := heap_setCell_same _ w.heap.size 0 _ 126 (.pointer (some ⟨g', 0, none⟩)) hkS
  have r2 := heap_setCell_same _ w.heap.size 1 _ 126 (.int .u64 n2) r1
  have R2 := Lib.hid r2
  have HARI := Lib.hid (And.intro hne (And.intro hg' (And.intro hd1 (And.intro hd2 (And.intro hsz2 (And.intro hsz3 (And.intro hsz4 (And.intro hg'lt (And.intro hglt hd)))))))))
  clear z0' z1' hfr6 hr7 hRW7 hG7 kf hfr r1 r2 hkS
  go_wp2_with fail
  obtain ⟨q1, q2, q3⟩ := HF.out
  obtain ⟨a0, a1, a2, a3, a4, a5, a6, a7, a8, a9⟩ := HARI.out
  exact bodyPost_ret (results_cell_row rfl _ _ w.heap.size 126 _ (0, 0) _ rfl R2.out Tryz.underlying126 rfl (by kernel_rfl)) rfl
    ⟨g', d', rfl, ((q1.set (by omega) (by omega) _ _).set (by omega) (by omega) _ _).set (by omega) (by omega) _ _, ((q2.set (by omega) (by omega) _ _).set (by omega) (by omega) _ _).set (by omega) (by omega) _ _, by omega, ⟨by omega, a3⟩,
      grown_setP (grown_setP (grown_setP q3 (by omega) _ _) (by omega) _ _) (by omega) _ _⟩

end Go.Proofs.YtdjahdnaihijjaaGreatDoor
/-
  The contract of a part's values.
  Conditions: none but sizes.
-/
namespace Go.Proofs.YtdjahdnaihijjaaGreatDoor
open Go.RowKit
set_option linter.unusedVariables false
set_option linter.unusedSimpArgs false

/-- What a part's values tells. -/
def AppSaid (f b : Nat) (s : St) (g : Nat) (w : World) (e : Ending) (w' : World) : Prop :=
  ∃ vs, e = .returned (.agg vs.toArray) ∧ ShowsT (lowm w.heap.size w') (appR f b s) vs ∧ w.grownBy w' (some g)
noncomputable def gotT (l : List UInt8) : Tree := match getP l with | none => prZ | some (t, _) => t
/-- What Get tells, as a value. -/
theorem get_tree (v : Value) (d0 : Nat) (l : List UInt8) (w : World) (hv : Shows w d0 v l) (hl : l.length ≤ 140737488351232) :
    Calls Tryz.prog 77 #[v] w fun e w' => ∃ k n s a3 n3 c3 a4 n4 c4 i j, e = .returned (.tuple #[.agg #[.int .u8 (k : Nat), .int .u64 (n : Nat), .string s, .slice a3 n3 c3, .slice a4 n4 c4], .int .i64 i, .int .i64 j]) ∧ ShowsT (lowm w.heap.size w') (gotT l) [.int .u8 (k : Nat), .int .u64 (n : Nat), .string s, .slice a3 n3 c3, .slice a4 n4 c4] ∧ Below w.heap.size w w' := by
  refine (get_any v d0 l w hv hl).mono ?_
  rintro e w' ⟨hb, h⟩
  unfold gotT
  cases hg : getP l with
  | none =>
    rw [hg] at h
    exact ⟨0, 0, ⟨#[]⟩, none, 0, 0, none, 0, 0, 0, 5, h, zero_shows _, hb⟩
  | some p =>
    obtain ⟨t, n⟩ := p
    rw [hg] at h
    obtain ⟨vs, he, hs⟩ := h
    obtain ⟨k, m, s, a3, n3, c3, a4, n4, c4, rfl⟩ := hs.cells5
    exact ⟨k, m, s, a3, n3, c3, a4, n4, c4, n, 0, he, hs, hb⟩
theorem shows_farP {w w' : World} {d : Nat} {v : Value} {l : List UInt8} (h : Shows w d v l) (hb : Below w.heap.size w w') : Shows w' d v l := h.keep hb.size (fun hp => hb.block _ (h.lt hp))
/-- The region's worlds. -/
structure InV (w : World) (g d : Nat) (s : St) (wx : World) : Prop where
  rs : RS wx g d s
  gr : w.grownBy wx (some g)
  cell : wx.cell? ⟨w.heap.size, 0, none⟩ = some (.pointer (some ⟨g, 0, none⟩))
  res : wx.heap[w.heap.size + 1]? = some (.cells #[.int .u8 0, .int .u64 0, .string ⟨#[]⟩, .slice none 0 0, .slice none 0 0] 27 (0, 0))
theorem InV.below {w wx wy : World} {g d : Nat} {s : St} (h : InV w g d s wx) (hb : Below wx.heap.size wx wy) : InV w g d s wy :=
  ⟨h.rs.below hb, grown_below h.gr hb, cell_below h.cell hb, (hb.block _ (Array.getElem?_eq_some_iff.1 h.res).1).trans h.res⟩
theorem InV.alloc {w wx : World} {g d : Nat} {s : St} (h : InV w g d s wx) (o : Obj) : InV w g d s (wx.alloc o) := h.below (below_boxV _ _)
theorem InV.drew {w wx : World} {g d : Nat} {s : St} (h : InV w g d s wx) : InV w g d s wx.drew := h.below (below_drew1 (Below.refl _ _))
theorem InV.take {w wx wy : World} {g d : Nat} {s s' : St} (h : InV w g d s wx) (hg : wx.grownBy wy (some g)) (hr : RS wy g d s') (hgw : g < w.heap.size) : InV w g d s' wy :=
  ⟨hr, grown_trans' h.gr hg, cell_grown h.cell hg (by omega), (hg.block _ (Array.getElem?_eq_some_iff.1 h.res).1 (fun e => by have := Option.some.inj e; omega)).trans h.res⟩
theorem InV.left {w wx : World} {g d : Nat} {s : St} (h : InV w g d s wx) : Calls Tryz.prog 60 #[.pointer (some ⟨g, 0, none⟩)] wx fun e w' => e = .returned (.int .i64 (lenS s)) ∧ w' = wx := left_at g d s wx h.rs

theorem InV.lt {w wx : World} {g d : Nat} {s : St} (h : InV w g d s wx) : w.heap.size + 1 < wx.heap.size := (Array.getElem?_eq_some_iff.1 h.res).1
/-- A box of five zero cells. -/
def BoxZ (w : World) (k : Nat) : Prop := w.heap[k]? = some (.cells #[.int .u8 0, .int .u64 0, .string ⟨#[]⟩, .slice none 0 0, .slice none 0 0] 27 (0, 0))
theorem BoxZ.new (w : World) : BoxZ (w.alloc (Obj.cells #[.int .u8 0, .int .u64 0, .string ⟨#[]⟩, .slice none 0 0, .slice none 0 0] 27)) w.heap.size := heap_alloc_new w _
theorem BoxZ.below {w w' : World} {k : Nat} (h : BoxZ w k) (hb : Below w.heap.size w w') : BoxZ w' k := (hb.block _ (Array.getElem?_eq_some_iff.1 h).1).trans h
theorem BoxZ.grown {w w' : World} {k g : Nat} (h : BoxZ w k) (hg : w.grownBy w' (some g)) (hk : k ≠ g) : BoxZ w' k := (hg.block _ (Array.getElem?_eq_some_iff.1 h).1 (fun e => hk (Option.some.inj e))).trans h
theorem BoxZ.drew {w : World} {k : Nat} (h : BoxZ w k) : BoxZ w.drew k := h.below (below_drew1 (Below.refl _ _))
theorem BoxZ.facts {w : World} {k : Nat} (h : BoxZ w k) : (w.cell? ⟨k, 0, none⟩ = some (.int .u8 0) ∧ w.cell? ⟨k, 1, none⟩ = some (.int .u64 0) ∧ w.cell? ⟨k, 2, none⟩ = some (.string ⟨#[]⟩) ∧ w.cell? ⟨k, 3, none⟩ = some (.slice none 0 0) ∧ w.cell? ⟨k, 4, none⟩ = some (.slice none 0 0)) ∧
    (w.frozen? ⟨k, 0, none⟩ = false ∧ w.frozen? ⟨k, 1, none⟩ = false ∧ w.frozen? ⟨k, 2, none⟩ = false ∧ w.frozen? ⟨k, 3, none⟩ = false ∧ w.frozen? ⟨k, 4, none⟩ = false) :=
  ⟨⟨cell_of_row w k 0 _ 27 (0, 0) h, cell_of_row w k 1 _ 27 (0, 0) h, cell_of_row w k 2 _ 27 (0, 0) h, cell_of_row w k 3 _ 27 (0, 0) h, cell_of_row w k 4 _ 27 (0, 0) h⟩,
    ⟨frozen_of_row w k 0 _ 27 h, frozen_of_row w k 1 _ 27 h, frozen_of_row w k 2 _ 27 h, frozen_of_row w k 3 _ 27 h, frozen_of_row w k 4 _ 27 h⟩⟩
theorem keep1 {w : World} {a k : Nat} {v : Value} (h : w.cell? ⟨a, 0, none⟩ = some v) (hk : a ≠ k) (i : Nat) (u : Value) : (w.setCell ⟨k, i, none⟩ u).cell? ⟨a, 0, none⟩ = some v := by
  rw [← h]
  exact World.cell?_of_block (w := w) (Below.heap_setCell _ _ _ _ (by show a ≠ k; exact hk))
theorem keep5 {w : World} {a k : Nat} {v : Value} (h : w.cell? ⟨a, 0, none⟩ = some v) (hk : a ≠ k) (u0 u1 u2 u3 u4 : Value) :
    (((((w.setCell ⟨k, 0, none⟩ u0).setCell ⟨k, 1, none⟩ u1).setCell ⟨k, 2, none⟩ u2).setCell ⟨k, 3, none⟩ u3).setCell ⟨k, 4, none⟩ u4).cell? ⟨a, 0, none⟩ = some v :=
  keep1 (keep1 (keep1 (keep1 (keep1 h hk 0 u0) hk 1 u1) hk 2 u2) hk 3 u3) hk 4 u4
/-- Blocks from B on that were there are as they were. -/
structure Aft (B : Nat) (w7 wy : World) : Prop where
  size : w7.heap.size ≤ wy.heap.size
  block : ∀ k, B ≤ k → k < w7.heap.size → wy.heap[k]? = w7.heap[k]?
theorem Aft.refl (B : Nat) (w : World) : Aft B w w := ⟨Nat.le_refl _, fun _ _ _ => rfl⟩
theorem Aft.alloc {B : Nat} {w7 wy : World} (h : Aft B w7 wy) (o : Obj) : Aft B w7 (wy.alloc o) := ⟨by have := h.size; simp; omega, fun k h1 h2 => ((below_boxV wy o).block k (Nat.lt_of_lt_of_le h2 h.size)).trans (h.block k h1 h2)⟩
theorem Aft.set {B : Nat} {w7 wy : World} (h : Aft B w7 wy) {p : Nat} (hp : p < B ∨ w7.heap.size ≤ p) (i : Nat) (u : Value) : Aft B w7 (wy.setCell ⟨p, i, none⟩ u) :=
  ⟨by simpa using h.size, fun k h1 h2 => (Below.heap_setCell _ _ _ _ (by show k ≠ p; omega)).trans (h.block k h1 h2)⟩
theorem Aft.shows {B C : Nat} {w7 wy : World} (h : Aft B w7 wy) {t : Tree} {vs : List Value} (hs : ShowsT (lowm B w7) t vs) (hC : C ≤ B) : ShowsT (lowm C wy) t vs := (hs.sub (low_sub h.size h.block)).sub (low_anti hC)

theorem alloc_drew_lt (w : World) (o : Obj) : w.heap.size < (w.alloc o).drew.heap.size := by
  have : (w.alloc o).drew.heap.size = (w.alloc o).heap.size := rfl
  rw [this, World.size_alloc]
  exact Nat.lt_succ_self _
/-- Where the region ends: the value lies in a box at k. -/
structure EndV (w : World) (g : Nat) (T : Tree) (k : Nat) (vs : List Value) (wy : World) : Prop where
  shows : ∃ B w7, ShowsT (lowm B w7) T vs ∧ w.heap.size + 1 < B ∧ Aft B w7 wy
  gr : w.grownBy wy (some g)
  res : wy.heap[w.heap.size + 1]? = some (.cells #[.int .u8 0, .int .u64 0, .string ⟨#[]⟩, .slice none 0 0, .slice none 0 0] 27 (0, 0))
  box : wy.heap[k]? = some (.cells vs.toArray 27 (0, 0))
  far : w.heap.size + 1 < k
theorem EndV.new {w w7 : World} {g d : Nat} {s : St} {T : Tree} {B : Nat} {vs : List Value} (h : InV w g d s w7) (hs : ShowsT (lowm B w7) T vs) (hB : w.heap.size + 1 < B) : EndV w g T w7.heap.size vs (w7.alloc (.cells vs.toArray 27)) :=
  ⟨⟨B, w7, hs, hB, (Aft.refl _ _).alloc _⟩, (h.alloc _).gr, (h.alloc _).res, heap_alloc_new _ _, h.lt⟩
theorem EndV.old {w w7 : World} {g d : Nat} {s : St} {T : Tree} {B k : Nat} {u0 u1 u2 u3 u4 : Value} (h : InV w g d s w7) (hz : BoxZ w7 k) (hs : ShowsT (lowm B w7) T [u0, u1, u2, u3, u4]) (hk : w.heap.size + 1 < k) (hB : k < B) :
    EndV w g T k [u0, u1, u2, u3, u4] (((((w7.setCell ⟨k, 0, none⟩ u0).setCell ⟨k, 1, none⟩ u1).setCell ⟨k, 2, none⟩ u2).setCell ⟨k, 3, none⟩ u3).setCell ⟨k, 4, none⟩ u4) :=
  ⟨⟨B, w7, hs, by omega, (((((Aft.refl _ _).set (.inl hB) _ _).set (.inl hB) _ _).set (.inl hB) _ _).set (.inl hB) _ _).set (.inl hB) _ _⟩,
    grown_setP (grown_setP (grown_setP (grown_setP (grown_setP h.gr (by omega) _ _) (by omega) _ _) (by omega) _ _) (by omega) _ _) (by omega) _ _,
    (Below.heap_setCell _ _ _ _ (by show w.heap.size + 1 ≠ k; omega)).trans ((Below.heap_setCell _ _ _ _ (by show w.heap.size + 1 ≠ k; omega)).trans ((Below.heap_setCell _ _ _ _ (by show w.heap.size + 1 ≠ k; omega)).trans ((Below.heap_setCell _ _ _ _ (by show w.heap.size + 1 ≠ k; omega)).trans ((Below.heap_setCell _ _ _ _ (by show w.heap.size + 1 ≠ k; omega)).trans h.res)))),
    heap_setCell_same _ k 4 _ 27 u4 (heap_setCell_same _ k 3 _ 27 u3 (heap_setCell_same _ k 2 _ 27 u2 (heap_setCell_same _ k 1 _ 27 u1 (heap_setCell_same _ k 0 _ 27 u0 hz)))), hk⟩

set_option maxRecDepth 100000 in
set_option maxHeartbeats 8000000 in
theorem pvalR_any (g d f b : Nat) (B : Int) (s : St) (w : World) (h : RS w g d s) (hl : lenS s ≤ 140737488351232) (hf : f < 65536) (hb : b < 65536) (hB : B = (b : Int)) :
    Calls Tryz.prog 64 #[partV g f, .int .u64 B] w (AppSaid f b s g w) := by
  have HH := Lib.hid (fun w => phas_any g f b B w hf hb hB)
  have hglt := h.lt
  unfold AppSaid
  have he : appR f b s = if bitB f b = true then gotT (takeS (lenS s) s).1 else prZ := by
    unfold appR bitB gotT
    by_cases hz : f &&& b ≠ 0
    · rw [if_pos hz, if_pos (decide_eq_true hz)]; rfl
    · rw [if_neg hz, if_neg (by simp only [decide_eq_true_eq]; exact hz)]
  rw [he]
  have hxl : (takeS (lenS s) s).1.length ≤ 140737488351232 := Nat.le_trans (takeS_fst_le _ _) hl
  have hB1 := below_boxV w (Obj.cells #[.pointer (some ⟨g, 0, none⟩), .int .u64 f] 126)
  obtain ⟨x0, x1⟩ := box2_cells w (.pointer (some ⟨g, 0, none⟩)) (.int .u64 f) 126
  have hB2 := below_boxV (w.alloc (Obj.cells #[.pointer (some ⟨g, 0, none⟩), .int .u64 f] 126)) (Obj.cells #[.int .u8 0, .int .u64 0, .string ⟨#[]⟩, .slice none 0 0, .slice none 0 0] 27)
  have hIN : InV w g d s ((w.alloc (Obj.cells #[.pointer (some ⟨g, 0, none⟩), .int .u64 f] 126)).alloc (Obj.cells #[.int .u8 0, .int .u64 0, .string ⟨#[]⟩, .slice none 0 0, .slice none 0 0] 27)) :=
    ⟨(h.below hB1).below hB2, grown_below (grown_of_below hB1) hB2, cell_below x0 hB2, by
      have := heap_alloc_new (w.alloc (Obj.cells #[.pointer (some ⟨g, 0, none⟩), .int .u64 f] 126)) (Obj.cells #[.int .u8 0, .int .u64 0, .string ⟨#[]⟩, .slice none 0 0, .slice none 0 0] 27)
      rw [World.size_alloc] at this
      exact this⟩
  have y0 := cell_below x0 hB2
  have y1 := cell_below x1 hB2
  have HIN := Lib.hid hIN
  have HTK := Lib.hid (fun wx (hi : InV w g d s wx) => take_any g d s (lenS s) wx hi.rs (by omega))
  have HG := Lib.hid (fun v d0 wx (hs : Shows wx d0 v (takeS (lenS s) s).1) => get_tree v d0 _ wx hs hxl)
  clear he hB h hIN hB1 hB2 x0 x1
  generalize takeS (lenS s) s = X at *
  obtain ⟨x, s2⟩ := X
  simp only [] at HG HTK hxl ⊢
  generalize gotT x = T at *
  unfold partV at HH ⊢
  cases hD : bitB f b with
  | false =>
    rw [hD] at HH
    rw [if_neg (by decide)]
    clear hD HG HTK
    go_enter Tryz.func64, Tryz.ntmps64
    go_wp2_with fail
    refine (HH.out _).mono ?_
    rintro e w1 ⟨rfl, hb1⟩
    have hI1 := HIN.out.below hb1
    have hr0 := hI1.res
    have q0 := cell_of_row w1 (w.heap.size + 1) 0 _ 27 (0, 0) hr0
    have q1 := cell_of_row w1 (w.heap.size + 1) 1 _ 27 (0, 0) hr0
    have q2 := cell_of_row w1 (w.heap.size + 1) 2 _ 27 (0, 0) hr0
    have q3 := cell_of_row w1 (w.heap.size + 1) 3 _ 27 (0, 0) hr0
    have q4 := cell_of_row w1 (w.heap.size + 1) 4 _ 27 (0, 0) hr0
    have fr := fun i => frozen_of_row w1 (w.heap.size + 1) i _ 27 hr0
    have f0 := fr 0
    have f1 := fr 1
    have f2 := fr 2
    have f3 := fr 3
    have f4 := fr 4
    have r1 := heap_setCell_same _ (w.heap.size + 1) 0 _ 27 (.int .u8 0) hr0
    have r2 := heap_setCell_same _ (w.heap.size + 1) 1 _ 27 (.int .u64 0) r1
    have r3 := heap_setCell_same _ (w.heap.size + 1) 2 _ 27 (.string ⟨#[]⟩) r2
    have r4 := heap_setCell_same _ (w.heap.size + 1) 3 _ 27 (.slice none 0 0) r3
    have r5 := heap_setCell_same _ (w.heap.size + 1) 4 _ 27 (.slice none 0 0) r4
    have R5 := Lib.hid r5
    have HI1 := Lib.hid hI1
    clear r1 r2 r3 r4 r5 hr0 fr y0 y1 hI1
    go_wp2_with fail
    have hI1 := HI1.out
    exact bodyPost_ret (results_cell_row rfl _ _ (w.heap.size + 1) 27 _ (0, 0) _ rfl R5.out Tryz.underlying27 rfl (by kernel_rfl)) rfl
      ⟨[.int .u8 (0 : Nat), .int .u64 (0 : Nat), .string ⟨#[]⟩, .slice none 0 0, .slice none 0 0], rfl, zero_shows _, grown_setP (grown_setP (grown_setP (grown_setP (grown_setP hI1.gr (by omega) _ _) (by omega) _ _) (by omega) _ _) (by omega) _ _) (by omega) _ _⟩
  | true =>
    rw [hD] at HH
    rw [if_pos rfl]
    clear hD
    go_enter Tryz.func64, Tryz.ntmps64
    go_wp2_with fail
    refine (HH.out _).mono ?_
    rintro e w1 ⟨rfl, hb1⟩
    have hI1 := HIN.out.below hb1
    have y0' := hI1.cell
    clear y0 y1 hb1 HIN HH
    go_upto_region 3 with fail
    have hId := hI1.drew
    have hkg : w1.drew.heap.size ≠ g := by have := hId.lt; omega
    have hkw : w.heap.size ≠ w1.drew.heap.size := by have := hId.lt; omega
    have hkg1 : w1.heap.size ≠ g := by have := hI1.lt; omega
    have hkw1 : w.heap.size ≠ w1.heap.size := by have := hI1.lt; omega
    clear y0'
    go_cut [5, 6, 7] from 14 to 23 (fun a5 a6 a7 wx => ∃ (kk k n : Nat) (ss : ByteArray) (a3 : Option Addr) (n3 c3 : Nat) (a4 : Option Addr) (n4 c4 : Nat), a5 = .pointer (some ⟨kk, 0, none⟩) ∧ Hid (EndV w g T kk [.int .u8 (k : Nat), .int .u64 (n : Nat), .string ss, .slice a3 n3 c3, .slice a4 n4 c4] wx))
    case first =>
      go_region_held3 (fun w' => w'.cell? ⟨w.heap.size, 0, none⟩ = some (.pointer (some ⟨g, 0, none⟩))) (first
          | with_reducible exact keep5 (InV.cell hI7) hn6 _ _ _ _ _
          | with_reducible exact keep5 (InV.cell hI7) hkw _ _ _ _ _
          | with_reducible exact keep5 (InV.cell hI7) hkw1 _ _ _ _ _
          | with_reducible exact keep5 (InV.cell (InV.alloc hI7 _)) hn7 _ _ _ _ _
          | with_reducible exact InV.cell hI7
          | with_reducible exact InV.cell (InV.alloc hI7 _)
          | with_reducible exact InV.cell hI6
          | with_reducible exact InV.cell (InV.alloc hI6 _)
          | with_reducible exact InV.cell hId
          | with_reducible exact InV.cell (InV.alloc hId _)
          | with_reducible exact InV.cell (InV.drew (InV.alloc hI1 _)))
        (first
          | (go_at_call 60
             first
               | with_reducible refine (InV.left hId).mono ?_
               | with_reducible refine (InV.left (InV.alloc hId _)).mono ?_
               | with_reducible refine (InV.left (InV.drew (InV.alloc hI1 _))).mono ?_
             rintro e5 w5 ⟨rfl, rfl⟩)
          | (go_at_call 59
             first
               | with_reducible refine (HTK.out _ hId).mono ?_
               | with_reducible refine (HTK.out _ (InV.alloc hId _)).mono ?_
               | with_reducible refine (HTK.out _ (InV.drew (InV.alloc hI1 _))).mono ?_
             rintro e6 w6 ⟨v6, rfl, ho6, hr6, hg6⟩
             obtain ⟨gg6, _, hs6⟩ := ho6.shows
             first
               | have hI6 := InV.take hId hg6 hr6 hglt
               | have hI6 := InV.take (InV.alloc hId _) hg6 hr6 hglt
               | have hI6 := InV.take (InV.drew (InV.alloc hI1 _)) hg6 hr6 hglt
             have hn6 : w.heap.size ≠ w6.heap.size := by have := hI6.lt; omega
             first
               | (have hz6 := BoxZ.grown (BoxZ.new _) hg6 hkg)
               | (have hz6 := BoxZ.grown (BoxZ.drew (BoxZ.new _)) hg6 hkg1)
               | skip)
          | (go_at_call 77
             first
               | with_reducible refine (HG.out _ _ _ hs6).mono ?_
               | with_reducible refine (HG.out _ _ _ (shows_farP hs6 (below_boxV _ _))).mono ?_
             rintro e7 w7 ⟨k, n, ss, a3, n3, c3, a4, n4, c4, i, j, rfl, hsh, hb7⟩
             first
               | have hI7 := InV.below hI6 hb7
               | have hI7 := InV.below (InV.alloc hI6 _) hb7
             have hn7 : w.heap.size ≠ w7.heap.size := by have := hI7.lt; omega
             first
               | (have hz7 := BoxZ.below hz6 hb7
                  obtain ⟨⟨z0, z1, z2, z3, z4⟩, t0, t1, t2, t3, t4⟩ := hz7.facts
                  have HZ7 := Lib.hid hz7
                  clear hz7 hz6)
               | (have hz7 := BoxZ.below (BoxZ.new _) hb7
                  obtain ⟨⟨z0, z1, z2, z3, z4⟩, t0, t1, t2, t3, t4⟩ := hz7.facts
                  have HZ7 := Lib.hid hz7
                  clear hz7)
               | skip
             have HSH := Lib.hid hsh
             have hs76 := hI6.lt
             have hsd := hId.lt
             have hs1 := hI1.lt
             try have hsz6 := hg6.size
             try have hsz7 := hb7.size
             have HB7 := Lib.hid hb7
             clear hsh hb7 hs6 ho6 hr6 hg6 hI6 hId hI1))
      all_goals
        go_wp2_with fail
        go_meet
      · exact ⟨_, k, n, ss, a3, n3, c3, a4, n4, c4, rfl, Lib.hid (EndV.new hI7 HSH.out hs76)⟩
      · exact ⟨_, k, n, ss, a3, n3, c3, a4, n4, c4, rfl, Lib.hid (EndV.old hI7 HZ7.out HSH.out hs76 (by simp))⟩
      · exact ⟨_, k, n, ss, a3, n3, c3, a4, n4, c4, rfl, Lib.hid (EndV.old (k := w1.heap.size) hI7 HZ7.out HSH.out hs1 (Nat.lt_of_lt_of_le (alloc_drew_lt w1 _) hsz6))⟩
      · exact ⟨_, k, n, ss, a3, n3, c3, a4, n4, c4, rfl, Lib.hid (EndV.old (k := w1.heap.size) hI7 HZ7.out HSH.out hs1 (Nat.lt_of_lt_of_le (alloc_drew_lt w1 _) hsz6))⟩
    case rest =>
      obtain ⟨kk, k, n, ss, a3, n3, c3, a4, n4, c4, rfl, HE⟩ := hcut
      have hbx := HE.out.box
      have hr0 := HE.out.res
      have hfar := HE.out.far
      have x0 := cell_of_row wc kk 0 _ 27 (0, 0) hbx
      have x1 := cell_of_row wc kk 1 _ 27 (0, 0) hbx
      have x2 := cell_of_row wc kk 2 _ 27 (0, 0) hbx
      have x3 := cell_of_row wc kk 3 _ 27 (0, 0) hbx
      have x4 := cell_of_row wc kk 4 _ 27 (0, 0) hbx
      have q0 := cell_of_row wc (w.heap.size + 1) 0 _ 27 (0, 0) hr0
      have q1 := cell_of_row wc (w.heap.size + 1) 1 _ 27 (0, 0) hr0
      have q2 := cell_of_row wc (w.heap.size + 1) 2 _ 27 (0, 0) hr0
      have q3 := cell_of_row wc (w.heap.size + 1) 3 _ 27 (0, 0) hr0
      have q4 := cell_of_row wc (w.heap.size + 1) 4 _ 27 (0, 0) hr0
      have fr := fun i => frozen_of_row wc (w.heap.size + 1) i _ 27 hr0
      have f0 := fr 0
      have f1 := fr 1
      have f2 := fr 2
      have f3 := fr 3
      have f4 := fr 4
      have r1 := heap_setCell_same _ (w.heap.size + 1) 0 _ 27 (.int .u8 k) hr0
      have r2 := heap_setCell_same _ (w.heap.size + 1) 1 _ 27 (.int .u64 n) r1
      have r3 := heap_setCell_same _ (w.heap.size + 1) 2 _ 27 (.string ss) r2
      have r4 := heap_setCell_same _ (w.heap.size + 1) 3 _ 27 (.slice a3 n3 c3) r3
      have r5 := heap_setCell_same _ (w.heap.size + 1) 4 _ 27 (.slice a4 n4 c4) r4
      have R5 := Lib.hid r5
      clear r1 r2 r3 r4 r5 fr hbx hr0 hId hI1
      simp only [List.getElem?_toArray, List.getElem?_cons_zero, List.getElem?_cons_succ] at x0 x1 x2 x3 x4
      go_wp2_with fail
      obtain ⟨B7, w7, hs7, hB7, ha7⟩ := HE.out.shows
      exact bodyPost_ret (results_cell_row rfl _ _ (w.heap.size + 1) 27 _ (0, 0) _ rfl R5.out Tryz.underlying27 rfl (by kernel_rfl)) rfl
        ⟨[.int .u8 k, .int .u64 n, .string ss, .slice a3 n3 c3, .slice a4 n4 c4], rfl, (((((ha7.set (.inl hB7) _ _).set (.inl hB7) _ _).set (.inl hB7) _ _).set (.inl hB7) _ _).set (.inl hB7) _ _).shows hs7 (by omega),
          grown_setP (grown_setP (grown_setP (grown_setP (grown_setP HE.out.gr (by omega) _ _) (by omega) _ _) (by omega) _ _) (by omega) _ _) (by omega) _ _⟩

end Go.Proofs.YtdjahdnaihijjaaGreatDoor
