/-
  The contracts of props.next, of a part's has, text and values, of decoded and of Get.
  Conditions: none but sizes.
-/
import Derived.Lib.ConvBytes
import Derived.Laws.BitsAllLaws
import Derived.Test.YtnafibnhmhbfiaaPrAZ
import Derived.Test.YtnafibnhmhbfiaaValGZ
import Derived.Test.YtnafibnhmhbfiaaOctAZ
namespace Go.Proofs.Ytnafibnhmhbfiaa
open Go.RowKit
set_option linter.unusedVariables false
set_option linter.unusedSimpArgs false

/-- '[]byte(s)'. -/
theorem conv_tobytes (w : World) (s : ByteArray) (hs : s.size ≤ 140737488355328) : ∃ v w', (convert 9 46 (.string s)).run Try.prog w = .ok v w' ∧ Shows w' w.heap.size v (sb s) ∧ Below w.heap.size w w' := by
  refine ⟨_, _, Lib.run_convert_string_bytes w 9 46 5 s Try.underlying9 Try.underlying46 Try.underlying5, ?_, ?_⟩
  · refine ⟨_, _, by rw [sb_length], by rw [sb_length]; exact grownCap_ge _ _ _ _, grownCap_le_maxLen _ _ _ _ (by simp only [maxLen]; omega), fun hp => ⟨0, rfl, by rw [Lib.bytesWorld_size]; omega, fun j hj => ?_⟩⟩
    rw [Nat.zero_add, Lib.bytesWorld_cell _ _ _ _ (by rw [← sb_length]; exact hj)]
    have : s.data.toList = sb s := rfl
    rw [this]
    simp [u8c, List.getD, hj]
  · exact ⟨rfl, rfl, rfl, by rw [Lib.bytesWorld_size]; omega, fun k hk => Lib.bytesWorld_at_old w _ s k hk⟩

/-- A part that is read: its reader and its flags. -/
def partV (g f : Nat) : Value := .agg #[.pointer (some ⟨g, 0, none⟩), .int .u64 f]
def bitB (f b : Nat) : Bool := decide (f &&& b ≠ 0)
theorem and_neq (f b : Nat) (hf : f < 65536) (hb : b < 65536) : (bits .and .u64 (f : Int) (b : Int) != 0) = bitB f b := by
  rw [u64_and_nat f b (by omega) (by omega)]
  unfold bitB
  rw [Bool.eq_iff_iff]
  simp only [bne_iff_ne, decide_eq_true_eq, ne_eq]
  omega
theorem grown_of_below {w w' : World} {r : Option Nat} (h : Below w.heap.size w w') : w.grownBy w' r := ⟨h.os, h.tape, h.output, h.size, fun k hk _ => h.block k hk⟩
theorem RS.below {w w' : World} {g d : Nat} {s : St} (h : RS w g d s) (hb : Below w.heap.size w w') : RS w' g d s := h.keep hb.size (hb.block g h.lt) (fun hd => hb.block d hd)
theorem RS.below' {w w' : World} {g d B : Nat} {s : St} (h : RS w g d s) (hb : Below B w w') (hB : w.heap.size ≤ B) : RS w' g d s := h.keep hb.size (hb.block g (Nat.lt_of_lt_of_le h.lt hB)) (fun hd => hb.block d (Nat.lt_of_lt_of_le hd hB))

set_option maxRecDepth 100000 in
set_option maxHeartbeats 1000000 in
theorem phas_any (g f b : Nat) (B : Int) (w : World) (hf : f < 65536) (hb : b < 65536) (hB : B = (b : Int)) :
    Calls Try.prog 65 #[partV g f, .int .u64 B] w fun e w' => e = .returned (.bool (bitB f b)) ∧ Below w.heap.size w w' := by
  subst hB
  have t := and_neq f b hf hb
  generalize bitB f b = D at *
  unfold partV
  go_enter Try.func65, Try.ntmps65
  go_wp2_with fail
  go_ret
  exact ⟨by first | rfl | rw [t], below_boxV _ _⟩

/-- Two cells in a block of the call's own. -/
theorem box2_cells (w : World) (x y : Value) (t : TypeId) : (w.alloc (Obj.cells #[x, y] t)).cell? ⟨w.heap.size, 0, none⟩ = some x ∧ (w.alloc (Obj.cells #[x, y] t)).cell? ⟨w.heap.size, 1, none⟩ = some y := by
  have h := heap_alloc_new w (Obj.cells #[x, y] t)
  exact ⟨by rw [cell_of_row _ _ 0 _ t (0, 0) h]; rfl, by rw [cell_of_row _ _ 1 _ t (0, 0) h]; rfl⟩
theorem cell_below {w w' : World} {k i : Nat} {v : Value} (h : w.cell? ⟨k, i, none⟩ = some v) (hb : Below w.heap.size w w') : w'.cell? ⟨k, i, none⟩ = some v := by
  have hk : k < w.heap.size := by
    by_cases hk : k < w.heap.size
    · exact hk
    · have e : w.heap[k]? = none := Array.getElem?_eq_none (by omega)
      simp [World.cell?, e] at h
  rw [← h]
  exact World.cell?_of_block (w := w) (hb.block k hk)

set_option maxRecDepth 100000 in
set_option maxHeartbeats 2000000 in
theorem ptextR_any (g d f b : Nat) (B : Int) (s : St) (w : World) (h : RS w g d s) (hl : lenS s ≤ 140737488355328) (hf : f < 65536) (hb : b < 65536) (hB : B = (b : Int)) :
    Calls Try.prog 66 #[partV g f, .int .u64 B] w fun e w' => e = .returned (.string (str8 (txtR f b s).1)) ∧ RS w' g d (txtR f b s).2 ∧ w.grownBy w' (some g) := by
  have HH := Lib.hid (fun w => phas_any g f b B w hf hb hB)
  have HB := Lib.hid (below_boxV w (Obj.cells #[.pointer (some ⟨g, 0, none⟩), .int .u64 f] 99))
  obtain ⟨x0, x1⟩ := box2_cells w (.pointer (some ⟨g, 0, none⟩)) (.int .u64 f) 99
  have HX := Lib.hid x0
  have HR := Lib.hid (fun w' (hb : Below w.heap.size w w') => h.below hb)
  have HT := Lib.hid (fun w' (h : RS w' g d s) => text_any g d s 1 255 w' h hl (by omega) (by omega))
  have he : txtR f b s = if bitB f b = true then textS 1 255 s else ([], s) := by
    unfold txtR bitB
    by_cases hz : f &&& b ≠ 0
    · rw [if_pos hz, if_pos (decide_eq_true hz)]
    · rw [if_neg hz, if_neg (by simp only [decide_eq_true_eq]; exact hz)]
  rw [he]
  clear he h hB
  generalize textS 1 255 s = X at *
  unfold partV at HH ⊢
  cases hD : bitB f b with
  | true =>
    rw [hD] at HH
    rw [if_pos rfl]
    clear hD
    go_enter Try.func66, Try.ntmps66
    go_wp2_with fail
    refine (HH.out _).mono ?_
    rintro e w1 ⟨rfl, hb1⟩
    have hb01 := HB.out.trans (hb1.mono HB.out.size)
    have y0 := cell_below HX.out hb1
    have HT1 := Lib.hid (HT.out w1 (HR.out w1 hb01))
    have HB1 := Lib.hid hb01
    clear x0 x1 hb1 hb01
    go_wp2_with fail
    refine HT1.out.mono ?_
    rintro e w2 ⟨rfl, hr2, hg2⟩
    go_wp2_with fail
    go_ret
    exact ⟨rfl, hr2, grown_trans' (grown_of_below HB1.out) hg2⟩
  | false =>
    rw [hD] at HH
    rw [if_neg (by decide)]
    clear hD
    go_enter Try.func66, Try.ntmps66
    go_wp2_with fail
    refine (HH.out _).mono ?_
    rintro e w1 ⟨rfl, hb1⟩
    have hb01 := HB.out.trans (hb1.mono HB.out.size)
    go_wp2_with fail
    go_ret
    exact ⟨rfl, HR.out _ hb01, grown_of_below hb01⟩

theorem nextPr_flag (s : St) : (nextPr s).1.1 < 65536 := by
  have := numOf_lt (takeS 2 (numS 2 (some (textS 4 (lenS s) s).1)).2).1
  have hl := takeS_len 2 (numS 2 (some (textS 4 (lenS s) s).1)).2
  have : numOf (takeS 2 (numS 2 (some (textS 4 (lenS s) s).1)).2).1 < 65536 := by
    refine Nat.lt_of_lt_of_le this ?_
    exact Nat.le_trans (Nat.pow_le_pow_right (by decide) (show _ ≤ 2 by omega)) (by decide)
  exact this
/-- What next tells: the part's flags, what is left in it, and what is left behind it. -/
def NextSaid (g d : Nat) (s : St) (w : World) (e : Ending) (w' : World) : Prop :=
  ∃ g' d', e = .returned (partV g' (nextPr s).1.1) ∧ RS w' g' d' (nextPr s).1.2 ∧ RS w' g d (nextPr s).2 ∧ w.heap.size ≤ g' ∧ (w.heap.size ≤ d' ∧ d' ≤ g') ∧ w.grownBy w' (some g)

theorem RS.grown {w w' : World} {g d k : Nat} {s : St} (h : RS w g d s) (hg : w.grownBy w' (some k)) (h1 : g ≠ k) (h2 : d ≠ k) : RS w' g d s :=
  h.keep hg.size (hg.block g h.lt (fun e => h1 (Option.some.inj e))) (fun hd => hg.block d hd (fun e => h2 (Option.some.inj e)))
theorem RS.set {w : World} {g d k : Nat} {s : St} (h : RS w g d s) (h1 : g ≠ k) (h2 : d ≠ k) (i : Nat) (u : Value) : RS (w.setCell ⟨k, i, none⟩ u) g d s :=
  h.keep (by simp) (Below.heap_setCell _ _ _ _ (by show g ≠ k; exact h1)) (fun _ => Below.heap_setCell _ _ _ _ (by show d ≠ k; exact h2))
theorem left_at (g d : Nat) (s : St) (w : World) (h : RS w g d s) : Calls Try.prog 51 #[.pointer (some ⟨g, 0, none⟩)] w fun e w' => e = .returned (.int .i64 (lenS s)) ∧ w' = w := by
  cases s with
  | none => exact (left_none g d w h).mono fun e w' he => ⟨he.1, he.2.symm⟩
  | some l => exact (left_some g d l w h).mono fun e w' he => ⟨he.1, he.2.symm⟩
theorem cell_grown {w w' : World} {k i g : Nat} {v : Value} (h : w.cell? ⟨k, i, none⟩ = some v) (hg : w.grownBy w' (some g)) (hk : k ≠ g) : w'.cell? ⟨k, i, none⟩ = some v := by
  have hlt : k < w.heap.size := by
    by_cases hk : k < w.heap.size
    · exact hk
    · have e : w.heap[k]? = none := Array.getElem?_eq_none (by omega)
      simp [World.cell?, e] at h
  rw [← h]
  exact World.cell?_of_block (w := w) (hg.block k hlt (fun e => hk (Option.some.inj e)))
theorem grown_far {a w w' : World} {g k : Nat} (h : a.grownBy w (some g)) (hg : w.grownBy w' (some k)) (hk : a.heap.size ≤ k) : a.grownBy w' (some g) :=
  ⟨hg.os.trans h.os, hg.tape.trans h.tape, hg.output.trans h.output, Nat.le_trans h.size hg.size, fun j hj hr => (hg.block j (Nat.lt_of_lt_of_le hj h.size) (fun e => by have := Option.some.inj e; omega)).trans (h.block j hj hr)⟩
theorem grown_below {a w w' : World} {g : Nat} (h : a.grownBy w (some g)) (hb : Below w.heap.size w w') : a.grownBy w' (some g) := grown_trans' h (grown_of_below hb)
theorem grown_setP {a w : World} {g k : Nat} (h : a.grownBy w (some g)) (hk : a.heap.size ≤ k) (i : Nat) (u : Value) : a.grownBy (w.setCell ⟨k, i, none⟩ u) (some g) :=
  ⟨h.os, h.tape, h.output, by simpa using h.size, fun j hj hr => (Below.heap_setCell _ _ _ _ (by show j ≠ k; omega)).trans (h.block j hj hr)⟩

set_option maxRecDepth 100000 in
set_option maxHeartbeats 4000000 in
theorem pnext_any (g d : Nat) (s : St) (w : World) (h : RS w g d s) (hl : lenS s ≤ 140737488351232) (hd : d < w.heap.size) :
    Calls Try.prog 64 #[.pointer (some ⟨g, 0, none⟩)] w (NextSaid g d s w) := by
  have hglt := h.lt
  unfold NextSaid
  have hn : nextPr s = (numS 2 (numS 2 (some (textS 4 (lenS s) s).1)).2, (textS 4 (lenS s) s).2) := rfl
  rw [hn]
  have hxl : (textS 4 (lenS s) s).1.length ≤ 140737488351232 := Nat.le_trans (textS_fst_le _ _ _) hl
  have hB0 := below_boxV w (Obj.cells #[.pointer none, .int .u64 0] 99)
  have HL := Lib.hid (left_at g d s _ (h.below hB0))
  have HT := Lib.hid (text_any g d s 4 (lenS s) _ (h.below hB0) (by omega) (by omega) (by omega))
  have HB0 := Lib.hid hB0
  generalize textS 4 (lenS s) s = X at *
  obtain ⟨x, s2⟩ := X
  simp only [] at hxl HT ⊢
  have hs8 : (str8 x).size = x.length := str8_size x
  have HN1 := Lib.hid (fun g' d' w' (hr : RS w' g' d' (some x)) => num_any g' d' (some x) 2 w' hr (by show x.length ≤ _; omega))
  have hl2 : lenS (numS 2 (some x)).2 ≤ x.length := numS_lenS 2 (some x)
  generalize hA : numS 2 (some x) = Y1 at *
  obtain ⟨n1, s3⟩ := Y1
  simp only [] at hl2 HN1 ⊢
  have HN2 := Lib.hid (fun g' d' w' (hr : RS w' g' d' s3) => num_any g' d' s3 2 w' hr (by omega))
  generalize numS 2 s3 = Y2 at *
  obtain ⟨n2, s4⟩ := Y2
  simp only [] at HN2 ⊢
  clear hn hA hB0 h
  have HLEN := Lib.hid hl
  generalize lenS s = len at *
  go_enter Try.func64, Try.ntmps64
  go_wp2_with fail
  refine HL.out.mono ?_
  rintro e w1 ⟨rfl, rfl⟩
  go_wp2_with fail
  refine HT.out.mono ?_
  rintro e w2 ⟨rfl, hr2, hg2⟩
  obtain ⟨v3, w3, hcv, hs3, hb3⟩ := conv_tobytes w2 (str8 x) (by omega)
  rw [sb_str8] at hs3
  have HO := Lib.hid (open_any v3 x w2.heap.size w3 hs3 (by omega))
  have hsz2 := hg2.size
  simp at hsz2
  have hg02 := grown_trans' (grown_of_below (r := some g) HB0.out) hg2
  have hk0 : w2.heap[w.heap.size]? = some (.cells #[.pointer none, .int .u64 0] 99 (0, 0)) := (hg2.block w.heap.size (by simp) (fun e => by have := Option.some.inj e; omega)).trans (heap_alloc_new w (Obj.cells #[.pointer none, .int .u64 0] 99))
  have HK2 := Lib.hid hk0
  have HR2 := Lib.hid hr2
  have HG02 := Lib.hid hg02
  have HB3 := Lib.hid hb3
  clear hg02 hr2 hb3 hs3 hg2 hk0
  go_wp2_with fail
  refine HO.out.mono ?_
  rintro e w4 ⟨g', d', rfl, hr4, hg', ⟨hd1, hd2⟩, hb4⟩
  have hsz3 := HB3.out.size
  have hsz4 := hb4.size
  have hg'lt := hr4.lt
  have HR4 := Lib.hid hr4
  have HK4 := Lib.hid ((hb4.block w.heap.size (by omega)).trans ((HB3.out.block w.heap.size (by omega)).trans HK2.out))
  have HRW4 := Lib.hid ((HR2.out.below HB3.out).below hb4)
  have HG4 := Lib.hid (grown_below (grown_below HG02.out HB3.out) hb4)
  obtain ⟨y0, y1⟩ := box2_cells w4 (.pointer (some ⟨g', 0, none⟩)) (.int .u64 0) 99
  have hB5 := below_boxV w4 (Obj.cells #[.pointer (some ⟨g', 0, none⟩), .int .u64 0] 99)
  have HN1' := Lib.hid (HN1.out g' d' _ (HR4.out.below hB5))
  have HRW5 := Lib.hid (HRW4.out.below hB5)
  have HG5 := Lib.hid (grown_below HG4.out hB5)
  have hfr := fun i => frozen_of_row _ w4.heap.size i _ 99 (heap_alloc_new w4 (Obj.cells #[.pointer (some ⟨g', 0, none⟩), .int .u64 0] 99))
  have HY := Lib.hid (And.intro y0 y1)
  clear hr4 hb4 hB5
  go_wp2_with fail
  refine HN1'.out.mono ?_
  rintro e w6 ⟨rfl, hr6, hg6⟩
  have hne : w4.heap.size ≠ g' := by omega
  obtain ⟨z0, z1⟩ := HY.out
  have z0' := cell_grown z0 hg6 hne
  have z1' := cell_grown z1 hg6 hne
  have hfr6 := frozen_of_row w6 w4.heap.size 1 _ 99 ((hg6.block w4.heap.size (by simp) (fun e => hne (Option.some.inj e))).trans (heap_alloc_new w4 (Obj.cells #[.pointer (some ⟨g', 0, none⟩), .int .u64 0] 99)))
  have hrw6 := (HRW5.out).grown hg6 (by omega) (by omega)
  have hG6 := grown_far HG5.out hg6 (by omega)
  have HN2' := Lib.hid (HN2.out g' d' _ hr6)
  have HRW6 := Lib.hid hrw6
  have HG6 := Lib.hid hG6
  have hsz6 := hg6.size
  simp at hsz6
  clear hrw6 hG6 hr6 y0 y1 z0 z1
  go_wp2_with fail
  refine HN2'.out.mono ?_
  rintro e w7 ⟨rfl, hr7, hg7⟩
  have z0 := cell_grown z0' hg7 hne
  have z1 := cell_grown z1' hg7 hne
  have hblk : w7.heap[w4.heap.size]? = some (.cells #[.pointer (some ⟨g', 0, none⟩), .int .u64 0] 99 (0, 0)) := (hg7.block w4.heap.size (by omega) (fun e => hne (Option.some.inj e))).trans ((hg6.block w4.heap.size (by simp) (fun e => hne (Option.some.inj e))).trans (heap_alloc_new w4 (Obj.cells #[.pointer (some ⟨g', 0, none⟩), .int .u64 0] 99)))
  have hfr7 := frozen_of_row w7 w4.heap.size 1 _ 99 hblk
  have hk7 : w7.heap[w.heap.size]? = some (.cells #[.pointer none, .int .u64 0] 99 (0, 0)) := (hg7.block w.heap.size (by omega) (fun e => by have := Option.some.inj e; omega)).trans ((hg6.block w.heap.size (by simp; omega) (fun e => by have := Option.some.inj e; omega)).trans (((below_boxV w4 (Obj.cells #[.pointer (some ⟨g', 0, none⟩), .int .u64 0] 99)).block w.heap.size (by omega)).trans HK4.out))
  have k0 := cell_of_row w7 w.heap.size 0 _ 99 (0, 0) hk7
  have k1 := cell_of_row w7 w.heap.size 1 _ 99 (0, 0) hk7
  have kf := fun i => frozen_of_row w7 w.heap.size i _ 99 hk7
  have kf0 := kf 0
  have kf1 := kf 1
  have hrw : w.heap.size ≠ w4.heap.size := by omega
  have hRW7 := HRW6.out.grown hg7 (by omega) (by omega)
  have hG7 := grown_far HG6.out hg7 (by omega)
  have HF := Lib.hid (And.intro hr7 (And.intro hRW7 hG7))
  have hkS : (w7.setCell ⟨w4.heap.size, 1, none⟩ (.int .u64 n2)).heap[w.heap.size]? = some (.cells #[.pointer none, .int .u64 0] 99 (0, 0)) := (Below.heap_setCell _ _ _ _ (by show w.heap.size ≠ w4.heap.size; omega)).trans hk7
  have r1 := heap_setCell_same _ w.heap.size 0 _ 99 (.pointer (some ⟨g', 0, none⟩)) hkS
  have r2 := heap_setCell_same _ w.heap.size 1 _ 99 (.int .u64 n2) r1
  have R2 := Lib.hid r2
  have HARI := Lib.hid (And.intro hne (And.intro hg' (And.intro hd1 (And.intro hd2 (And.intro hsz2 (And.intro hsz3 (And.intro hsz4 (And.intro hg'lt (And.intro hglt hd)))))))))
  clear z0' z1' hfr6 hr7 hRW7 hG7 kf hfr r1 r2 hkS
  go_wp2_with fail
  obtain ⟨q1, q2, q3⟩ := HF.out
  obtain ⟨a0, a1, a2, a3, a4, a5, a6, a7, a8, a9⟩ := HARI.out
  exact bodyPost_ret (results_cell_row rfl _ _ w.heap.size 99 _ (0, 0) _ rfl R2.out Try.underlying99 rfl (by kernel_rfl)) rfl
    ⟨g', d', rfl, ((q1.set (by omega) (by omega) _ _).set (by omega) (by omega) _ _).set (by omega) (by omega) _ _, ((q2.set (by omega) (by omega) _ _).set (by omega) (by omega) _ _).set (by omega) (by omega) _ _, by omega, ⟨by omega, a3⟩,
      grown_setP (grown_setP (grown_setP q3 (by omega) _ _) (by omega) _ _) (by omega) _ _⟩

end Go.Proofs.Ytnafibnhmhbfiaa
