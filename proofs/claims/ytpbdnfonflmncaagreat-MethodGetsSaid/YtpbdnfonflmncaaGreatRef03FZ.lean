/-
  The contract of the document's Get of spans.
  Conditions: at most 2^47 bytes.
-/
import Derived.Test.YtpbdnfonflmncaaGreatSpansLZ
import Derived.Test.YtpbdnfonflmncaaGreatRefRdZ
namespace Go.Proofs.YtpbdnfonflmncaaGreat
open Go.RowKit
set_option linter.unusedVariables false
set_option linter.unusedSimpArgs false
set_option maxRecDepth 100000
theorem infoSpan : (Tryz.prog.info? 126).map (fun i => (i.zero, i.size, i.bytes)) = some (some (.agg #[.int .u32 0, .int .u32 0]), spanC.sz, 8) := by kernel_rfl
theorem numS_ok (q : Nat) (l : List UInt8) (hq : num (q : Int) = true) (h : q ≤ l.length) : numS (q : Int) (some l) = (numOf (l.take q), some (l.drop q)) := by
 unfold numS
 rw [if_pos hq, takeS_ok q l h]
theorem numS_far (q : Nat) (l : List UInt8) (hq : num (q : Int) = true) (h : l.length < q) : numS (q : Int) (some l) = (0, none) := by
 unfold numS
 rw [if_pos hq, takeS_far q l h]
 rfl
theorem QS.cell0 {w : World} {g d : Nat} {l : List UInt8} (h : QS w g d (some l)) : ∃ A c, w.cell? ⟨g, 0, none⟩ = some (.slice A l.length c) ∧ w.cell? ⟨g, 1, none⟩ = some (.bool false) := by
 obtain ⟨A, c, h1, _⟩ := h
 exact ⟨A, c, by rw [cell_of_row w g 0 _ 116 (0, 0) h1]; rfl, by rw [cell_of_row w g 1 _ 116 (0, 0) h1]; rfl⟩
theorem QS.cell1 {w : World} {g d : Nat} (h : QS w g d none) : w.cell? ⟨g, 1, none⟩ = some (.bool true) := by
 have h1 : w.heap[g]? = _ := h
 rw [cell_of_row w g 1 _ 116 (0, 0) h1]; rfl
set_option maxHeartbeats 1600000 in
theorem qget_any (v : Value) (d0 : Nat) (b : List UInt8) (w : World) (h : Shows w d0 v b) (hb : b.length ≤ 140737488355328) :
    Calls Tryz.prog 65 #[v] w fun e w' => ∃ v', e = .returned (.tuple #[v', .int .i64 ((getD_ b).2.1 : Nat), .int .i64 ((getD_ b).2.2 : Nat)]) ∧ OwnG spanC 126 w' w.heap.size v' (getD_ b).1 ∧ Below w.heap.size w w' := by
  have hopen := Lib.hid (qopen_any v b d0 w h hb)
  have hn2 := numOf2_lt b
  by_cases hlen : b.length < 2
  · have hD : getD_ b = ([], 0, 4) := by unfold getD_; rw [if_pos hlen]
    have hnum := Lib.hid (fun g d w' (hq : QS w' g d (some b)) => qnum_any g d (some b) 2 w' hq hb)
    rw [hD]
    have hfar : numS 2 (some b) = (0, none) := numS_far 2 b (by decide) hlen
    rw [hfar] at hnum
    clear hD hfar
    go_enter Tryz.func65, Tryz.ntmps65
    go_wp2_with fail
    refine hopen.out.mono ?_
    rintro e w1 ⟨g, d, rfl, hq, hg, _, hb1⟩
    go_wp2_with fail
    refine (hnum.out g d w1 hq).mono ?_
    rintro e w2 ⟨rfl, hq2, hg2⟩
    have hc1 := hq2.cell1
    have hb2 := hb1.trans (below_of_grown (hg2) hg hb1.size)
    go_wp2_with fail
    go_ret3
    exact ⟨_, rfl, OwnG.nil_ _ _ _ _, hb2⟩
  · have hnum := Lib.hid (fun g d w' (hq : QS w' g d (some b)) => qnum_any g d (some b) 2 w' hq hb)
    have hok : numS 2 (some b) = (numOf (b.take 2), some (b.drop 2)) := numS_ok 2 b (by decide) (by omega)
    rw [hok] at hnum
    clear hok
    have hD : getD_ b = if numOf (b.take 2) % 8 ≠ 0 ∨ 8000 < numOf (b.take 2) then ([], 0, 5)
      else if (b.drop 2).length < numOf (b.take 2) then ([], 0, 4)
      else if canon (readS (numOf (b.take 2) / 8) (b.drop 2)) then (readS (numOf (b.take 2) / 8) (b.drop 2), numOf (b.take 2) + 2, 0)
      else ([], 0, 5) := by
      unfold getD_
      rw [if_neg hlen]
      have : b.length < numOf (b.take 2) + 2 ↔ (b.drop 2).length < numOf (b.take 2) := by simp; omega
      simp only [this]
    rw [hD]
    clear hD hlen
    generalize numOf (b.take 2) = N at *
    have hrl : (b.drop 2).length ≤ 140737488355328 := by simp; omega
    generalize b.drop 2 = rest at *
    have hwN : IntKind.i64.wrap (N : Int) = (N : Int) := i64_id _ (by omega) (by omega)
    have hn2' := Lib.hid hn2
    by_cases hbad : N % 8 ≠ 0 ∨ 8000 < N
    · rw [if_pos hbad]
      clear hn2
      by_cases h8 : N % 8 = 0
      case' neg => have ht : ((N : Int) % 8 != 0) = true := by simp; omega
      case' pos =>
        have ht : ((N : Int) % 8 != 0) = false := by simp; omega
        have ht2 : decide ((8000 : Int) < (N : Int)) = true := by simp; omega
      all_goals
        clear h8 hbad
        go_enter Tryz.func65, Tryz.ntmps65
        go_wp2_with fail
        refine hopen.out.mono ?_
        rintro e w1 ⟨g, d, rfl, hq, hg, hdg, hb1⟩
        go_wp2_with fail
        refine (hnum.out g d w1 hq).mono ?_
        rintro e w2 ⟨rfl, hq2, hg2⟩
        obtain ⟨A, c, hc0, hc1⟩ := hq2.cell0
        have hb2 := hb1.trans (below_of_grown (hg2) hg hb1.size)
        go_wp2_with fail
        go_ret3
        exact ⟨_, rfl, OwnG.nil_ _ _ _ _, hb2⟩
    · rw [if_neg hbad]
      have h8 : N % 8 = 0 := by omega
      have h8000 : N ≤ 8000 := by omega
      have ht : ((N : Int) % 8 != 0) = false := by simp; omega
      have ht2 : decide ((8000 : Int) < (N : Int)) = false := by simp; omega
      by_cases hshort : rest.length < N
      · rw [if_pos hshort]
        have ht3 : (rest.length : Int) < (N : Int) := by omega
        clear h8 hbad hn2 hshort h8000
        go_enter Tryz.func65, Tryz.ntmps65
        go_wp2_with fail
        refine hopen.out.mono ?_
        rintro e w1 ⟨g, d, rfl, hq, hg, hdg, hb1⟩
        go_wp2_with fail
        refine (hnum.out g d w1 hq).mono ?_
        rintro e w2 ⟨rfl, hq2, hg2⟩
        obtain ⟨A, c, hc0, hc1⟩ := hq2.cell0
        have hb2 := hb1.trans (below_of_grown (hg2) hg hb1.size)
        go_wp2_with fail
        go_ret3
        exact ⟨_, rfl, OwnG.nil_ _ _ _ _, hb2⟩
      · rw [if_neg hshort]
        have ht3 : decide ((rest.length : Int) < (N : Int)) = false := by simp; omega
        obtain ⟨K, rfl⟩ : ∃ K, N = 8 * K := ⟨N / 8, by omega⟩
        have hK : K ≤ 1000 := by omega
        have hKr : 8 * K ≤ rest.length := by omega
        rw [show 8 * K / 8 = K by omega]
        obtain ⟨r, hr⟩ : ∃ r, r = if canon (readS K rest) then (readS K rest, 8 * K + 2, 0) else (([] : List Sp), (0 : Nat), (5 : Nat)) := ⟨_, rfl⟩
        rw [← hr]
        have HR := Lib.hid hr
        clear hr
        clear h8 hbad hn2 hshort h8000
        go_enter Tryz.func65, Tryz.ntmps65
        go_wp2_with fail
        refine hopen.out.mono ?_
        rintro e w1 ⟨g, d, rfl, hq, hg, hdg, hb1⟩
        go_wp2_with fail
        refine (hnum.out g d w1 hq).mono ?_
        rintro e w2 ⟨rfl, hq2, hg2⟩
        obtain ⟨A, c, hc0, hc1⟩ := hq2.cell0
        have hb2 := hb1.trans (below_of_grown (hg2) hg hb1.size)
        have hgl := hq2.lt
        go_wp2_with fail
        go_loopw [7, 8, 9, 10] (fun out i _ _ wr => ∃ k : Nat, k ≤ K ∧ i = .int .i64 (8 * k : Nat) ∧ QS wr g d (some (rest.drop (8 * k))) ∧ OwnG spanC 126 wr w2.heap.size out (readS k rest) ∧ Below w.heap.size w wr ∧ w2.heap.size ≤ wr.heap.size) (fun _ i _ _ _ => 8 * K - (intOf i).toNat)
        case atStart => exact ⟨0, by omega, rfl, by simpa using hq2, OwnG.nil_ _ _ _ _, hb2, Nat.le_refl _⟩
        case round =>
          obtain ⟨k, hk, rfl, hqk, ho, hbw, hsz⟩ := hrel
          by_cases hlt : k < K
          · have hkK : 8 * (k : Int) < 8 * (K : Int) := by omega
            have hl1 : 4 ≤ (rest.drop (8 * k)).length := by simp; omega
            have hl2 : 4 ≤ (rest.drop (8 * k + 4)).length := by simp; omega
            have e1 : numS 4 (some (rest.drop (8 * k))) = (numOf ((rest.drop (8 * k)).take 4), some (rest.drop (8 * k + 4))) := by
              rw [show (4 : Int) = ((4 : Nat) : Int) from rfl, numS_ok 4 _ (by decide) hl1, List.drop_drop]
            have e2 : numS 4 (some (rest.drop (8 * k + 4))) = (numOf ((rest.drop (8 * k + 4)).take 4), some (rest.drop (8 * (k + 1)))) := by
              rw [show (4 : Int) = ((4 : Nat) : Int) from rfl, numS_ok 4 _ (by decide) hl2, List.drop_drop]
              rfl
            have hN1 := Lib.hid (qnum_any g d (some (rest.drop (8 * k))) 4 wr hqk (by simp [lenS]; omega))
            have hN2 := Lib.hid (fun w' (hq : QS w' g d (some (rest.drop (8 * k + 4)))) => qnum_any g d (some (rest.drop (8 * k + 4))) 4 w' hq (by simp [lenS]; omega))
            rw [e1] at hN1
            rw [e2] at hN2
            have hsn := readS_snoc k rest
            have hx1 := numOf4_lt (rest.drop (8 * k))
            have hx2 := numOf4_lt (rest.drop (8 * k + 4))
            have hlen := readS_length k rest
            generalize numOf ((rest.drop (8 * k)).take 4) = x at *
            generalize numOf ((rest.drop (8 * k + 4)).take 4) = y at *
            have y1 : (x : Int) % 4294967296 = (x : Int) := by omega
            have y2 : (y : Int) % 4294967296 = (y : Int) := by omega
            have HSN := Lib.hid hsn
            clear hsn e1 e2 hx1 hx2 hl1 hl2
            go_wp2_with fail
            refine hN1.out.mono ?_
            rintro e w3 ⟨rfl, hq3, hg3⟩
            have ho3 : OwnG spanC 126 w3 w2.heap.size u7 (readS k rest) := ho.keep fun q hq => hg3.block q (ho.block q hq).2 (fun e => by cases e; have := (ho.block g hq).1; omega)
            go_wp2_with fail
            refine (hN2.out w3 hq3).mono ?_
            rintro e w4 ⟨rfl, hq4, hg4⟩
            have ho4 : OwnG spanC 126 w4 w2.heap.size u7 (readS k rest) := ho3.keep fun q hq => hg4.block q (ho3.block q hq).2 (fun e => by cases e; have := (ho3.block g hq).1; omega)
            have hw3 := hbw.trans ((below_of_grown hg3 hg hbw.size))
            have hw4 := hw3.trans ((below_of_grown hg4 hg hw3.size))
            have hs3 := hg3.size
            have hs4 := hg4.size
            go_wp2_with (at_builtin
                         refine wpList_appendG spanC _ rfl (.tmp 43) (.tmp 49) 45 rfl w2.heap.size 126 (.agg #[.int .u32 0, .int .u32 0]) 8 Tryz.underlying45 infoSpan rfl u7 (readS k rest) rfl (ho4.alloc_ _) w4.heap.size (.slice (some ⟨w4.heap.size, 0, none⟩) 1 1) [(x, y)] rfl (ShowsG.lit (C := spanC) [(x, y)] (by simp [Code.all, pairC]) (by simp [maxLen])) (by simp; omega) (by simp; omega) (by simp; omega) ?_
                         intro v5 w5 ho5 hg5)
            have hqf : QS w5 g d (some (rest.drop (8 * (k + 1)))) := by
              have hga : g < w4.heap.size := hq4.lt
              have hne : ∀ q, q < w2.heap.size → q < w4.heap.size → w5.heap[q]? = w4.heap[q]? := fun q h1 h2 =>
                (hg5.block q (by simp; omega) (fun e => by have := (ho4.block q e.symm).1; omega)).trans (Below.heap_alloc w4 _ q h2)
              refine hq4.keep (by have := hg5.size; simp at this; omega) (hne g hgl hga) (fun hd => hne d (by omega) hd)
            have hs5 := hg5.size
            have hw5 : Below w.heap.size w w5 := (hw4.alloc hw4.size _).grown hg5 (by have := hw4.size; simp; omega) (fun q hq => by have := (ho4.block q hq).1; have := hb2.size; omega)
            go_roundw
            case rel => exact ⟨k + 1, by omega, by simp; go_num, hqf, by rw [HSN.out]; exact ho5, hw5, by simp at hs5; omega⟩
            case measure => simp [intOf]; omega
          · obtain rfl : k = K := by omega
            have hlen := readS_length k rest
            obtain ⟨A7, c7, hv7, _, _⟩ := ho.form
            rw [hlen] at hv7
            subst hv7
            obtain ⟨g7, _, hs7⟩ := ho.shows
            have hright := Lib.hid (qright_any A7 c7 k g7 (readS k rest) wr hlen hs7 (readS_u32 k rest) (by omega))
            have hoB : OwnG spanC 126 wr w.heap.size (.slice A7 k c7) (readS k rest) := ho.mono hb2.size
            clear hlen
            by_cases hcan : canon (readS k rest)
            · rw [show decide (canon (readS k rest)) = true by simpa using hcan] at hright
              have hr := HR.out
              rw [if_pos hcan] at hr
              obtain ⟨r1, r2, r3⟩ := r
              obtain ⟨rfl, rfl, rfl⟩ : r1 = _ ∧ r2 = _ ∧ r3 = _ := by simpa using hr
              clear hcan HR hr
              go_wp2_with fail
              refine hright.out.mono ?_
              rintro e w' ⟨rfl, m, rfl⟩
              go_wp2_with fail
              go_ret3
              exact ⟨_, by simp; try rfl, hoB, below_drewN hbw _⟩
            · rw [show decide (canon (readS k rest)) = false by simpa using hcan] at hright
              have hr := HR.out
              rw [if_neg hcan] at hr
              obtain ⟨r1, r2, r3⟩ := r
              obtain ⟨rfl, rfl, rfl⟩ : r1 = _ ∧ r2 = _ ∧ r3 = _ := by simpa using hr
              clear hcan HR hr
              go_wp2_with fail
              refine hright.out.mono ?_
              rintro e w' ⟨rfl, m, rfl⟩
              go_wp2_with fail
              go_ret3
              exact ⟨_, rfl, OwnG.nil_ _ _ _ _, below_drewN hbw _⟩
end Go.Proofs.YtpbdnfonflmncaaGreat
