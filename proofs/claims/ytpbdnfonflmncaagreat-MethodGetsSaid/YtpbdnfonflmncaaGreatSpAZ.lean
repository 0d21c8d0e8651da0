/-
  Texts, together: SpA, SpG, SpH.
  Conditions: none but sizes.
-/
import Derived.Deep.LoopGhost
import Derived.Shelf.RegionOpenPlain
import Derived.Test.YtpbdnfonflmncaaGreatRef03AZ
import Derived.Test.YtpbdnfonflmncaaGreatSpansLZ
import Derived.Test.YtpbdnfonflmncaaGreatRef03FZ
set_option linter.unusedVariables false
set_option linter.unusedSimpArgs false
namespace Go.Proofs.YtpbdnfonflmncaaGreat
open Go.RowKit
set_option maxHeartbeats 800000 in
theorem right_any (A : Option Addr) (c n d : Nat) (l : List Sp) (w : World) (hn : l.length = n) (hl : ShowsG spanC w d (.slice A n c) l) (hu : u32s l) (hb : n ≤ 17592186044416) :
  Calls Tryz.prog 54 #[.slice A n c] w fun e w' => e = .returned (.bool (decide (canon l))) ∧ Below w.heap.size w w' := by
 subst hn
 have HC := canon_iff l
 go_enter Tryz.func54, Tryz.ntmps54
 go_wp2_with fail
 go_loopw [7] (fun i wr => ∃ k : Nat, k ≤ l.length ∧ i = .int .i64 k ∧ Below w.heap.size w wr ∧ ∀ j (h : j < l.length), j < k → l[j].1 ≤ l[j].2 ∧ (0 < j → ∀ (h' : j - 1 < l.length), l[j - 1].2 + 2 ≤ l[j].1)) (fun i _ => l.length - (intOf i).toNat)
 case atStart => exact ⟨0, Nat.zero_le _, rfl, Below.refl _ _, fun j _ h => absurd h (by omega)⟩
 case round =>
  rename World => x
  obtain ⟨k, hk, rfl, hbw, hok⟩ := hrel
  by_cases hlt : k < l.length
  ·obtain ⟨o, rfl, _, hcl⟩ := (hl.below' hbw (Nat.le_refl _)).at_ (by omega)
   have c1 := span_cell1 hcl hlt
   have c2 := span_cell2 hcl hlt
   obtain ⟨b1, b2⟩ := u32s_get hu hlt
   have hkl : (k : Int) < (l.length : Int) := by omega
   have hlt' := (hl.below' hbw (Nat.le_refl _)).lt (by omega)
   have hbad : (l[k].1 ≤ l[k].2 ∧ (0 < k → ∀ (h' : k - 1 < l.length), l[k - 1].2 + 2 ≤ l[k].1)) ∨ decide (canon l) = false := by
    by_cases hc : canon l
    ·exact .inl (HC.1 hc k hlt)
    ·exact .inr (by simp [hc])
   by_cases h1 : l[k].2 < l[k].1
   ·have hd : decide (((l[k].2 : Nat) : Int) < ((l[k].1 : Nat) : Int)) = true := by simp; omega
    have hfin : decide (canon l) = false := by
     rcases hbad with h | h
     ·omega
     ·exact h
    generalize l[k].1 = a at *
    generalize l[k].2 = b at *
    clear hok hbad hcl HC b1 b2
    go_wp2_with fail
    go_ret
    exact ⟨by first | rfl | (rw [hfin]; rfl), hbw.alloc hbw.size _⟩
   ·have hd : decide (((l[k].2 : Nat) : Int) < ((l[k].1 : Nat) : Int)) = false := by simp; omega
    by_cases hk0 : k = 0
    ·subst hk0
     have hstep : ∀ j (h : j < l.length), j < 0 + 1 → l[j].1 ≤ l[j].2 ∧ (0 < j → ∀ (h' : j - 1 < l.length), l[j - 1].2 + 2 ≤ l[j].1) := fun j hj hj1 => by
      obtain rfl : j = 0 := by omega
      exact ⟨by omega, fun h => absurd h (by omega)⟩
     have HST := Lib.hid hstep
     generalize l[0].1 = a at *
     generalize l[0].2 = b at *
     clear hok hbad hcl HC b1 b2 hstep
     rw [Nat.zero_mul, Nat.add_zero] at c1 c2
     go_wp2_with fail
     go_quiet (fail)
     go_wp2_with fail
     go_roundw
     case rel => exact ⟨1, by omega, rfl, below_drewN (hbw.alloc hbw.size _) _, HST.out⟩
     case measure => simp [intOf]; omega
    ·obtain ⟨j, rfl⟩ : ∃ j, k = j + 1 := ⟨k - 1, by omega⟩
     have hj : j < l.length := by omega
     have c3 := span_cell2 hcl hj
     obtain ⟨b3, b4⟩ := u32s_get hu hj
     have hjl : (j : Int) < (l.length : Int) := by omega
     have hjl1 : (j : Int) + 1 < (l.length : Int) := by omega
     by_cases h2 : l[j + 1].1 < l[j].2 + 2
     ·have hd2 : decide (((l[j + 1].1 : Nat) : Int) < ((l[j].2 : Nat) : Int) + 2) = true := by simp; omega
      have hfin : decide (canon l) = false := by
       rcases hbad with h | h
       ·have := h.2 (by omega) (by omega); simp at this; omega
       ·exact h
      generalize l[j + 1].1 = a at *
      generalize l[j + 1].2 = b at *
      generalize l[j].2 = e at *
      clear hok hbad hcl HC
      go_wp2_with fail
      go_quiet (fail)
      go_wp2_with fail
      go_ret
      exact ⟨by first | rfl | (rw [hfin]; rfl), below_drewN (hbw.alloc hbw.size _) _⟩
     ·have hd2 : decide (((l[j + 1].1 : Nat) : Int) < ((l[j].2 : Nat) : Int) + 2) = false := by simp; omega
      have hstep : ∀ i (h : i < l.length), i < j + 1 + 1 → l[i].1 ≤ l[i].2 ∧ (0 < i → ∀ (h' : i - 1 < l.length), l[i - 1].2 + 2 ≤ l[i].1) := fun i hi hij => by
       by_cases hij2 : i < j + 1
       ·exact hok i hi hij2
       ·obtain rfl : i = j + 1 := by omega
        exact ⟨by omega, fun _ _ => by simp; omega⟩
      have HST := Lib.hid hstep
      generalize l[j + 1].1 = a at *
      generalize l[j + 1].2 = b at *
      generalize l[j].2 = e at *
      clear hok hbad hcl HC hstep
      go_wp2_with fail
      go_quiet (fail)
      go_wp2_with fail
      go_roundw
      case rel => exact ⟨j + 1 + 1, by omega, by go_num, below_drewN (hbw.alloc hbw.size _) _, HST.out⟩
      case measure => simp [intOf]; omega
  ·have hfin : decide (canon l) = true := by simp [HC.2 fun k h => hok k h (by omega)]
   clear hok HC
   go_wp2_with fail
   go_ret
   exact ⟨by first | rfl | (rw [hfin]; rfl), hbw⟩
theorem put2_nil (n : Nat) (w : World) : Calls Tryz.prog 18 #[.slice none 0 0, .int .u64 n, .int .i64 2] w fun e w' => ∃ v', e = .returned v' ∧ Own 5 w' w.heap.size v' (be 2 n) ∧ Below w.heap.size w w' :=
 (put_any _ [] 0 n 2 w (Shows.nil_ _ _) (by simp)).mono fun e w' h => by simpa [show wd 2 = 2 from rfl] using h
theorem put4_nil (n : Nat) (w : World) : Calls Tryz.prog 18 #[.slice none 0 0, .int .u64 n, .int .i64 4] w fun e w' => ∃ v', e = .returned v' ∧ Own 5 w' w.heap.size v' (be 4 n) ∧ Below w.heap.size w w' :=
 (put_any _ [] 0 n 4 w (Shows.nil_ _ _) (by simp)).mono fun e w' h => by simpa [show wd 4 = 4 from rfl] using h
set_option maxHeartbeats 1600000 in
theorem putS_any (A1 : Option Addr) (c1 n1 d1 : Nat) (l : List Sp) (w : World) (hn1 : l.length = n1) (h1 : ShowsG spanC w d1 (.slice A1 n1 c1) l) (hu1 : u32s l) (hb1 : n1 ≤ 68719476736) :
    Calls Tryz.prog 39 #[.slice A1 n1 c1] w fun e w' => ∃ v code r, e = .returned (.tuple #[v, .int .i64 code]) ∧ Own 5 w' w.heap.size v r ∧ Below w.heap.size w w' ∧ PutSaid l code r := by
  subst hn1
  have hr1 := Lib.hid (right_any A1 c1 l.length d1 l w rfl h1 hu1 (by omega))
  by_cases ha : canon l
  · rw [show decide (canon l) = true by simpa using ha] at hr1
    have HA := Lib.hid ha
    clear ha
    by_cases hlen : l.length ≤ 1000
    · have hd : decide ((1000 : Int) < (l.length : Int)) = false := by simp; omega
      have HNUM := Lib.hid (fun w' => put2_nil (8 * l.length) w')
      go_enter Tryz.func39, Tryz.ntmps39
      go_wp2_with fail
      refine hr1.out.mono ?_
      rintro e w0 ⟨rfl, hb0⟩
      go_wp2_with fail
      rw [show (8 * (l.length : Int)) = ((8 * l.length : Nat) : Int) by omega]
      refine (HNUM.out w0).mono ?_
      rintro e w1 ⟨v1, rfl, ho1, hb1'⟩
      have hw1 : Below w.heap.size w w1 := hb0.trans (hb1'.mono hb0.size)
      have ho1' : Own 5 w1 w.heap.size v1 (be 2 (8 * l.length)) := ho1.mono hb0.size
      clear ho1 hb1' HNUM hr1
      go_wp2_with fail
      go_loopw [4, 20] (fun out i wr => ∃ k : Nat, k ≤ l.length ∧ i = .int .i64 k ∧ Own 5 wr w.heap.size out (be 2 (8 * l.length) ++ (l.take k).flatMap fun s => be 4 s.1 ++ be 4 s.2) ∧ Below w.heap.size w wr) (fun _ i _ => l.length - (intOf i).toNat)
      case atStart => exact ⟨0, by omega, rfl, by simpa using ho1', hw1⟩
      case round =>
        rename World => wr
        obtain ⟨k, hk, rfl, ho, hbw⟩ := hrel
        by_cases hlt : k < l.length
        · obtain ⟨o, rfl, _, hcl⟩ := (h1.below' hbw (Nat.le_refl _)).at_ (by omega)
          have c1' := span_cell1 hcl hlt
          have c2' := span_cell2 hcl hlt
          have hdl := (h1.below' hbw (Nat.le_refl _)).lt (by omega)
          clear hcl
          obtain ⟨b1, b2⟩ := u32s_get hu1 hlt
          have hkl : (k : Int) < (l.length : Int) := by omega
          have hfl : (be 2 (8 * l.length) ++ (l.take (k + 1)).flatMap fun s => be 4 s.1 ++ be 4 s.2) = (be 2 (8 * l.length) ++ (l.take k).flatMap fun s => be 4 s.1 ++ be 4 s.2) ++ be 4 l[k].1 ++ be 4 l[k].2 := by
            rw [flat_take l k hlt]
            simp only [List.append_assoc]
          have hsz : (be 2 (8 * l.length) ++ (l.take k).flatMap fun s => be 4 s.1 ++ be 4 s.2).length = 2 + 8 * k := by
            rw [List.length_append, be_length, encS_length_le, List.length_take]; omega
          generalize (be 2 (8 * l.length) ++ (l.take k).flatMap fun s => be 4 s.1 ++ be 4 s.2) = acc at *
          have HFL := Lib.hid hfl
          generalize l[k].1 = x at *
          generalize l[k].2 = y at *
          have y1 : (x : Int) % 18446744073709551616 = (x : Int) := by omega
          have y2 : (y : Int) % 18446744073709551616 = (y : Int) := by omega
          have hlx : (be 4 x).length = 4 := be_length _ _
          have hly : (be 4 y).length = 4 := be_length _ _
          have HLX := Lib.hid (And.intro hsz (And.intro hlx hly))
          have hs0 := hbw.size
          clear hfl hsz hlx hly hu1
          have hn1 := Lib.hid (fun w' => put4_nil x w')
          have hn2 := Lib.hid (fun w' => put4_nil y w')
          go_wp2_with fail
          refine (hn1.out _).mono ?_
          rintro e w2 ⟨v2, rfl, ho2, hb2⟩
          have hw2 : Below w.heap.size w w2 := (hbw.alloc hs0 _).trans (hb2.mono (by simp; omega))
          have hoa : Own 5 w2 w.heap.size u4 acc := ho.keep fun g hg => (hb2.block g (by have := (ho.block g hg).2; simp; omega)).trans (Below.heap_alloc wr _ g (ho.block g hg).2)
          have k2 : w2.cell? ⟨wr.heap.size, 1, none⟩ = some (.int .u32 (y : Nat)) := (hb2.cell (p := ⟨wr.heap.size, 1, none⟩) (by simp)).trans (cell_of_row _ _ 1 _ 126 (0, 0) (heap_alloc_new wr _))
          obtain ⟨g2, hg2, hs2⟩ := ho2.shows
          have hl2 := ho2.form
          have hz2 : wr.heap.size < w2.heap.size := by have := hb2.size; simp at this; omega
          go_wp2_with (at_builtin
                       refine wpList_append8 _ rfl (.tmp 24) (.tmp 28) 28 rfl w.heap.size 5 Tryz.underlying28 info5 u4 acc rfl hoa g2 v2 (be 4 x) rfl hs2 (by have := HLX.out; omega) hw2.size ?_
                       intro v3 w3 ho3 hg3
                       have hw3 : Below w.heap.size w w3 := hw2.grown hg3 hw2.size (fun q hq => (hoa.block q hq).1)
                       have k3 : w3.cell? ⟨wr.heap.size, 1, none⟩ = some (.int .u32 (y : Nat)) := hg3.cell k2 (fun e => by have := (ho.block _ e.symm).2; simp at this))
          refine (hn2.out w3).mono ?_
          rintro e w4 ⟨v4, rfl, ho4, hb4⟩
          have hw4 : Below w.heap.size w w4 := hw3.trans (hb4.mono hw3.size)
          have ho3' : Own 5 w4 w.heap.size v3 (acc ++ be 4 x) := ho3.keep fun g hg => hb4.block g (ho3.block g hg).2
          obtain ⟨g4, hg4, hs4⟩ := ho4.shows
          go_wp2_with (at_builtin
                       refine wpList_append8 _ rfl (.tmp 30) (.tmp 34) 28 rfl w.heap.size 5 Tryz.underlying28 info5 v3 (acc ++ be 4 x) rfl ho3' g4 v4 (be 4 y) rfl hs4 (by have := HLX.out; rw [List.length_append]; omega) hw4.size ?_
                       intro v5 w5 ho5 hg5)
          go_roundw
          case rel => exact ⟨k + 1, by omega, by go_num, by rw [HFL.out]; exact ho5, hw4.grown hg5 hw4.size (fun q hq => (ho3'.block q hq).1)⟩
          case measure => simp [intOf]; omega
        · have hE : Hid ((be 2 (8 * l.length) ++ (l.take k).flatMap fun s => be 4 s.1 ++ be 4 s.2) = encS l) := by
            show _ = _
            rw [List.take_of_length_le (by omega)]
            rfl
          go_wp2_with fail
          go_ret2
          exact ⟨_, _, _, rfl, ho, hbw, .inl ⟨HA.out, hlen, rfl, hE.out⟩⟩
    · have hd : (1000 : Int) < (l.length : Int) := by omega
      go_enter Tryz.func39, Tryz.ntmps39
      go_wp2_with fail
      refine hr1.out.mono ?_
      rintro e w0 ⟨rfl, hb0⟩
      go_wp2_with fail
      go_ret2
      exact ⟨_, _, [], rfl, Own.nil_ _ _ _, hb0, .inr (.inr ⟨HA.out, hlen, rfl, rfl⟩)⟩
  · rw [show decide (canon l) = false by simpa using ha] at hr1
    go_enter Tryz.func39, Tryz.ntmps39
    go_wp2_with fail
    refine hr1.out.mono ?_
    rintro e w0 ⟨rfl, hb0⟩
    go_wp2_with fail
    go_ret2
    exact ⟨_, _, [], rfl, Own.nil_ _ _ _, hb0, .inr (.inl ⟨ha, rfl, rfl⟩)⟩
theorem readS_take : ∀ (k : Nat) (b : List UInt8) (m : Nat), 8 * k ≤ m → readS k (b.take m) = readS k b
 | 0, _, _, _ => rfl
 | k + 1, b, m, h => by
  rw [readS, readS, List.drop_take, List.drop_take, readS_take k (b.drop 8) (m - 8) (by omega), List.take_take, List.take_take, Nat.min_eq_left (by omega), Nat.min_eq_left (by omega)]
theorem left_yes (g d : Nat) (l : List UInt8) (w : World) (h : RS w g d (some l)) : Calls Tryz.prog 115 #[.pointer (some ⟨g, 0, none⟩)] w fun e w' => e = .returned (.int .i64 (l.length : Nat)) ∧ w = w' := by
 have := left_any g d l true w h
 simpa using this
set_option maxHeartbeats 1600000 in
theorem pairs_any (v : Value) (d0 K : Nat) (b : List UInt8) (w : World) (h : Shows w d0 v b) (hb : b.length = 8 * K) (hK : K ≤ 1000) :
    Calls Tryz.prog 116 #[v] w fun e w' => ∃ v', e = .returned v' ∧ OwnG spanC 126 w' w.heap.size v' (readS K b) ∧ Below w.heap.size w w' := by
  have hopen := Lib.hid (open_any v b d0 w h (by omega))
  have HB := Lib.hid hb
  clear h hb
  go_enter Tryz.func116, Tryz.ntmps116
  go_wp2_with fail
  refine hopen.out.mono ?_
  rintro e w1 ⟨g, d, rfl, hq, hg, hdg, hb1⟩
  have hgl := hq.lt
  go_wp2_with fail
  go_loopg [3, 5, 6] K (fun kx out _ _ wr => ∃ k : Nat, k + kx = K ∧ RS wr g d (some (b.drop (8 * k))) ∧ OwnG spanC 126 wr w1.heap.size out (readS k b) ∧ Below w.heap.size w wr ∧ w1.heap.size ≤ wr.heap.size)
  case atStart => exact ⟨0, by omega, by simpa using hq, OwnG.nil_ _ _ _ _, hb1, Nat.le_refl _⟩
  case round =>
    obtain ⟨k, hkx, hqk, ho, hbw, hsz⟩ := hrel
    have hlen := HB.out
    have hL := Lib.hid (left_yes g d _ wr hqk)
    by_cases hlt : k < K
    · obtain ⟨kx, rfl⟩ : ∃ kx, gk = kx + 1 := ⟨gk - 1, by omega⟩
      have hl0 : (b.drop (8 * k)).length = 8 * (K - k) := by simp; omega
      have hl1 : 4 ≤ (b.drop (8 * k)).length := by simp; omega
      have hl2 : 4 ≤ (b.drop (8 * k + 4)).length := by simp; omega
      have e1 : numS 4 (some (b.drop (8 * k))) = (numOf ((b.drop (8 * k)).take 4), some (b.drop (8 * k + 4))) := by
        rw [show (4 : Int) = ((4 : Nat) : Int) from rfl, numS_ok 4 _ (by decide) hl1, List.drop_drop]
      have e2 : numS 4 (some (b.drop (8 * k + 4))) = (numOf ((b.drop (8 * k + 4)).take 4), some (b.drop (8 * (k + 1)))) := by
        rw [show (4 : Int) = ((4 : Nat) : Int) from rfl, numS_ok 4 _ (by decide) hl2, List.drop_drop]
        rfl
      have hN1 := Lib.hid (num_any g d (some (b.drop (8 * k))) 4 wr hqk (by simp [lenS]; omega))
      have hN2 := Lib.hid (fun w' (hq : RS w' g d (some (b.drop (8 * k + 4)))) => num_any g d (some (b.drop (8 * k + 4))) 4 w' hq (by simp [lenS]; omega))
      rw [e1] at hN1
      rw [e2] at hN2
      have hsn := readS_snoc k b
      have hx1 := numOf4_lt (b.drop (8 * k))
      have hx2 := numOf4_lt (b.drop (8 * k + 4))
      have hlenr := readS_length k b
      generalize numOf ((b.drop (8 * k)).take 4) = x at *
      generalize numOf ((b.drop (8 * k + 4)).take 4) = y at *
      have y1 : (x : Int) % 4294967296 = (x : Int) := by omega
      have y2 : (y : Int) % 4294967296 = (y : Int) := by omega
      have HSN := Lib.hid hsn
      have HLR := Lib.hid hlenr
      rw [hl0] at hL
      have hpos : (0 : Int) < ((8 * (K - k) : Nat) : Int) := by omega
      generalize 8 * (K - k) = rl at *
      clear hsn e1 e2 hx1 hx2 hl1 hl2 hl0 hlenr hlen
      go_wp2_with fail
      refine hL.out.mono ?_
      rintro e w' ⟨rfl, rfl⟩
      go_wp2_with fail
      refine hN1.out.mono ?_
      rintro e w3 ⟨rfl, hq3, hg3⟩
      have ho3 : OwnG spanC 126 w3 w1.heap.size u3 (readS k b) := ho.keep fun q hq => hg3.block q (ho.block q hq).2 (fun e => by cases e; have := (ho.block g hq).1; omega)
      go_wp2_with fail
      refine (hN2.out w3 hq3).mono ?_
      rintro e w4 ⟨rfl, hq4, hg4⟩
      have ho4 : OwnG spanC 126 w4 w1.heap.size u3 (readS k b) := ho3.keep fun q hq => hg4.block q (ho3.block q hq).2 (fun e => by cases e; have := (ho3.block g hq).1; omega)
      have hw3 := hbw.trans ((below_of_grown hg3 hg hbw.size))
      have hw4 := hw3.trans ((below_of_grown hg4 hg hw3.size))
      have hs3 := hg3.size
      have hs4 := hg4.size
      go_wp2_with (at_builtin
                   refine wpList_appendG spanC _ rfl (.tmp 16) (.tmp 22) 45 rfl w1.heap.size 126 (.agg #[.int .u32 0, .int .u32 0]) 8 Tryz.underlying45 infoSpan rfl u3 (readS k b) rfl (ho4.alloc_ _) w4.heap.size (.slice (some ⟨w4.heap.size, 0, none⟩) 1 1) [(x, y)] rfl (ShowsG.lit (C := spanC) [(x, y)] (by simp [Code.all, pairC]) (by simp [maxLen])) (by have := HLR.out; simp; omega) (by have := HLR.out; simp; omega) (by simp; omega) ?_
                   intro v5 w5 ho5 hg5)
      have hqf : RS w5 g d (some (b.drop (8 * (k + 1)))) := by
        have hga : g < w4.heap.size := hq4.lt
        have hne : ∀ q, q < w1.heap.size → q < w4.heap.size → w5.heap[q]? = w4.heap[q]? := fun q h1 h2 =>
          (hg5.block q (by simp; omega) (fun e => by have := (ho4.block q e.symm).1; omega)).trans (Below.heap_alloc w4 _ q h2)
        refine hq4.keep (by have := hg5.size; simp at this; omega) (hne g hgl hga) (fun hd => hne d (by omega) hd)
      have hs5 := hg5.size
      have hw5 : Below w.heap.size w w5 := (hw4.alloc hw4.size _).grown hg5 (by have := hw4.size; simp; omega) (fun q hq => by have := (ho4.block q hq).1; have := hb1.size; omega)
      go_roundg kx
      case measure => omega
      case rel => exact ⟨k + 1, by omega, hqf, by rw [HSN.out]; exact ho5, hw5, by simp at hs5; omega⟩
    · obtain rfl : k = K := by omega
      have hl0 : (b.drop (8 * k)).length = 0 := by simp; omega
      rw [hl0] at hL
      clear hl0 hlen
      go_wp2_with fail
      refine hL.out.mono ?_
      rintro e w' ⟨rfl, rfl⟩
      go_wp2_with fail
      go_ret
      exact ⟨_, rfl, ho.mono hb1.size, hbw⟩
set_option maxHeartbeats 1600000 in
theorem getS_any (v : Value) (d0 : Nat) (b : List UInt8) (w : World) (h : Shows w d0 v b) (hb : b.length ≤ 140737488355328) :
  Calls Tryz.prog 107 #[v] w fun e w' => ∃ v', e = .returned (.tuple #[v', .int .i64 ((getD_ b).2.1 : Nat), .int .i64 ((getD_ b).2.2 : Nat)]) ∧ OwnG spanC 126 w' w.heap.size v' (getD_ b).1 ∧ Below w.heap.size w w' := by
 obtain ⟨A, c, rfl, hc1, hc2, hc3⟩ := id h
 clear hc3
 have hcm := hc2
 unfold maxLen at hcm
 by_cases hlen : b.length < 2
 ·have hD : getD_ b = ([], 0, 4) := by unfold getD_; rw [if_pos hlen]
  rw [hD]
  have hlI : decide ((b.length : Int) < 2) = true := by simp; omega
  clear h hD
  go_enter Tryz.func107, Tryz.ntmps107
  go_wp2_with fail
  go_ret3
  exact ⟨_, rfl, OwnG.nil_ _ _ _ _, Below.refl _ _⟩
 ·have hn2 := numOf2_lt b
  have hlI : decide ((b.length : Int) < 2) = false := by simp; omega
  have hh := h.head' (k := 2) (c' := 2) (by omega) (Nat.le_refl _) (by omega)
  have hopen := Lib.hid (open_any _ (b.take 2) d0 w hh (by simp; omega))
  have hnum := Lib.hid (fun g d w' (hq : RS w' g d (some (b.take 2))) => num_any g d (some (b.take 2)) 2 w' hq (by simp [lenS]; omega))
  have hok : (numS 2 (some (b.take 2))) = (numOf (b.take 2), some []) := by
   rw [show (2 : Int) = ((2 : Nat) : Int) from rfl, numS_ok 2 (b.take 2) (by decide) (by simp; omega), List.take_take]
   simp
  rw [hok] at hnum
  have hD : getD_ b = if numOf (b.take 2) % 8 ≠ 0 ∨ 8000 < numOf (b.take 2) then ([], 0, 5)
   else if b.length < numOf (b.take 2) + 2 then ([], 0, 4)
   else if canon (readS (numOf (b.take 2) / 8) (b.drop 2)) then (readS (numOf (b.take 2) / 8) (b.drop 2), numOf (b.take 2) + 2, 0)
   else ([], 0, 5) := by
   unfold getD_
   rw [if_neg hlen]
  rw [hD]
  generalize numOf (b.take 2) = N at *
  have hc2I : (2 : Int) ≤ (c : Int) := by omega
  have HS := Lib.hid h
  clear h hh hok hD
  by_cases hbad : N % 8 ≠ 0 ∨ 8000 < N
  ·rw [if_pos hbad]
   by_cases h8 : N % 8 = 0
   case' neg => have ht : ((N : Int) % 8 != 0) = true := by simp; omega
   case' pos =>
    have ht : ((N : Int) % 8 != 0) = false := by simp; omega
    have ht2 : decide ((8000 : Int) < (N : Int)) = true := by simp; omega
   all_goals
    clear h8 hbad
    go_enter Tryz.func107, Tryz.ntmps107
    go_wp2_with fail
    refine hopen.out.mono ?_
    rintro e w1 ⟨g, d, rfl, hq, hg, hdg, hb1⟩
    go_wp2_with fail
    refine (hnum.out g d w1 hq).mono ?_
    rintro e w2 ⟨rfl, hq2, hg2⟩
    have hb2 := hb1.trans (below_of_grown hg2 hg hb1.size)
    go_wp2_with fail
    go_ret3
    exact ⟨_, rfl, OwnG.nil_ _ _ _ _, hb2⟩
  ·rw [if_neg hbad]
   have h8 : N % 8 = 0 := by omega
   have h8000 : N ≤ 8000 := by omega
   have ht : ((N : Int) % 8 != 0) = false := by simp; omega
   have ht2 : decide ((8000 : Int) < (N : Int)) = false := by simp; omega
   by_cases hshort : b.length < N + 2
   ·rw [if_pos hshort]
    have ht3 : (b.length : Int) < 2 + (N : Int) := by omega
    clear h8 hbad hn2 hshort
    go_enter Tryz.func107, Tryz.ntmps107
    go_wp2_with fail
    refine hopen.out.mono ?_
    rintro e w1 ⟨g, d, rfl, hq, hg, hdg, hb1⟩
    go_wp2_with fail
    refine (hnum.out g d w1 hq).mono ?_
    rintro e w2 ⟨rfl, hq2, hg2⟩
    have hb2 := hb1.trans (below_of_grown hg2 hg hb1.size)
    go_wp2_with fail
    go_ret3
    exact ⟨_, rfl, OwnG.nil_ _ _ _ _, hb2⟩
   ·rw [if_neg hshort]
    have ht3 : ¬ ((b.length : Int) < 2 + (N : Int)) := by omega
    have hendc : 2 + (N : Int) ≤ (c : Int) := by omega
    obtain ⟨K, rfl⟩ : ∃ K, N = 8 * K := ⟨N / 8, by omega⟩
    have hK : K ≤ 1000 := by omega
    have hKb : 8 * K + 2 ≤ b.length := by omega
    obtain ⟨o, rfl, _⟩ := HS.out.at_ (by omega)
    have hread : readS K ((b.take (8 * K + 2)).drop 2) = readS K (b.drop 2) := by
     rw [List.drop_take]
     exact readS_take K _ _ (by omega)
    have hsh : ∀ W, Below w.heap.size w W → Shows W d0 (.slice (some ⟨d0, (if K = 0 then o else o + 2), none⟩) (8 * K) (8 * K)) ((b.take (8 * K + 2)).drop 2) := fun W hbW => by
     have h9 := (HS.out.keep (w' := W) hbW.size fun hp => hbW.block d0 (HS.out.lt hp)).head' (k := 8 * K + 2) (c' := 8 * K + 2) hKb (Nat.le_refl _) (by omega)
     have := h9.tail (k := 2) (by simp; omega) (some ⟨d0, (if K = 0 then o else o + 2), none⟩) (fun hne => by rw [if_neg (by omega)]; simp [Addr.add])
     simpa using this
    have hp := Lib.hid (fun W (hbW : Below w.heap.size w W) => pairs_any _ d0 K _ W (hsh W hbW) (by simp; omega) hK)
    rw [hread] at hp
    rw [show 8 * K / 8 = K by omega]
    obtain ⟨r, hr⟩ : ∃ r, r = if canon (readS K (b.drop 2)) then (readS K (b.drop 2), 8 * K + 2, 0) else (([] : List Sp), (0 : Nat), (5 : Nat)) := ⟨_, rfl⟩
    rw [← hr]
    have HR := Lib.hid hr
    have hlen9 := readS_length K (b.drop 2)
    have HU := Lib.hid (readS_u32 K (b.drop 2))
    have hrd := Lib.hid (fun A7 c7 g7 W (h7 : ShowsG spanC W g7 (.slice A7 K c7) (readS K (b.drop 2))) => right_any A7 c7 K g7 (readS K (b.drop 2)) W hlen9 h7 HU.out (by omega))
    generalize readS K (b.drop 2) = rs at *
    have HL9 := Lib.hid hlen9
    clear h8 hbad hn2 hshort hsh hread hr hlen9
    go_enter Tryz.func107, Tryz.ntmps107
    go_wp2_with fail
    refine hopen.out.mono ?_
    rintro e w1 ⟨g, d, rfl, hq, hg, hdg, hb1⟩
    go_wp2_with fail
    refine (hnum.out g d w1 hq).mono ?_
    rintro e w2 ⟨rfl, hq2, hg2⟩
    have hb2 := hb1.trans (below_of_grown hg2 hg hb1.size)
    have hp2 := hp.out w2 hb2
    by_cases hK0 : K = 0
    case' pos => rw [if_pos hK0] at hp2
    case' neg => rw [if_neg hK0] at hp2
    all_goals
     have HP2 := Lib.hid hp2
     clear hp2 hp
     try subst hK0
     go_wp2_with fail
     refine HP2.out.mono ?_
     rintro e w3 ⟨v3, rfl, ho, hb3⟩
     have hb3' : Below w.heap.size w w3 := hb2.trans (hb3.mono hb2.size)
     have ho3 := ho.mono hb2.size
     obtain ⟨A7, c7, hv7, _, _⟩ := ho3.form
     rw [HL9.out] at hv7
     subst hv7
     obtain ⟨g7, _, hs7⟩ := ho3.shows
     have hright := Lib.hid (hrd.out A7 c7 g7 w3 hs7)
     clear ho hb3 hs7 HP2
     by_cases hcan : canon rs
     ·rw [show decide (canon rs) = true by simpa using hcan] at hright
      have hr := HR.out
      rw [if_pos hcan] at hr
      obtain ⟨r1, r2, r3⟩ := r
      obtain ⟨rfl, rfl, rfl⟩ : r1 = _ ∧ r2 = _ ∧ r3 = _ := by simpa using hr
      clear hcan HR hr
      go_wp2_with fail
      refine hright.out.mono ?_
      rintro e w4 ⟨rfl, hb4⟩
      go_wp2_with fail
      go_ret3
      exact ⟨_, by simp [Int.add_comm]; try rfl, ho3.keep fun q hq => hb4.block q (ho3.block q hq).2, hb3'.trans (hb4.mono hb3'.size)⟩
     ·rw [show decide (canon rs) = false by simpa using hcan] at hright
      have hr := HR.out
      rw [if_neg hcan] at hr
      obtain ⟨r1, r2, r3⟩ := r
      obtain ⟨rfl, rfl, rfl⟩ : r1 = _ ∧ r2 = _ ∧ r3 = _ := by simpa using hr
      clear hcan HR hr
      go_wp2_with fail
      refine hright.out.mono ?_
      rintro e w4 ⟨rfl, hb4⟩
      go_wp2_with fail
      go_ret3
      exact ⟨_, rfl, OwnG.nil_ _ _ _ _, hb3'.trans (hb4.mono hb3'.size)⟩
end Go.Proofs.YtpbdnfonflmncaaGreat
