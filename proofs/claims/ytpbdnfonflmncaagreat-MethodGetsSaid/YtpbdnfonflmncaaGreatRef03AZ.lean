/-
  Texts, together: Ref03A, Ref03E.
  Conditions: none but sizes.
-/
import Derived.Deep.QuietTactic
import Derived.BigQuiet
import Derived.Laws.StructEq
import Derived.Test.YtpbdnfonflmncaaGreatPZ
import Derived.Test.YtpbdnfonflmncaaGreatBigZ
import Derived.Test.YtpbdnfonflmncaaGreatSpansTZ
import Derived.Test.YtpbdnfonflmncaaGreatOctBigZ
set_option linter.unusedVariables false
set_option linter.unusedSimpArgs false
namespace Go.Proofs.YtpbdnfonflmncaaGreat
open Go.RowKit
abbrev spanC : Code Sp := pairC .u32
def u32s (l : List Sp) : Prop := ∀ s ∈ l, s.1 < 4294967296 ∧ s.2 < 4294967296
theorem u32s_get {l : List Sp} (h : u32s l) {k : Nat} (hk : k < l.length) : l[k].1 < 4294967296 ∧ l[k].2 < 4294967296 := h _ (List.getElem_mem hk)
theorem span_cell1 {w : World} {d o : Nat} {l : List Sp} (h : ∀ j (h : j < l.length) k, k < spanC.sz → w.cell? ⟨d, o + (j * spanC.sz + k), none⟩ = (spanC.enc l[j])[k]?) {k : Nat} (hk : k < l.length) : w.cell? ⟨d, o + k * 2, none⟩ = some (.int .u32 (l[k].1 : Nat)) := h k hk 0 (by decide)
theorem span_cell2 {w : World} {d o : Nat} {l : List Sp} (h : ∀ j (h : j < l.length) k, k < spanC.sz → w.cell? ⟨d, o + (j * spanC.sz + k), none⟩ = (spanC.enc l[j])[k]?) {k : Nat} (hk : k < l.length) : w.cell? ⟨d, o + k * 2 + 1, none⟩ = some (.int .u32 (l[k].2 : Nat)) := h k hk 1 (by decide)
set_option maxHeartbeats 400000 in
theorem qright_any (A : Option Addr) (c n d : Nat) (l : List Sp) (w : World) (hn : l.length = n) (hl : ShowsG spanC w d (.slice A n c) l) (hu : u32s l) (hb : n ≤ 17592186044416) :
  Calls Tryz.prog 72 #[.slice A n c] w fun e w' => e = .returned (.bool (decide (canon l))) ∧ ∃ m, w' = w.drewN m := by
 subst hn
 have HC := canon_iff l
 go_enter Tryz.func72, Tryz.ntmps72
 go_wp2_with fail
 go_loopw [3] (fun i wr => ∃ k q : Nat, k ≤ l.length ∧ i = .int .i64 k ∧ wr = w.drewN q ∧ ∀ j (h : j < l.length), j < k → l[j].1 ≤ l[j].2 ∧ (0 < j → ∀ (h' : j - 1 < l.length), l[j - 1].2 + 2 ≤ l[j].1)) (fun i _ => l.length - (intOf i).toNat)
 case atStart => exact ⟨0, 0, Nat.zero_le _, rfl, rfl, fun j _ h => absurd h (by omega)⟩
 case round =>
  obtain ⟨k, q, hk, rfl, rfl, hok⟩ := hrel
  by_cases hlt : k < l.length
  ·obtain ⟨o, rfl, _, hcl⟩ := hl.at_ (by omega)
   have c1 := span_cell1 hcl hlt
   have c2 := span_cell2 hcl hlt
   obtain ⟨b1, b2⟩ := u32s_get hu hlt
   have hkl : (k : Int) < (l.length : Int) := by omega
   have hbad : (l[k].1 ≤ l[k].2 ∧ (0 < k → ∀ (h' : k - 1 < l.length), l[k - 1].2 + 2 ≤ l[k].1)) ∨ decide (canon l) = false := by
    by_cases hc : canon l
    ·exact .inl (HC.1 hc k hlt)
    ·exact .inr (by simp [hc])
   by_cases h1 : l[k].2 < l[k].1
   ·have hd : decide (((l[k].2 : Nat) : Int) < ((l[k].1 : Nat) : Int)) = true := by simp; omega
    have hfin : decide (canon l) = false := by
     rcases hbad with h | h
     ·omega
     ·exact h
    generalize l[k].1 = a at *
    generalize l[k].2 = b at *
    clear hok hbad hcl HC b1 b2
    go_wp2_with fail
    go_quiet (fail)
    go_wp2_with fail
    go_ret
    exact ⟨by first | rfl | (rw [hfin]; rfl), q + nq, World.drewN_drewN _ _ _⟩
   ·have hd : decide (((l[k].2 : Nat) : Int) < ((l[k].1 : Nat) : Int)) = false := by simp; omega
    by_cases hk0 : k = 0
    ·subst hk0
     have hstep : ∀ j (h : j < l.length), j < 0 + 1 → l[j].1 ≤ l[j].2 ∧ (0 < j → ∀ (h' : j - 1 < l.length), l[j - 1].2 + 2 ≤ l[j].1) := fun j hj hj1 => by
      obtain rfl : j = 0 := by omega
      exact ⟨by omega, fun h => absurd h (by omega)⟩
     have HST := Lib.hid hstep
     generalize l[0].1 = a at *
     generalize l[0].2 = b at *
     clear hok hbad hcl HC b1 b2 hstep
     rw [Nat.zero_mul, Nat.add_zero] at c1 c2
     go_wp2_with fail
     go_quiet (fail)
     go_wp2_with fail
     go_quiet (fail)
     go_wp2_with fail
     go_roundw
     case rel => exact ⟨1, _, by omega, rfl, rfl, HST.out⟩
     case measure => simp [intOf]; omega
    ·obtain ⟨j, rfl⟩ : ∃ j, k = j + 1 := ⟨k - 1, by omega⟩
     have hj : j < l.length := by omega
     have c3 := span_cell2 hcl hj
     obtain ⟨b3, b4⟩ := u32s_get hu hj
     have hjl : (j : Int) < (l.length : Int) := by omega
     have hjl1 : (j : Int) + 1 < (l.length : Int) := by omega
     by_cases h2 : l[j + 1].1 < l[j].2 + 2
     ·have hd2 : decide (((l[j + 1].1 : Nat) : Int) < ((l[j].2 : Nat) : Int) + 2) = true := by simp; omega
      have hfin : decide (canon l) = false := by
       rcases hbad with h | h
       ·have := h.2 (by omega) (by omega); simp at this; omega
       ·exact h
      generalize l[j + 1].1 = a at *
      generalize l[j + 1].2 = b at *
      generalize l[j].2 = e at *
      clear hok hbad hcl HC
      go_wp2_with fail
      go_quiet (fail)
      go_wp2_with fail
      go_quiet (fail)
      go_wp2_with fail
      go_ret
      exact ⟨by first | rfl | (rw [hfin]; rfl), _, by rw [World.drewN_drewN, World.drewN_drewN]⟩
     ·have hd2 : decide (((l[j + 1].1 : Nat) : Int) < ((l[j].2 : Nat) : Int) + 2) = false := by simp; omega
      have hstep : ∀ i (h : i < l.length), i < j + 1 + 1 → l[i].1 ≤ l[i].2 ∧ (0 < i → ∀ (h' : i - 1 < l.length), l[i - 1].2 + 2 ≤ l[i].1) := fun i hi hij => by
       by_cases hij2 : i < j + 1
       ·exact hok i hi hij2
       ·obtain rfl : i = j + 1 := by omega
        exact ⟨by omega, fun _ _ => by simp; omega⟩
      have HST := Lib.hid hstep
      generalize l[j + 1].1 = a at *
      generalize l[j + 1].2 = b at *
      generalize l[j].2 = e at *
      clear hok hbad hcl HC hstep
      go_wp2_with fail
      go_quiet (fail)
      go_wp2_with fail
      go_quiet (fail)
      go_wp2_with fail
      go_roundw
      case rel => exact ⟨j + 1 + 1, _, by omega, by go_num, rfl, HST.out⟩
      case measure => simp [intOf]; omega
  ·have hfin : decide (canon l) = true := by simp [HC.2 fun k h => hok k h (by omega)]
   clear hok HC
   go_wp2_with fail
   go_ret
   exact ⟨by first | rfl | (rw [hfin]; rfl), q, rfl⟩
theorem spanGuard : Tryz.prog.eqGuardType Tryz.prog.depth 126 = false := by kernel_rfl
theorem spanFields : Tryz.prog.underlying 126 = some (.struct (Tryz.prog.fieldsOf 126)) := by kernel_rfl
theorem spanHeld : Tryz.prog.stoodInHeld 126 = false := by kernel_rfl
theorem run_eq_span (a b c d : Nat) (w : World) : (Op.equalIn 10000 126 (.agg #[.int .u32 (a : Int), .int .u32 (b : Int)]) (.agg #[.int .u32 (c : Int), .int .u32 (d : Int)])).run Tryz.prog w = .ok (decide ((a, b) = (c, d))) w := by
 rw [run_equalIn_agg w 9999 126 _ _ spanFields spanHeld]
 have hm : (Tryz.prog.fieldsOf 126).toList.map (fun f => (f.type, f.offset, f.name == "_")) = [(42, 0, false), (42, 1, false)] := by kernel_rfl
 generalize (Tryz.prog.fieldsOf 126).toList = fs at hm ⊢
 obtain ⟨f, t, rfl, hf, ht⟩ := List.map_eq_cons_iff.1 hm
 obtain ⟨g, t2, rfl, hg, ht2⟩ := List.map_eq_cons_iff.1 ht
 obtain rfl : t2 = [] := List.map_eq_nil_iff.1 ht2
 simp only [Prod.mk.injEq] at hf hg
 obtain ⟨f1, f2, f3⟩ := hf
 obtain ⟨g1, g2, g3⟩ := hg
 have f4 : ¬ f.name = "_" := by simpa using f3
 have g4 : ¬ g.name = "_" := by simpa using g3
 have e1 : ∀ x y : Nat, (Op.equalIn 9999 42 (.int .u32 (x : Int)) (.int .u32 (y : Int))).run Tryz.prog w = .ok ((x : Int) == (y : Int)) w := fun x y => run_equalIn_int w 9998 42 .u32 .u32 _ _ Tryz.underlying42
 by_cases h1 : a = c
 ·by_cases h2 : b = d
  ·simp [Op.eqFields, part, f1, f2, f4, g1, g2, g4, e1, h1, h2]
  ·simp [Op.eqFields, part, f1, f2, f4, g1, g2, g4, e1, h1, h2]; omega
 ·simp [Op.eqFields, part, f1, f2, f4, g1, g2, g4, e1, h1]; intro h; omega
set_option maxHeartbeats 400000 in
theorem qsame_any (A1 A2 : Option Addr) (c1 c2 n1 n2 d1 d2 : Nat) (l m : List Sp) (w : World) (hn1 : l.length = n1) (hn2 : m.length = n2) (hl : ShowsG spanC w d1 (.slice A1 n1 c1) l) (hm : ShowsG spanC w d2 (.slice A2 n2 c2) m) (hb : n1 ≤ 17592186044416) (hb2 : n2 ≤ 17592186044416) :
    Calls Tryz.prog 57 #[.slice A1 n1 c1, .slice A2 n2 c2] w fun e w' => e = .returned (.bool (decide (l = m))) ∧ ∃ q, w' = w.drewN q := by
  subst hn1
  subst hn2
  by_cases hlen : l.length = m.length
  · go_enter Tryz.func57, Tryz.ntmps57
    have hne : ((l.length : Int) != (m.length : Int)) = false := by simp; omega
    go_wp2_with fail
    go_loopw [5] (fun i wr => ∃ k q : Nat, k ≤ l.length ∧ i = .int .i64 k ∧ wr = w.drewN q ∧ l.take k = m.take k) (fun i _ => l.length - (intOf i).toNat)
    case atStart => exact ⟨0, 0, Nat.zero_le _, rfl, rfl, rfl⟩
    case round =>
      obtain ⟨k, q, hk, rfl, rfl, hsame⟩ := hrel
      by_cases hlt : k < l.length
      · have hlt2 : k < m.length := by omega
        obtain ⟨o, rfl, _, hcl⟩ := hl.at_ (by omega)
        obtain ⟨o', rfl, _, hcm⟩ := hm.at_ (by omega)
        have e1 := span_cell1 hcl hlt
        have e2 := span_cell2 hcl hlt
        have e3 := span_cell1 hcm hlt2
        have e4 := span_cell2 hcm hlt2
        have hkl : (k : Int) < (l.length : Int) := by omega
        have hkm : (k : Int) < (m.length : Int) := by omega
        have hG := spanGuard
        have hE := run_eq_span
        have hstep : l[k] = m[k] → l.take (k + 1) = m.take (k + 1) := fun h => by
          rw [List.take_succ_eq_append_getElem hlt, List.take_succ_eq_append_getElem hlt2, hsame, h]
        by_cases heq : l[k] = m[k]
        · have HS := Lib.hid (hstep heq)
          have hd : decide ((l[k].1, l[k].2) = (m[k].1, m[k].2)) = true := by rw [heq]; simp
          have E := Lib.hid hE
          generalize l[k].1 = a at *
          generalize l[k].2 = b at *
          generalize m[k].1 = a' at *
          generalize m[k].2 = b' at *
          have hE2 := fun w => E.out a b a' b' w
          rw [hd] at hE2
          clear hcl hcm hE heq hstep hsame hd
          go_wp2_with fail
          go_quiet (fail)
          go_wp2_with fail
          go_roundw
          case rel => exact ⟨k + 1, _, by omega, by go_num, rfl, HS.out⟩
          case measure => simp [intOf]; omega
        · have hfin : decide (l = m) = false := by
            simp
            rintro rfl
            exact heq rfl
          have hd : decide ((l[k].1, l[k].2) = (m[k].1, m[k].2)) = false := by
            simp
            intro h1 h2
            exact heq (Prod.ext h1 h2)
          have E := Lib.hid hE
          generalize l[k].1 = a at *
          generalize l[k].2 = b at *
          generalize m[k].1 = a' at *
          generalize m[k].2 = b' at *
          have hE2 := fun w => E.out a b a' b' w
          rw [hd] at hE2
          clear hcl hcm hE heq hstep hsame hd
          go_wp2_with fail
          go_quiet (fail)
          go_wp2_with fail
          go_ret
          exact ⟨by first | rfl | (rw [hfin]; rfl), q + nq, World.drewN_drewN _ _ _⟩
      · have hfin : decide (l = m) = true := by
          rw [List.take_of_length_le (by omega), List.take_of_length_le (by omega)] at hsame
          simpa using hsame
        clear hsame
        go_wp2_with fail
        go_ret
        exact ⟨by first | rfl | (rw [hfin]; rfl), q, rfl⟩
  · have hfin : decide (l = m) = false := by
      simp
      rintro rfl
      exact hlen rfl
    have hne : ((l.length : Int) != (m.length : Int)) = true := by simp; omega
    go_enter Tryz.func57, Tryz.ntmps57
    go_wp2_with fail
    go_ret
    exact ⟨by first | rfl | (rw [hfin]; rfl), 0, rfl⟩
def encS (l : List Sp) : List UInt8 := be 2 (8 * l.length) ++ l.flatMap fun s => be 4 s.1 ++ be 4 s.2
def PutSaid (l : List Sp) (code : Int) (r : List UInt8) : Prop :=
  (canon l ∧ l.length ≤ 1000 ∧ code = 0 ∧ r = encS l) ∨ (¬ canon l ∧ code = 30 ∧ r = []) ∨ (canon l ∧ ¬ l.length ≤ 1000 ∧ code = 6 ∧ r = [])
theorem encS_length_le (l : List Sp) : (l.flatMap fun s => be 4 s.1 ++ be 4 s.2).length = 8 * l.length := by
 induction l with
 | nil => rfl
 | cons s l ih => simp [be_length] at ih ⊢; omega
theorem flat_take (l : List Sp) (k : Nat) (h : k < l.length) : ((l.take (k + 1)).flatMap fun s => be 4 s.1 ++ be 4 s.2) = ((l.take k).flatMap fun s => be 4 s.1 ++ be 4 s.2) ++ be 4 l[k].1 ++ be 4 l[k].2 := by
 rw [List.take_succ_eq_append_getElem h, List.flatMap_append, List.append_assoc]
 simp
set_option maxHeartbeats 800000 in
theorem qputS_any (A1 : Option Addr) (c1 n1 d1 : Nat) (l : List Sp) (w : World) (hn1 : l.length = n1) (h1 : ShowsG spanC w d1 (.slice A1 n1 c1) l) (hu1 : u32s l) (hb1 : n1 ≤ 137438953472) :
    Calls Tryz.prog 47 #[.slice A1 n1 c1] w fun e w' => ∃ v code r, e = .returned (.tuple #[v, .int .i64 code]) ∧ Own 5 w' w.heap.size v r ∧ Below w.heap.size w w' ∧ PutSaid l code r := by
  subst hn1
  have hr1 := Lib.hid (qright_any A1 c1 l.length d1 l w rfl h1 hu1 (by omega))
  by_cases ha : canon l
  · rw [show decide (canon l) = true by simpa using ha] at hr1
    have HA := Lib.hid ha
    clear ha
    by_cases hlen : l.length ≤ 1000
    · have hd : ¬ (1000 : Int) < (l.length : Int) := by omega
      go_enter Tryz.func47, Tryz.ntmps47
      go_wp2_with fail
      refine hr1.out.mono ?_
      rintro e w' ⟨rfl, m, rfl⟩
      have hnum := number_any 2 (8 * l.length) (w.drewN m) (by omega) (by omega)
      have HNUM := Lib.hid hnum
      clear hnum
      go_wp2_with fail
      refine HNUM.out.mono ?_
      rintro e w1 ⟨v1, rfl, ho1, hb1'⟩
      have hw1 : Below w.heap.size w w1 := (below_drewN (Below.refl _ _) m).trans hb1'
      have ho1' : Own 5 w1 w.heap.size v1 (be 2 (8 * l.length)) := ho1
      go_wp2_with fail
      clear ho1 hb1' HNUM hr1
      go_loopw [4, 5] (fun out i wr => ∃ k : Nat, k ≤ l.length ∧ i = .int .i64 k ∧ Own 5 wr w.heap.size out (be 2 (8 * l.length) ++ (l.take k).flatMap fun s => be 4 s.1 ++ be 4 s.2) ∧ Below w.heap.size w wr) (fun _ i _ => l.length - (intOf i).toNat)
      case atStart => exact ⟨0, by omega, rfl, by simpa using ho1', hw1⟩
      case round =>
        obtain ⟨k, hk, rfl, ho, hbw⟩ := hrel
        by_cases hlt : k < l.length
        · obtain ⟨o, rfl, _, hcl⟩ := (h1.below' hbw (Nat.le_refl _)).at_ (by omega)
          have c1' := span_cell1 hcl hlt
          have hdl := h1.lt (by omega)
          clear hcl
          obtain ⟨b1, b2⟩ := u32s_get hu1 hlt
          have hkl : (k : Int) < (l.length : Int) := by omega
          have hfl : (be 2 (8 * l.length) ++ (l.take (k + 1)).flatMap fun s => be 4 s.1 ++ be 4 s.2) = (be 2 (8 * l.length) ++ (l.take k).flatMap fun s => be 4 s.1 ++ be 4 s.2) ++ be 4 l[k].1 ++ be 4 l[k].2 := by
            rw [flat_take l k hlt]
            simp only [List.append_assoc]
          have hsz : (be 2 (8 * l.length) ++ (l.take k).flatMap fun s => be 4 s.1 ++ be 4 s.2).length = 2 + 8 * k := by
            rw [List.length_append, be_length, encS_length_le, List.length_take]; omega
          generalize (be 2 (8 * l.length) ++ (l.take k).flatMap fun s => be 4 s.1 ++ be 4 s.2) = acc at *
          have hn1 := Lib.hid (number_any 4 l[k].1 wr (by omega) (by omega))
          have hn2 := Lib.hid (fun w' => number_any 4 l[k].2 w' (by omega) (by omega))
          have HCELL : Hid (∀ w', Below w.heap.size w w' → w'.cell? ⟨d1, o + k * 2 + 1, none⟩ = some (.int .u32 (l[k].2 : Nat))) := by
            show ∀ w', Below w.heap.size w w' → _
            intro w' hb'
            obtain ⟨o', e, _, hcl'⟩ := (h1.below' hb' (Nat.le_refl _)).at_ (by omega)
            cases e
            exact span_cell2 hcl' hlt
          have HFL := Lib.hid hfl
          clear hfl
          go_wp2_with fail
          refine hn1.out.mono ?_
          rintro e w2 ⟨v2, rfl, ho2, hb2⟩
          have hw2 : Below w.heap.size w w2 := hbw.trans (hb2.mono hbw.size)
          have hoa : Own 5 w2 w.heap.size u4 acc := ho.keep fun g hg => hb2.block g (ho.block g hg).2
          obtain ⟨g2, hg2, hs2⟩ := ho2.shows
          have hl2 := ho2.form
          have hlen4 : (be 4 l[k].1).length = 4 := be_length _ _
          have hlen4' : (be 4 l[k].2).length = 4 := be_length _ _
          go_wp2_with (at_builtin
                       refine wpList_append8 _ rfl (.tmp 23) (.tmp 30) 28 rfl w.heap.size 5 Tryz.underlying28 info5 u4 acc rfl hoa g2 v2 (be 4 l[k].1) rfl hs2 (by omega) hw2.size ?_
                       intro v3 w3 ho3 hg3
                       have hw3 : Below w.heap.size w w3 := hw2.grown hg3 hw2.size (fun q hq => (hoa.block q hq).1)
                       have c2' := HCELL.out w3 hw3)
          refine (hn2.out w3).mono ?_
          rintro e w4 ⟨v4, rfl, ho4, hb4⟩
          have hw4 : Below w.heap.size w w4 := hw3.trans (hb4.mono hw3.size)
          have ho3' : Own 5 w4 w.heap.size v3 (acc ++ be 4 l[k].1) := ho3.keep fun g hg => hb4.block g (ho3.block g hg).2
          obtain ⟨g4, hg4, hs4⟩ := ho4.shows
          go_wp2_with (at_builtin
                       refine wpList_append8 _ rfl (.tmp 32) (.tmp 39) 28 rfl w.heap.size 5 Tryz.underlying28 info5 v3 (acc ++ be 4 l[k].1) rfl ho3' g4 v4 (be 4 l[k].2) rfl hs4 (by rw [List.length_append]; omega) hw4.size ?_
                       intro v5 w5 ho5 hg5)
          go_roundw
          case rel => exact ⟨k + 1, by omega, by go_num, by rw [HFL.out]; exact ho5, hw4.grown hg5 hw4.size (fun q hq => (ho3'.block q hq).1)⟩
          case measure => simp [intOf]; omega
        · have hE : Hid ((be 2 (8 * l.length) ++ (l.take k).flatMap fun s => be 4 s.1 ++ be 4 s.2) = encS l) := by
            show _ = _
            rw [List.take_of_length_le (by omega)]
            rfl
          go_wp2_with fail
          go_ret2
          exact ⟨_, _, _, rfl, ho, hbw, .inl ⟨HA.out, hlen, rfl, hE.out⟩⟩
    · have hd : (1000 : Int) < (l.length : Int) := by omega
      go_enter Tryz.func47, Tryz.ntmps47
      go_wp2_with fail
      refine hr1.out.mono ?_
      rintro e w' ⟨rfl, m, rfl⟩
      go_wp2_with fail
      go_ret2
      exact ⟨_, _, [], rfl, Own.nil_ _ _ _, below_drewN (Below.refl _ _) _, .inr (.inr ⟨HA.out, hlen, rfl, rfl⟩)⟩
  · rw [show decide (canon l) = false by simpa using ha] at hr1
    go_enter Tryz.func47, Tryz.ntmps47
    go_wp2_with fail
    refine hr1.out.mono ?_
    rintro e w' ⟨rfl, m, rfl⟩
    go_wp2_with fail
    go_ret2
    exact ⟨_, _, [], rfl, Own.nil_ _ _ _, below_drewN (Below.refl _ _) _, .inr (.inl ⟨ha, rfl, rfl⟩)⟩
end Go.Proofs.YtpbdnfonflmncaaGreat
