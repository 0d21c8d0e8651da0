/-
  The contract of Put.
  Conditions: the numbers are of 32 bits; at most 2^36 spans.
-/
import Derived.Test.YtpchjgeehejkeaaSpF
import Derived.Test.YtpchjgeehejkeaaRef03F
import Derived.Test.YtpchjgeehejkeaaSpansL
namespace Go.Proofs.Ytpchjgeehejkeaa
open Go.RowKit
set_option linter.unusedVariables false
set_option linter.unusedSimpArgs false

theorem put2_nil (n : Nat) (w : World) : Calls Try.prog 37 #[.slice none 0 0, .int .u64 n, .int .i64 2] w fun e w' => ∃ v', e = .returned v' ∧ Own 5 w' w.heap.size v' (be 2 n) ∧ Below w.heap.size w w' :=
  (put_any _ [] 0 n 2 w (Shows.nil_ _ _) (by simp)).mono fun e w' h => by simpa [show wd 2 = 2 from rfl] using h
theorem put4_nil (n : Nat) (w : World) : Calls Try.prog 37 #[.slice none 0 0, .int .u64 n, .int .i64 4] w fun e w' => ∃ v', e = .returned v' ∧ Own 5 w' w.heap.size v' (be 4 n) ∧ Below w.heap.size w w' :=
  (put_any _ [] 0 n 4 w (Shows.nil_ _ _) (by simp)).mono fun e w' h => by simpa [show wd 4 = 4 from rfl] using h

set_option maxHeartbeats 1600000 in
theorem putS_any (A1 : Option Addr) (c1 n1 d1 : Nat) (l : List Sp) (w : World) (hn1 : l.length = n1) (h1 : ShowsG spanC w d1 (.slice A1 n1 c1) l) (hu1 : u32s l) (hb1 : n1 ≤ 68719476736) :
    Calls Try.prog 25 #[.slice A1 n1 c1] w fun e w' => ∃ v code r, e = .returned (.tuple #[v, .int .i64 code]) ∧ Own 5 w' w.heap.size v r ∧ Below w.heap.size w w' ∧ PutSaid l code r := by
  subst hn1
  have hr1 := Lib.hid (right_any A1 c1 l.length d1 l w rfl h1 hu1 (by omega))
  by_cases ha : canon l
  · rw [show decide (canon l) = true by simpa using ha] at hr1
    have HA := Lib.hid ha
    clear ha
    by_cases hlen : l.length ≤ 1000
    · have hd : decide ((1000 : Int) < (l.length : Int)) = false := by simp; omega
      have HNUM := Lib.hid (fun w' => put2_nil (8 * l.length) w')
      go_enter Try.func25, Try.ntmps25
      go_wp2_with fail
      refine hr1.out.mono ?_
      rintro e w0 ⟨rfl, hb0⟩
      go_wp2_with fail
      rw [show (8 * (l.length : Int)) = ((8 * l.length : Nat) : Int) by omega]
      refine (HNUM.out w0).mono ?_
      rintro e w1 ⟨v1, rfl, ho1, hb1'⟩
      have hw1 : Below w.heap.size w w1 := hb0.trans (hb1'.mono hb0.size)
      have ho1' : Own 5 w1 w.heap.size v1 (be 2 (8 * l.length)) := ho1.mono hb0.size
      clear ho1 hb1' HNUM hr1
      go_wp2_with fail
      go_loopw [4, 20] (fun out i wr => ∃ k : Nat, k ≤ l.length ∧ i = .int .i64 k ∧ Own 5 wr w.heap.size out (be 2 (8 * l.length) ++ (l.take k).flatMap fun s => be 4 s.1 ++ be 4 s.2) ∧ Below w.heap.size w wr) (fun _ i _ => l.length - (intOf i).toNat)
      case atStart => exact ⟨0, by omega, rfl, by simpa using ho1', hw1⟩
      case round =>
        rename World => wr
        obtain ⟨k, hk, rfl, ho, hbw⟩ := hrel
        by_cases hlt : k < l.length
        · obtain ⟨o, rfl, _, hcl⟩ := (h1.below' hbw (Nat.le_refl _)).at_ (by omega)
          have c1' := span_cell1 hcl hlt
          have c2' := span_cell2 hcl hlt
          have hdl := (h1.below' hbw (Nat.le_refl _)).lt (by omega)
          clear hcl
          obtain ⟨b1, b2⟩ := u32s_get hu1 hlt
          have hkl : (k : Int) < (l.length : Int) := by omega
          have hfl : (be 2 (8 * l.length) ++ (l.take (k + 1)).flatMap fun s => be 4 s.1 ++ be 4 s.2) = (be 2 (8 * l.length) ++ (l.take k).flatMap fun s => be 4 s.1 ++ be 4 s.2) ++ be 4 l[k].1 ++ be 4 l[k].2 := by
            rw [flat_take l k hlt]
            simp only [List.append_assoc]
          have hsz : (be 2 (8 * l.length) ++ (l.take k).flatMap fun s => be 4 s.1 ++ be 4 s.2).length = 2 + 8 * k := by
            rw [List.length_append, be_length, encS_length_le, List.length_take]; omega
          generalize (be 2 (8 * l.length) ++ (l.take k).flatMap fun s => be 4 s.1 ++ be 4 s.2) = acc at *
          have HFL := Lib.hid hfl
          generalize l[k].1 = x at *
          generalize l[k].2 = y at *
          have y1 : (x : Int) % 18446744073709551616 = (x : Int) := by omega
          have y2 : (y : Int) % 18446744073709551616 = (y : Int) := by omega
          have hlx : (be 4 x).length = 4 := be_length _ _
          have hly : (be 4 y).length = 4 := be_length _ _
          have HLX := Lib.hid (And.intro hsz (And.intro hlx hly))
          have hs0 := hbw.size
          clear hfl hsz hlx hly hu1
          have hn1 := Lib.hid (fun w' => put4_nil x w')
          have hn2 := Lib.hid (fun w' => put4_nil y w')
          go_wp2_with fail
          refine (hn1.out _).mono ?_
          rintro e w2 ⟨v2, rfl, ho2, hb2⟩
          have hw2 : Below w.heap.size w w2 := (hbw.alloc hs0 _).trans (hb2.mono (by simp; omega))
          have hoa : Own 5 w2 w.heap.size u4 acc := ho.keep fun g hg => (hb2.block g (by have := (ho.block g hg).2; simp; omega)).trans (Below.heap_alloc wr _ g (ho.block g hg).2)
          have k2 : w2.cell? ⟨wr.heap.size, 1, none⟩ = some (.int .u32 (y : Nat)) := (hb2.cell (p := ⟨wr.heap.size, 1, none⟩) (by simp)).trans (cell_of_row _ _ 1 _ 37 (0, 0) (heap_alloc_new wr _))
          obtain ⟨g2, hg2, hs2⟩ := ho2.shows
          have hl2 := ho2.form
          have hz2 : wr.heap.size < w2.heap.size := by have := hb2.size; simp at this; omega
          go_wp2_with (at_builtin
                       refine wpList_append8 _ rfl (.tmp 24) (.tmp 28) 41 rfl w.heap.size 5 Try.underlying41 info5 u4 acc rfl hoa g2 v2 (be 4 x) rfl hs2 (by have := HLX.out; omega) hw2.size ?_
                       intro v3 w3 ho3 hg3
                       have hw3 : Below w.heap.size w w3 := hw2.grown hg3 hw2.size (fun q hq => (hoa.block q hq).1)
                       have k3 : w3.cell? ⟨wr.heap.size, 1, none⟩ = some (.int .u32 (y : Nat)) := hg3.cell k2 (fun e => by have := (ho.block _ e.symm).2; simp at this))
          refine (hn2.out w3).mono ?_
          rintro e w4 ⟨v4, rfl, ho4, hb4⟩
          have hw4 : Below w.heap.size w w4 := hw3.trans (hb4.mono hw3.size)
          have ho3' : Own 5 w4 w.heap.size v3 (acc ++ be 4 x) := ho3.keep fun g hg => hb4.block g (ho3.block g hg).2
          obtain ⟨g4, hg4, hs4⟩ := ho4.shows
          go_wp2_with (at_builtin
                       refine wpList_append8 _ rfl (.tmp 30) (.tmp 34) 41 rfl w.heap.size 5 Try.underlying41 info5 v3 (acc ++ be 4 x) rfl ho3' g4 v4 (be 4 y) rfl hs4 (by have := HLX.out; rw [List.length_append]; omega) hw4.size ?_
                       intro v5 w5 ho5 hg5)
          go_roundw
          case rel => exact ⟨k + 1, by omega, by go_num, by rw [HFL.out]; exact ho5, hw4.grown hg5 hw4.size (fun q hq => (ho3'.block q hq).1)⟩
          case measure => simp [intOf]; omega
        · have hE : Hid ((be 2 (8 * l.length) ++ (l.take k).flatMap fun s => be 4 s.1 ++ be 4 s.2) = encS l) := by
            show _ = _
            rw [List.take_of_length_le (by omega)]
            rfl
          go_wp2_with fail
          go_ret2
          exact ⟨_, _, _, rfl, ho, hbw, .inl ⟨HA.out, hlen, rfl, hE.out⟩⟩
    · have hd : (1000 : Int) < (l.length : Int) := by omega
      go_enter Try.func25, Try.ntmps25
      go_wp2_with fail
      refine hr1.out.mono ?_
      rintro e w0 ⟨rfl, hb0⟩
      go_wp2_with fail
      go_ret2
      exact ⟨_, _, [], rfl, Own.nil_ _ _ _, hb0, .inr (.inr ⟨HA.out, hlen, rfl, rfl⟩)⟩
  · rw [show decide (canon l) = false by simpa using ha] at hr1
    go_enter Try.func25, Try.ntmps25
    go_wp2_with fail
    refine hr1.out.mono ?_
    rintro e w0 ⟨rfl, hb0⟩
    go_wp2_with fail
    go_ret2
    exact ⟨_, _, [], rfl, Own.nil_ _ _ _, hb0, .inr (.inl ⟨ha, rfl, rfl⟩)⟩

end Go.Proofs.Ytpchjgeehejkeaa
