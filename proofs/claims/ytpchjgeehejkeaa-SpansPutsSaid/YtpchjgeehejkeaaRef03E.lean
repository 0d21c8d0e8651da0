/-
  The contract of the document's Put of spans.
  Conditions: the numbers are of 32 bits; at most 2^37 spans.
-/
import Derived.Test.YtpchjgeehejkeaaRef03A
import Derived.Test.YtpchjgeehejkeaaOctBig
namespace Go.Proofs.Ytpchjgeehejkeaa
open Go.RowKit
set_option linter.unusedVariables false
set_option linter.unusedSimpArgs false

/-- A list's encoding. -/
def encS (l : List Sp) : List UInt8 := be 2 (8 * l.length) ++ l.flatMap fun s => be 4 s.1 ++ be 4 s.2
def PutSaid (l : List Sp) (code : Int) (r : List UInt8) : Prop :=
  (canon l ∧ l.length ≤ 1000 ∧ code = 0 ∧ r = encS l) ∨ (¬ canon l ∧ code = 30 ∧ r = []) ∨ (canon l ∧ ¬ l.length ≤ 1000 ∧ code = 6 ∧ r = [])
theorem encS_length_le (l : List Sp) : (l.flatMap fun s => be 4 s.1 ++ be 4 s.2).length = 8 * l.length := by
  induction l with
  | nil => rfl
  | cons s l ih => simp [be_length] at ih ⊢; omega
theorem flat_take (l : List Sp) (k : Nat) (h : k < l.length) : ((l.take (k + 1)).flatMap fun s => be 4 s.1 ++ be 4 s.2) = ((l.take k).flatMap fun s => be 4 s.1 ++ be 4 s.2) ++ be 4 l[k].1 ++ be 4 l[k].2 := by
  rw [List.take_succ_eq_append_getElem h, List.flatMap_append, List.append_assoc]
  simp

set_option maxHeartbeats 800000 in
theorem qputS_any (A1 : Option Addr) (c1 n1 d1 : Nat) (l : List Sp) (w : World) (hn1 : l.length = n1) (h1 : ShowsG spanC w d1 (.slice A1 n1 c1) l) (hu1 : u32s l) (hb1 : n1 ≤ 137438953472) :
    Calls Try.prog 26 #[.slice A1 n1 c1] w fun e w' => ∃ v code r, e = .returned (.tuple #[v, .int .i64 code]) ∧ Own 5 w' w.heap.size v r ∧ Below w.heap.size w w' ∧ PutSaid l code r := by
  subst hn1
  have hr1 := Lib.hid (qright_any A1 c1 l.length d1 l w rfl h1 hu1 (by omega))
  by_cases ha : canon l
  · rw [show decide (canon l) = true by simpa using ha] at hr1
    have HA := Lib.hid ha
    clear ha
    by_cases hlen : l.length ≤ 1000
    · have hd : ¬ (1000 : Int) < (l.length : Int) := by omega
      go_enter Try.func26, Try.ntmps26
      go_wp2_with fail
      refine hr1.out.mono ?_
      rintro e w' ⟨rfl, m, rfl⟩
      have hnum := number_any 2 (8 * l.length) (w.drewN m) (by omega) (by omega)
      have HNUM := Lib.hid hnum
      clear hnum
      go_wp2_with fail
      refine HNUM.out.mono ?_
      rintro e w1 ⟨v1, rfl, ho1, hb1'⟩
      have hw1 : Below w.heap.size w w1 := (below_drewN (Below.refl _ _) m).trans hb1'
      have ho1' : Own 5 w1 w.heap.size v1 (be 2 (8 * l.length)) := ho1
      go_wp2_with fail
      clear ho1 hb1' HNUM hr1
      go_loopw [4, 5] (fun out i wr => ∃ k : Nat, k ≤ l.length ∧ i = .int .i64 k ∧ Own 5 wr w.heap.size out (be 2 (8 * l.length) ++ (l.take k).flatMap fun s => be 4 s.1 ++ be 4 s.2) ∧ Below w.heap.size w wr) (fun _ i _ => l.length - (intOf i).toNat)
      case atStart => exact ⟨0, by omega, rfl, by simpa using ho1', hw1⟩
      case round =>
        obtain ⟨k, hk, rfl, ho, hbw⟩ := hrel
        by_cases hlt : k < l.length
        · obtain ⟨o, rfl, _, hcl⟩ := (h1.below' hbw (Nat.le_refl _)).at_ (by omega)
          have c1' := span_cell1 hcl hlt
          have hdl := h1.lt (by omega)
          clear hcl
          obtain ⟨b1, b2⟩ := u32s_get hu1 hlt
          have hkl : (k : Int) < (l.length : Int) := by omega
          have hfl : (be 2 (8 * l.length) ++ (l.take (k + 1)).flatMap fun s => be 4 s.1 ++ be 4 s.2) = (be 2 (8 * l.length) ++ (l.take k).flatMap fun s => be 4 s.1 ++ be 4 s.2) ++ be 4 l[k].1 ++ be 4 l[k].2 := by
            rw [flat_take l k hlt]
            simp only [List.append_assoc]
          have hsz : (be 2 (8 * l.length) ++ (l.take k).flatMap fun s => be 4 s.1 ++ be 4 s.2).length = 2 + 8 * k := by
            rw [List.length_append, be_length, encS_length_le, List.length_take]; omega
          generalize (be 2 (8 * l.length) ++ (l.take k).flatMap fun s => be 4 s.1 ++ be 4 s.2) = acc at *
          have hn1 := Lib.hid (number_any 4 l[k].1 wr (by omega) (by omega))
          have hn2 := Lib.hid (fun w' => number_any 4 l[k].2 w' (by omega) (by omega))
          have HCELL : Hid (∀ w', Below w.heap.size w w' → w'.cell? ⟨d1, o + k * 2 + 1, none⟩ = some (.int .u32 (l[k].2 : Nat))) := by
            show ∀ w', Below w.heap.size w w' → _
            intro w' hb'
            obtain ⟨o', e, _, hcl'⟩ := (h1.below' hb' (Nat.le_refl _)).at_ (by omega)
            cases e
            exact span_cell2 hcl' hlt
          have HFL := Lib.hid hfl
          clear hfl
          go_wp2_with fail
          refine hn1.out.mono ?_
          rintro e w2 ⟨v2, rfl, ho2, hb2⟩
          have hw2 : Below w.heap.size w w2 := hbw.trans (hb2.mono hbw.size)
          have hoa : Own 5 w2 w.heap.size u4 acc := ho.keep fun g hg => hb2.block g (ho.block g hg).2
          obtain ⟨g2, hg2, hs2⟩ := ho2.shows
          have hl2 := ho2.form
          have hlen4 : (be 4 l[k].1).length = 4 := be_length _ _
          have hlen4' : (be 4 l[k].2).length = 4 := be_length _ _
          go_wp2_with (at_builtin
                       refine wpList_append8 _ rfl (.tmp 23) (.tmp 30) 41 rfl w.heap.size 5 Try.underlying41 info5 u4 acc rfl hoa g2 v2 (be 4 l[k].1) rfl hs2 (by omega) hw2.size ?_
                       intro v3 w3 ho3 hg3
                       have hw3 : Below w.heap.size w w3 := hw2.grown hg3 hw2.size (fun q hq => (hoa.block q hq).1)
                       have c2' := HCELL.out w3 hw3)
          refine (hn2.out w3).mono ?_
          rintro e w4 ⟨v4, rfl, ho4, hb4⟩
          have hw4 : Below w.heap.size w w4 := hw3.trans (hb4.mono hw3.size)
          have ho3' : Own 5 w4 w.heap.size v3 (acc ++ be 4 l[k].1) := ho3.keep fun g hg => hb4.block g (ho3.block g hg).2
          obtain ⟨g4, hg4, hs4⟩ := ho4.shows
          go_wp2_with (at_builtin
                       refine wpList_append8 _ rfl (.tmp 32) (.tmp 39) 41 rfl w.heap.size 5 Try.underlying41 info5 v3 (acc ++ be 4 l[k].1) rfl ho3' g4 v4 (be 4 l[k].2) rfl hs4 (by rw [List.length_append]; omega) hw4.size ?_
                       intro v5 w5 ho5 hg5)
          go_roundw
          case rel => exact ⟨k + 1, by omega, by go_num, by rw [HFL.out]; exact ho5, hw4.grown hg5 hw4.size (fun q hq => (ho3'.block q hq).1)⟩
          case measure => simp [intOf]; omega
        · have hE : Hid ((be 2 (8 * l.length) ++ (l.take k).flatMap fun s => be 4 s.1 ++ be 4 s.2) = encS l) := by
            show _ = _
            rw [List.take_of_length_le (by omega)]
            rfl
          go_wp2_with fail
          go_ret2
          exact ⟨_, _, _, rfl, ho, hbw, .inl ⟨HA.out, hlen, rfl, hE.out⟩⟩
    · have hd : (1000 : Int) < (l.length : Int) := by omega
      go_enter Try.func26, Try.ntmps26
      go_wp2_with fail
      refine hr1.out.mono ?_
      rintro e w' ⟨rfl, m, rfl⟩
      go_wp2_with fail
      go_ret2
      exact ⟨_, _, [], rfl, Own.nil_ _ _ _, below_drewN (Below.refl _ _) _, .inr (.inr ⟨HA.out, hlen, rfl, rfl⟩)⟩
  · rw [show decide (canon l) = false by simpa using ha] at hr1
    go_enter Try.func26, Try.ntmps26
    go_wp2_with fail
    refine hr1.out.mono ?_
    rintro e w' ⟨rfl, m, rfl⟩
    go_wp2_with fail
    go_ret2
    exact ⟨_, _, [], rfl, Own.nil_ _ _ _, below_drewN (Below.refl _ _) _, .inr (.inl ⟨ha, rfl, rfl⟩)⟩

end Go.Proofs.Ytpchjgeehejkeaa
