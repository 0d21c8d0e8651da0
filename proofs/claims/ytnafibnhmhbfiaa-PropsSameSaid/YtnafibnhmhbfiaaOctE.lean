/-
  The contracts of the reader's Text and of Open.
-/
import Derived.Test.YtnafibnhmhbfiaaOctD
namespace Go.Proofs.Ytnafibnhmhbfiaa
open Go.RowKit
set_option linter.unusedVariables false
set_option linter.unusedSimpArgs false

theorem grown_trans' {a b c : World} {r : Option Nat} (h : a.grownBy b r) (k : b.grownBy c r) : a.grownBy c r :=
  ⟨k.os.trans h.os, k.tape.trans h.tape, k.output.trans h.output, Nat.le_trans h.size k.size, fun i hi hne => (k.block i (Nat.lt_of_lt_of_le hi h.size) hne).trans (h.block i hi hne)⟩

/-- What Text does behind the length. -/
def textT (most : Int) (p : Nat × Option (List UInt8)) : List UInt8 × Option (List UInt8) :=
  if most < 0 ∨ most < p.1 then ([], (takeS (-1) p.2).2) else takeS (p.1 : Nat) p.2
/-- What Text does. -/
def textS (q most : Int) (s : Option (List UInt8)) : List UInt8 × Option (List UInt8) := textT most (numS (if txt q = true then q else -1) s)

theorem takeS_lenS (n : Int) (s : Option (List UInt8)) : lenS (takeS n s).2 ≤ lenS s := by
  cases s with
  | none => simp [takeS]
  | some l => simp only [takeS]; split <;> simp [lenS]
theorem numS_lenS (q : Int) (s : Option (List UInt8)) : lenS (numS q s).2 ≤ lenS s := takeS_lenS _ _

set_option maxHeartbeats 400000 in
theorem text_yes_neg (g d : Nat) (s : Option (List UInt8)) (q most : Int) (w : World) (h : RS w g d s) (hb : lenS s ≤ 140737488355328) (m1 : -9223372036854775808 ≤ most) (m2 : most ≤ 9223372036854775807) (hq : txt q = true) (n : Nat) (s1 : Option (List UInt8)) (hn : numS q s = (n, s1))
    (hs : most < 0) :
    Calls Try.prog 77 #[.pointer (some ⟨g, 0, none⟩), .int .i64 q, .int .i64 most] w fun e w' => e = .returned (.string (str8 (takeS (-1) s1).1)) ∧ RS w' g d (takeS (-1) s1).2 ∧ w.grownBy w' (some g) := by
  have hb1 : lenS s1 ≤ 140737488355328 := by have := numS_lenS q s; rw [hn] at this; exact Nat.le_trans this hb
  have t1 : decide (most < 0) = true := by simpa using hs
  have HQ := Lib.hid hq
  have HB := Lib.hid hb
  have HN := Lib.hid hn
  have HB1 := Lib.hid hb1
  clear hq hb hn hb1
  go_enter Try.func77, Try.ntmps77
  go_wp2_with fail
  refine (isText_yes q _ HQ.out).mono ?_
  rintro e w' ⟨rfl, rfl⟩
  go_wp2_with fail
  refine (num_any g d s q _ h HB.out).mono ?_
  rintro e w1 ⟨rfl, hr1, hg1⟩
  rw [HN.out] at hr1
  simp only [HN.out]
  go_wp2_with fail
  refine (take_any g d s1 (-1) _ hr1 HB1.out).mono ?_
  rintro e w2 ⟨v2, rfl, ho2, hr2, hg2⟩
  obtain ⟨g2, _, hs2⟩ := ho2.shows
  have hcv := run_conv8 (P := Try.prog) w2 46 5 9 Try.underlying46 Try.underlying5 Try.underlying9 g2 v2 _ hs2
  go_wp2_with fail
  go_ret
  exact ⟨rfl, hr2, grown_trans' hg1 hg2⟩

set_option maxHeartbeats 400000 in
theorem text_yes_far (g d : Nat) (s : Option (List UInt8)) (q most : Int) (w : World) (h : RS w g d s) (hb : lenS s ≤ 140737488355328) (m1 : -9223372036854775808 ≤ most) (m2 : most ≤ 9223372036854775807) (hq : txt q = true) (n : Nat) (s1 : Option (List UInt8)) (hn : numS q s = (n, s1))
    (h0 : 0 ≤ most) (hs : most < n) :
    Calls Try.prog 77 #[.pointer (some ⟨g, 0, none⟩), .int .i64 q, .int .i64 most] w fun e w' => e = .returned (.string (str8 (takeS (-1) s1).1)) ∧ RS w' g d (takeS (-1) s1).2 ∧ w.grownBy w' (some g) := by
  have hb1 : lenS s1 ≤ 140737488355328 := by have := numS_lenS q s; rw [hn] at this; exact Nat.le_trans this hb
  have t1 : decide (most < 0) = false := by simp; omega
  have t2 : decide (most < (n : Int)) = true := by simpa using hs
  have HQ := Lib.hid hq
  have HB := Lib.hid hb
  have HN := Lib.hid hn
  have HB1 := Lib.hid hb1
  clear hq hb hn hb1
  go_enter Try.func77, Try.ntmps77
  go_wp2_with fail
  refine (isText_yes q _ HQ.out).mono ?_
  rintro e w' ⟨rfl, rfl⟩
  go_wp2_with fail
  refine (num_any g d s q _ h HB.out).mono ?_
  rintro e w1 ⟨rfl, hr1, hg1⟩
  rw [HN.out] at hr1
  simp only [HN.out]
  go_wp2_with fail
  refine (take_any g d s1 (-1) _ hr1 HB1.out).mono ?_
  rintro e w2 ⟨v2, rfl, ho2, hr2, hg2⟩
  obtain ⟨g2, _, hs2⟩ := ho2.shows
  have hcv := run_conv8 (P := Try.prog) w2 46 5 9 Try.underlying46 Try.underlying5 Try.underlying9 g2 v2 _ hs2
  go_wp2_with fail
  go_ret
  exact ⟨rfl, hr2, grown_trans' hg1 hg2⟩

set_option maxHeartbeats 400000 in
theorem text_yes_ok (g d : Nat) (s : Option (List UInt8)) (q most : Int) (w : World) (h : RS w g d s) (hb : lenS s ≤ 140737488355328) (m1 : -9223372036854775808 ≤ most) (m2 : most ≤ 9223372036854775807) (hq : txt q = true) (n : Nat) (s1 : Option (List UInt8)) (hn : numS q s = (n, s1))
    (h0 : 0 ≤ most) (hs : (n : Int) ≤ most) :
    Calls Try.prog 77 #[.pointer (some ⟨g, 0, none⟩), .int .i64 q, .int .i64 most] w fun e w' => e = .returned (.string (str8 (takeS (n : Nat) s1).1)) ∧ RS w' g d (takeS (n : Nat) s1).2 ∧ w.grownBy w' (some g) := by
  have hb1 : lenS s1 ≤ 140737488355328 := by have := numS_lenS q s; rw [hn] at this; exact Nat.le_trans this hb
  have t1 : decide (most < 0) = false := by simp; omega
  have t2 : decide (most < (n : Int)) = false := by simp; omega
  have t3 : (n : Int) ≤ 9223372036854775807 := by omega
  have HQ := Lib.hid hq
  have HB := Lib.hid hb
  have HN := Lib.hid hn
  have HB1 := Lib.hid hb1
  clear hq hb hn hb1
  go_enter Try.func77, Try.ntmps77
  go_wp2_with fail
  refine (isText_yes q _ HQ.out).mono ?_
  rintro e w' ⟨rfl, rfl⟩
  go_wp2_with fail
  refine (num_any g d s q _ h HB.out).mono ?_
  rintro e w1 ⟨rfl, hr1, hg1⟩
  rw [HN.out] at hr1
  simp only [HN.out]
  go_wp2_with fail
  refine (take_any g d s1 (n : Nat) _ hr1 HB1.out).mono ?_
  rintro e w2 ⟨v2, rfl, ho2, hr2, hg2⟩
  obtain ⟨g2, _, hs2⟩ := ho2.shows
  have hcv := run_conv8 (P := Try.prog) w2 46 5 9 Try.underlying46 Try.underlying5 Try.underlying9 g2 v2 _ hs2
  go_wp2_with fail
  go_ret
  exact ⟨rfl, hr2, grown_trans' hg1 hg2⟩

set_option maxHeartbeats 400000 in
theorem text_no_neg (g d : Nat) (s : Option (List UInt8)) (q most : Int) (w : World) (h : RS w g d s) (hb : lenS s ≤ 140737488355328) (m1 : -9223372036854775808 ≤ most) (m2 : most ≤ 9223372036854775807) (hq : txt q = false) (n : Nat) (s1 : Option (List UInt8)) (hn : numS (-1) s = (n, s1))
    (hs : most < 0) :
    Calls Try.prog 77 #[.pointer (some ⟨g, 0, none⟩), .int .i64 q, .int .i64 most] w fun e w' => e = .returned (.string (str8 (takeS (-1) s1).1)) ∧ RS w' g d (takeS (-1) s1).2 ∧ w.grownBy w' (some g) := by
  have hb1 : lenS s1 ≤ 140737488355328 := by have := numS_lenS (-1) s; rw [hn] at this; exact Nat.le_trans this hb
  have t1 : decide (most < 0) = true := by simpa using hs
  have HQ := Lib.hid hq
  have HB := Lib.hid hb
  have HN := Lib.hid hn
  have HB1 := Lib.hid hb1
  clear hq hb hn hb1
  go_enter Try.func77, Try.ntmps77
  go_wp2_with fail
  refine (isText_no q _ HQ.out).mono ?_
  rintro e w' ⟨rfl, rfl⟩
  go_wp2_with fail
  refine (num_any g d s (-1) _ h HB.out).mono ?_
  rintro e w1 ⟨rfl, hr1, hg1⟩
  rw [HN.out] at hr1
  simp only [HN.out]
  go_wp2_with fail
  refine (take_any g d s1 (-1) _ hr1 HB1.out).mono ?_
  rintro e w2 ⟨v2, rfl, ho2, hr2, hg2⟩
  obtain ⟨g2, _, hs2⟩ := ho2.shows
  have hcv := run_conv8 (P := Try.prog) w2 46 5 9 Try.underlying46 Try.underlying5 Try.underlying9 g2 v2 _ hs2
  go_wp2_with fail
  go_ret
  exact ⟨rfl, hr2, grown_trans' hg1 hg2⟩

set_option maxHeartbeats 400000 in
theorem text_no_far (g d : Nat) (s : Option (List UInt8)) (q most : Int) (w : World) (h : RS w g d s) (hb : lenS s ≤ 140737488355328) (m1 : -9223372036854775808 ≤ most) (m2 : most ≤ 9223372036854775807) (hq : txt q = false) (n : Nat) (s1 : Option (List UInt8)) (hn : numS (-1) s = (n, s1))
    (h0 : 0 ≤ most) (hs : most < n) :
    Calls Try.prog 77 #[.pointer (some ⟨g, 0, none⟩), .int .i64 q, .int .i64 most] w fun e w' => e = .returned (.string (str8 (takeS (-1) s1).1)) ∧ RS w' g d (takeS (-1) s1).2 ∧ w.grownBy w' (some g) := by
  have hb1 : lenS s1 ≤ 140737488355328 := by have := numS_lenS (-1) s; rw [hn] at this; exact Nat.le_trans this hb
  have t1 : decide (most < 0) = false := by simp; omega
  have t2 : decide (most < (n : Int)) = true := by simpa using hs
  have HQ := Lib.hid hq
  have HB := Lib.hid hb
  have HN := Lib.hid hn
  have HB1 := Lib.hid hb1
  clear hq hb hn hb1
  go_enter Try.func77, Try.ntmps77
  go_wp2_with fail
  refine (isText_no q _ HQ.out).mono ?_
  rintro e w' ⟨rfl, rfl⟩
  go_wp2_with fail
  refine (num_any g d s (-1) _ h HB.out).mono ?_
  rintro e w1 ⟨rfl, hr1, hg1⟩
  rw [HN.out] at hr1
  simp only [HN.out]
  go_wp2_with fail
  refine (take_any g d s1 (-1) _ hr1 HB1.out).mono ?_
  rintro e w2 ⟨v2, rfl, ho2, hr2, hg2⟩
  obtain ⟨g2, _, hs2⟩ := ho2.shows
  have hcv := run_conv8 (P := Try.prog) w2 46 5 9 Try.underlying46 Try.underlying5 Try.underlying9 g2 v2 _ hs2
  go_wp2_with fail
  go_ret
  exact ⟨rfl, hr2, grown_trans' hg1 hg2⟩

set_option maxHeartbeats 400000 in
theorem text_no_ok (g d : Nat) (s : Option (List UInt8)) (q most : Int) (w : World) (h : RS w g d s) (hb : lenS s ≤ 140737488355328) (m1 : -9223372036854775808 ≤ most) (m2 : most ≤ 9223372036854775807) (hq : txt q = false) (n : Nat) (s1 : Option (List UInt8)) (hn : numS (-1) s = (n, s1))
    (h0 : 0 ≤ most) (hs : (n : Int) ≤ most) :
    Calls Try.prog 77 #[.pointer (some ⟨g, 0, none⟩), .int .i64 q, .int .i64 most] w fun e w' => e = .returned (.string (str8 (takeS (n : Nat) s1).1)) ∧ RS w' g d (takeS (n : Nat) s1).2 ∧ w.grownBy w' (some g) := by
  have hb1 : lenS s1 ≤ 140737488355328 := by have := numS_lenS (-1) s; rw [hn] at this; exact Nat.le_trans this hb
  have t1 : decide (most < 0) = false := by simp; omega
  have t2 : decide (most < (n : Int)) = false := by simp; omega
  have t3 : (n : Int) ≤ 9223372036854775807 := by omega
  have HQ := Lib.hid hq
  have HB := Lib.hid hb
  have HN := Lib.hid hn
  have HB1 := Lib.hid hb1
  clear hq hb hn hb1
  go_enter Try.func77, Try.ntmps77
  go_wp2_with fail
  refine (isText_no q _ HQ.out).mono ?_
  rintro e w' ⟨rfl, rfl⟩
  go_wp2_with fail
  refine (num_any g d s (-1) _ h HB.out).mono ?_
  rintro e w1 ⟨rfl, hr1, hg1⟩
  rw [HN.out] at hr1
  simp only [HN.out]
  go_wp2_with fail
  refine (take_any g d s1 (n : Nat) _ hr1 HB1.out).mono ?_
  rintro e w2 ⟨v2, rfl, ho2, hr2, hg2⟩
  obtain ⟨g2, _, hs2⟩ := ho2.shows
  have hcv := run_conv8 (P := Try.prog) w2 46 5 9 Try.underlying46 Try.underlying5 Try.underlying9 g2 v2 _ hs2
  go_wp2_with fail
  go_ret
  exact ⟨rfl, hr2, grown_trans' hg1 hg2⟩

theorem text_any (g d : Nat) (s : Option (List UInt8)) (q most : Int) (w : World) (h : RS w g d s) (hb : lenS s ≤ 140737488355328) (m1 : -9223372036854775808 ≤ most) (m2 : most ≤ 9223372036854775807) :
    Calls Try.prog 77 #[.pointer (some ⟨g, 0, none⟩), .int .i64 q, .int .i64 most] w fun e w' => e = .returned (.string (str8 (textS q most s).1)) ∧ RS w' g d (textS q most s).2 ∧ w.grownBy w' (some g) := by
  have e0 : ∀ s1, (takeS (-1) s1).1 = [] := fun s1 => by cases s1 <;> simp [takeS]
  unfold textS
  by_cases hq : txt q = true
  · rw [if_pos hq]
    generalize hn : numS q s = p
    obtain ⟨n, s1⟩ := p
    unfold textT
    by_cases h0 : most < 0
    · rw [if_pos (.inl h0)]
      have := text_yes_neg g d s q most w h hb m1 m2 hq n s1 hn h0
      rw [e0] at this
      exact this
    · by_cases h1 : most < (n : Int)
      · rw [if_pos (.inr h1)]
        have := text_yes_far g d s q most w h hb m1 m2 hq n s1 hn (by omega) h1
        rw [e0] at this
        exact this
      · rw [if_neg (by simp; omega)]
        exact text_yes_ok g d s q most w h hb m1 m2 hq n s1 hn (by omega) (by omega)
  · rw [if_neg hq]
    have hq : txt q = false := by simpa using hq
    generalize hn : numS (-1) s = p
    obtain ⟨n, s1⟩ := p
    unfold textT
    by_cases h0 : most < 0
    · rw [if_pos (.inl h0)]
      have := text_no_neg g d s q most w h hb m1 m2 hq n s1 hn h0
      rw [e0] at this
      exact this
    · by_cases h1 : most < (n : Int)
      · rw [if_pos (.inr h1)]
        have := text_no_far g d s q most w h hb m1 m2 hq n s1 hn (by omega) h1
        rw [e0] at this
        exact this
      · rw [if_neg (by simp; omega)]
        exact text_no_ok g d s q most w h hb m1 m2 hq n s1 hn (by omega) (by omega)

set_option maxHeartbeats 400000 in
theorem text_nil (q most : Int) (w : World) (m1 : -9223372036854775808 ≤ most) (m2 : most ≤ 9223372036854775807) :
    Calls Try.prog 77 #[.pointer none, .int .i64 q, .int .i64 most] w fun e w' => e = .returned (.string (str8 [])) ∧ w = w' := by
  have hcv := fun W => run_conv8 (P := Try.prog) W 46 5 9 Try.underlying46 Try.underlying5 Try.underlying9 0 _ _ (Shows.nil_ W 0)
  by_cases h0 : most < 0
  · have t1 : decide (most < 0) = true := by simpa using h0
    by_cases hq : txt q = true
    all_goals
      have HQ := Lib.hid hq
      clear hq
      go_enter Try.func77, Try.ntmps77
      go_wp2_with fail
      first
        | refine (isText_yes q _ HQ.out).mono ?_
        | refine (isText_no q _ (by simpa using HQ.out)).mono ?_
      rintro e w' ⟨rfl, rfl⟩
      go_wp2_with fail
      refine (num_nil _ _).mono ?_
      rintro e w' ⟨rfl, rfl⟩
      go_wp2_with fail
      refine (take_nil _ _).mono ?_
      rintro e w' ⟨rfl, rfl⟩
      go_wp2_with fail
      go_ret
      exact ⟨rfl, rfl⟩
  · have t1 : decide (most < 0) = false := by simp; omega
    have t2 : decide (most < (0 : Int)) = false := by simp; omega
    by_cases hq : txt q = true
    all_goals
      have HQ := Lib.hid hq
      clear hq
      go_enter Try.func77, Try.ntmps77
      go_wp2_with fail
      first
        | refine (isText_yes q _ HQ.out).mono ?_
        | refine (isText_no q _ (by simpa using HQ.out)).mono ?_
      rintro e w' ⟨rfl, rfl⟩
      go_wp2_with fail
      refine (num_nil _ _).mono ?_
      rintro e w' ⟨rfl, rfl⟩
      go_wp2_with fail
      refine (take_nil _ _).mono ?_
      rintro e w' ⟨rfl, rfl⟩
      go_wp2_with fail
      go_ret
      exact ⟨rfl, rfl⟩

set_option maxHeartbeats 400000 in
theorem open_any (v : Value) (l : List UInt8) (d : Nat) (w : World) (h : Shows w d v l) (hl : l.length ≤ 140737488355328) :
    Calls Try.prog 48 #[v] w fun e w' => ∃ g d', e = .returned (.pointer (some ⟨g, 0, none⟩)) ∧ RS w' g d' (some l) ∧ w.heap.size ≤ g ∧ (w.heap.size ≤ d' ∧ d' ≤ g) ∧ Below w.heap.size w w' := by
  go_enter Try.func48, Try.ntmps48
  go_wp2_with fail
  refine (joined_any v _ l [] d 0 _ h (Shows.nil_ _ _) (by simpa using hl)).mono ?_
  rintro e w1 ⟨v1, rfl, ho1, hb1⟩
  rw [List.append_nil] at ho1
  obtain ⟨g1, hge, hgl, hs1⟩ := ho1.shows' hb1.size
  have hs := hs1
  obtain ⟨A, c, rfl, _⟩ := hs1
  go_wp2_with fail
  go_ret
  exact ⟨w1.heap.size, g1, rfl, ⟨A, c, heap_alloc_new w1 _, hs.keep (by simp) (fun hp => Below.heap_alloc w1 _ _ (hs.lt hp))⟩, hb1.size, ⟨hge, hgl⟩, hb1.alloc hb1.size _⟩

end Go.Proofs.Ytnafibnhmhbfiaa
