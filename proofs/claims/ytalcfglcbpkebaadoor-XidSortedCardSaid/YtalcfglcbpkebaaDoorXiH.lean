/-
  The contracts of a reading's takeDecimal and takeHex.
  Conditions: none but sizes.
-/
import Derived.Test.YtalcfglcbpkebaaDoorXiG
import Derived.Test.YtalcfglcbpkebaaDoorXiD
namespace Go.Proofs.YtalcfglcbpkebaaDoor
open Go.RowKit
set_option linter.unusedVariables false
set_option linter.unusedSimpArgs false

/-- What a rune says as a decimal digit, as a sign; -1: nothing. -/
def decI (r : Nat) : Int := if 48 ≤ r ∧ r ≤ 57 then (r : Int) - 48 else -1
def hexI (r : Nat) : Int := if numD r < 16 then (numD r : Int) else -1
theorem runeI_hex (r : Nat) : runeI signs r = hexI r := by
  by_cases h : r < 128
  · have : ∀ j : Fin 128, runeI signs j.val = hexI j.val := by decide +kernel
    exact this ⟨r, h⟩
  · have : numD r = 16 := by unfold numD; rw [if_neg (by omega), if_neg (by omega)]
    unfold runeI hexI
    rw [if_neg h, this, if_neg (by omega)]
theorem runeI_ten (r : Nat) : runeI (signs.extract 0 10) r = decI r := by
  by_cases h : r < 128
  · have : ∀ j : Fin 128, runeI (signs.extract 0 10) j.val = decI j.val := by decide +kernel
    exact this ⟨r, h⟩
  · unfold runeI decI
    rw [if_neg h, if_neg (by omega)]
theorem indexTen_any (r : Nat) (w : World) (hr : r ≤ 2147483647) :
    Calls Tryd.prog 93 #[.string (signs.extract 0 10), .int .i32 r] w fun e w' => e = .returned (.int .i64 (decI r)) ∧ Below w.heap.size w w' := by
  have h := indexRune_any (signs.extract 0 10) r w (by decide +kernel) (by decide +kernel) (by decide +kernel) hr
  rw [runeI_ten] at h
  exact h
theorem indexHex_any (r : Nat) (w : World) (hr : r ≤ 2147483647) :
    Calls Tryd.prog 93 #[.string signs, .int .i32 r] w fun e w' => e = .returned (.int .i64 (hexI r)) ∧ Below w.heap.size w w' := by
  have h := indexRune_any signs r w (by decide +kernel) (by decide +kernel) (by decide +kernel) hr
  rw [runeI_hex] at h
  exact h

theorem dec_no {w : World} {b p s f h : Nat} {gv bv : Value} (hb : Rd w b p s f h gv bv) (r : Nat) (hr : r ≤ 2147483647) (hs : s ≤ 140737488355328) (hn : ¬ (48 ≤ r ∧ r ≤ 57) ∨ (0 < s ∧ f = 0)) :
    Calls Tryd.prog 76 #[.pointer (some ⟨b, 0, none⟩), .int .i32 r] w fun e w' => e = .returned (.bool false) ∧ Below w.heap.size w w' := by
  have hi := Lib.hid (indexTen_any r w hr)
  obtain ⟨v, hv⟩ : ∃ v, v = decI r := ⟨_, rfl⟩
  rw [← hv] at hi
  by_cases c1 : 48 ≤ r ∧ r ≤ 57
  · have hn2 : 0 < s ∧ f = 0 := hn.resolve_left (by omega)
    obtain ⟨hn3, rfl⟩ := hn2
    have t0 : decide (v < 0) = false := by unfold decI at hv; rw [if_pos c1] at hv; simp; omega
    have t1 : (0 : Int) < (s : Int) := by omega
    clear hn c1 hv hn3
    go_enter Tryd.func76, Tryd.ntmps76
    go_wp2_with fail
    refine hi.out.mono ?_
    rintro e w1 ⟨rfl, hb1⟩
    have hR := hb.keep (hb1.block b hb.lt)
    have k1 := hR.c1
    have k2 := hR.c2
    go_wp2_with fail
    go_ret
    exact ⟨rfl, hb1⟩
  · have t0 : v < 0 := by unfold decI at hv; rw [if_neg c1] at hv; omega
    clear hn c1 hv
    rcases Nat.lt_or_ge 0 s with h2 | h2
    · have t1 : (0 : Int) < (s : Int) := by omega
      rcases Nat.eq_zero_or_pos f with h3 | h3
      · have t2 : ((f : Int) == 0) = true := by simp; omega
        clear h2 h3
        go_enter Tryd.func76, Tryd.ntmps76
        go_wp2_with fail
        refine hi.out.mono ?_
        rintro e w1 ⟨rfl, hb1⟩
        have hR := hb.keep (hb1.block b hb.lt)
        have k1 := hR.c1
        have k2 := hR.c2
        go_wp2_with fail
        go_ret
        exact ⟨rfl, hb1⟩
      · have t2 : ((f : Int) == 0) = false := by simp; omega
        clear h2 h3
        go_enter Tryd.func76, Tryd.ntmps76
        go_wp2_with fail
        refine hi.out.mono ?_
        rintro e w1 ⟨rfl, hb1⟩
        have hR := hb.keep (hb1.block b hb.lt)
        have k1 := hR.c1
        have k2 := hR.c2
        go_wp2_with fail
        go_ret
        exact ⟨rfl, hb1⟩
    · obtain rfl : s = 0 := by omega
      clear h2
      go_enter Tryd.func76, Tryd.ntmps76
      go_wp2_with fail
      refine hi.out.mono ?_
      rintro e w1 ⟨rfl, hb1⟩
      have hR := hb.keep (hb1.block b hb.lt)
      have k1 := hR.c1
      have k2 := hR.c2
      go_wp2_with fail
      go_ret
      exact ⟨rfl, hb1⟩

theorem dec_yes {w : World} {b p s f h : Nat} {gv bv : Value} (hb : Rd w b p s f h gv bv) (r : Nat) (hr : r ≤ 2147483647) (hs : s ≤ 140737488355328) (hf : f ≤ 4294967295) (c1 : 48 ≤ r ∧ r ≤ 57) (hn : ¬ (0 < s ∧ f = 0)) :
    Calls Tryd.prog 76 #[.pointer (some ⟨b, 0, none⟩), .int .i32 r] w fun e w' => e = .returned (.bool (decide (f * 10 + (r - 48) ≤ 4294967295))) ∧
      ∃ w1, Below w.heap.size w w1 ∧ w' = (w1.setCell ⟨b, 1, none⟩ (.int .i64 (s + 1 : Nat))).setCell ⟨b, 2, none⟩ (.int .u64 (f * 10 + (r - 48) : Nat)) := by
  have hi0 := indexTen_any r w hr
  obtain ⟨v, hv⟩ : ∃ v, v = r - 48 := ⟨_, rfl⟩
  rw [show decI r = (v : Int) by unfold decI; rw [if_pos c1]; omega] at hi0
  rw [← hv]
  have hv9 : v ≤ 9 := by omega
  have hi := Lib.hid hi0
  clear hi0 hv
  have w1' : IntKind.u64.wrap (v : Int) = (v : Int) := by rw [IntKind.wrap_u64]; omega
  obtain ⟨x, hx⟩ : ∃ x, x = f * 10 + v := ⟨_, rfl⟩
  rw [← hx]
  have e1 : (f : Int) * 10 + (v : Int) = (x : Int) := by omega
  obtain ⟨ans, ha⟩ : ∃ ans, ans = decide (x ≤ 4294967295) := ⟨_, rfl⟩
  rw [← ha]
  have ha' : decide ((x : Int) ≤ 4294967295) = ans := by rw [ha, Bool.eq_iff_iff]; simp; omega
  have HX := Lib.hid hx
  have HA := Lib.hid ha
  have hx10 : x ≤ 42949672960 := by omega
  have hfi : (f : Int) ≤ 4294967295 := by omega
  have t0 : decide ((v : Int) < 0) = false := by simp
  clear hx ha
  rcases Nat.eq_zero_or_pos s with h2 | h2
  · subst h2
    clear hn
    go_enter Tryd.func76, Tryd.ntmps76
    go_wp2_with fail
    refine hi.out.mono ?_
    rintro e w1 ⟨rfl, hb1⟩
    have hR := hb.keep (hb1.block b hb.lt)
    have k1 := hR.c1
    have k2 := hR.c2
    have f1 := hR.froz 1
    have f2 := hR.froz 2
    go_wp2_with fail
    go_ret
    exact ⟨rfl, w1, hb1, by simp⟩
  · have t1 : (0 : Int) < (s : Int) := by omega
    have t2 : ((f : Int) == 0) = false := by simp; omega
    clear hn h2
    go_enter Tryd.func76, Tryd.ntmps76
    go_wp2_with fail
    refine hi.out.mono ?_
    rintro e w1 ⟨rfl, hb1⟩
    have hR := hb.keep (hb1.block b hb.lt)
    have k1 := hR.c1
    have k2 := hR.c2
    have f1 := hR.froz 1
    have f2 := hR.froz 2
    go_wp2_with fail
    go_ret
    exact ⟨rfl, w1, hb1, by simp⟩

end Go.Proofs.YtalcfglcbpkebaaDoor
