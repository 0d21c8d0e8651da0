/-
  The contracts of the document's Check, sign, number, less, Compare of names.
  Conditions: none but sizes.
-/
import Derived.Test.YtalcfglcbpkebaaDoorP
import Derived.Test.YtalcfglcbpkebaaDoorGen
import Derived.BigQuiet
namespace Go.Proofs.YtalcfglcbpkebaaDoor
open Go.RowKit
set_option linter.unusedVariables false
set_option linter.unusedSimpArgs false

/-- A name as a value. -/
def xidV (f : Nat) (g h : ByteArray) : Value := .agg #[.int .u32 f, .string g, .string h]
/-- A name that may be. -/
def mayX (g h : ByteArray) : Prop := 1 ≤ g.size ∧ g.size ≤ 64 ∧ h.size ≤ 64
instance (g h : ByteArray) : Decidable (mayX g h) := by unfold mayX; infer_instance

theorem below_box (w : World) (o : Obj) : Below w.heap.size w (w.alloc o) := (Below.refl _ _).alloc (Nat.le_refl _) _

theorem qcheck_ok (f : Nat) (g h : ByteArray) (w : World) (hm : mayX g h) :
    Calls Tryd.prog 12 #[xidV f g h] w fun e w' => e = .returned (.int .i64 0) ∧ Below w.heap.size w w' := by
  obtain ⟨h1, h2, h3⟩ := hm
  unfold xidV
  have t1 : decide ((g.size : Int) < 1) = false := by simp; omega
  have t2 : decide ((64 : Int) < g.size) = false := by simp; omega
  have t3 : decide ((64 : Int) < h.size) = false := by simp; omega
  clear h1 h2 h3
  go_enter Tryd.func12, Tryd.ntmps12
  go_wp2_with fail
  go_ret
  exact ⟨rfl, below_box _ _⟩

theorem qcheck_no (f : Nat) (g h : ByteArray) (w : World) (hm : ¬ mayX g h) (hg : g.size ≤ 140737488355328) (hh : h.size ≤ 140737488355328) :
    Calls Tryd.prog 12 #[xidV f g h] w fun e w' => e = .returned (.int .i64 40) ∧ Below w.heap.size w w' := by
  unfold xidV
  have hm' : g.size < 1 ∨ 64 < g.size ∨ 64 < h.size := by unfold mayX at hm; omega
  by_cases c1 : g.size < 1
  case' pos => have t1 : decide ((g.size : Int) < 1) = true := by simp; omega
  case' neg =>
    have t1 : decide ((g.size : Int) < 1) = false := by simp; omega
    by_cases c2 : 64 < g.size
    case' pos => have t2 : decide ((64 : Int) < g.size) = true := by simp; omega
    case' neg =>
      have t2 : decide ((64 : Int) < g.size) = false := by simp; omega
      have t3 : decide ((64 : Int) < h.size) = true := by simp; omega
  all_goals
    clear hm hm'
    try clear c1
    try clear c2
    go_enter Tryd.func12, Tryd.ntmps12
    go_wp2_with fail
    go_ret
    exact ⟨rfl, below_box _ _⟩

/-- The sign of a number below 16. -/
def signD (n : Nat) : Nat := if n < 10 then 48 + n else 87 + n

theorem qsign_any (n : Nat) (w : World) (hn : n < 16) :
    Calls Tryd.prog 57 #[.int .u8 n] w fun e w' => e = .returned (.int .u8 (signD n)) ∧ w' = w := by
  unfold signD
  by_cases h : n < 10
  · have t1 : decide ((n : Int) < 10) = true := by simp; omega
    rw [if_pos h]
    go_enter Tryd.func57, Tryd.ntmps57
    go_wp2_with fail
    go_ret
    exact ⟨by simp, rfl⟩
  · have t1 : decide ((n : Int) < 10) = false := by simp; omega
    rw [if_neg h]
    go_enter Tryd.func57, Tryd.ntmps57
    go_wp2_with fail
    go_ret
    exact ⟨by simp; omega, rfl⟩

/-- The number of a sign; 16: it is none's. -/
def numD (c : Nat) : Nat := if 48 ≤ c ∧ c ≤ 57 then c - 48 else if 97 ≤ c ∧ c ≤ 102 then c - 87 else 16
theorem numD_sign (k : Nat) (h : k < 16) : numD (signD k) = k := by
  unfold signD numD
  repeat' split
  all_goals omega
theorem numD_none {c : Nat} (h : ∀ j, j < 16 → signD j ≠ c) : numD c = 16 := by
  unfold numD
  split
  · exact absurd (by unfold signD; rw [if_pos (by omega)]; omega) (h (c - 48) (by omega))
  · split
    · exact absurd (by unfold signD; rw [if_neg (by omega)]; omega) (h (c - 87) (by omega))
    · rfl
theorem signD_lt (n : Nat) (h : n < 16) : signD n < 256 := by unfold signD; split <;> omega

theorem qnumber_any (c : Nat) (w : World) (hc : c < 256) :
    Calls Tryd.prog 66 #[.int .u8 c] w fun e w' => e = .returned (.int .u8 (numD c)) ∧ w' = w := by
  go_enter Tryd.func66, Tryd.ntmps66
  go_wp2_with fail
  go_loop [3] (fun i => ∃ k : Nat, k ≤ 16 ∧ i = .int .u8 k ∧ ∀ j, j < k → signD j ≠ c) (fun i => 16 - (intOf i).toNat)
  case atStart => exact ⟨0, by omega, rfl, fun j h => absurd h (by omega)⟩
  case round =>
    obtain ⟨k, hk, rfl, hno⟩ := hrel
    by_cases hlt : k < 16
    · have hs := Lib.hid (qsign_any k w hlt)
      have hl := signD_lt k hlt
      have hkl : (k : Int) < 16 := by omega
      by_cases he : signD k = c
      · have hfin : numD c = k := by rw [← he]; exact numD_sign k hlt
        have HF := Lib.hid hfin
        have he' : ((signD k : Int) == (c : Int)) = true := by simp; omega
        clear hno hl hfin
        go_wp2_with fail
        refine hs.out.mono ?_
        rintro e w' ⟨rfl, rfl⟩
        go_wp2_with fail
        go_ret
        exact ⟨by rw [HF.out]; rfl, rfl⟩
      · have HST := Lib.hid (fun j (h : j < k + 1) => (by
          by_cases h1 : j < k
          · exact hno j h1
          · obtain rfl : j = k := by omega
            exact he : signD j ≠ c))
        have he' : ((signD k : Int) == (c : Int)) = false := by simp; omega
        clear hno hl
        go_wp2_with fail
        refine hs.out.mono ?_
        rintro e w' ⟨rfl, rfl⟩
        go_wp2_with fail
        go_round
        case rel => exact ⟨k + 1, by omega, by go_num, HST.out⟩
        case measure => simp [intOf]; omega
    · obtain rfl : k = 16 := by omega
      have hfin : numD c = 16 := numD_none hno
      have HF := Lib.hid hfin
      clear hno hfin
      go_wp2_with fail
      go_ret
      exact ⟨by rw [HF.out]; rfl, rfl⟩

/-- Does a text go ahead of another one? -/
def lessD : List UInt8 → List UInt8 → Bool
  | [], [] => false
  | [], _ :: _ => true
  | _ :: _, [] => false
  | x :: a, y :: b => if x ≠ y then decide (x.toNat < y.toNat) else lessD a b
theorem lessD_same : ∀ (k : Nat) (a b : List UInt8), a.take k = b.take k → k ≤ a.length → k ≤ b.length → lessD a b = lessD (a.drop k) (b.drop k)
  | 0, _, _, _, _, _ => by simp
  | k + 1, [], _, _, h, _ => absurd h (by simp)
  | k + 1, _ :: _, [], _, _, h => absurd h (by simp)
  | k + 1, x :: a, y :: b, h, h1, h2 => by
    simp only [List.take_succ_cons, List.cons.injEq] at h
    rw [lessD, if_neg (by simp [h.1]), lessD_same k a b h.2 (by simpa using h1) (by simpa using h2)]
    rfl

theorem sb_get (s : ByteArray) (k : Nat) (h : k < s.size) (h' : k < (sb s).length) : (sb s)[k] = s[k] := rfl
theorem sb_drop (s : ByteArray) (k : Nat) (h : k < s.size) : (sb s).drop k = s[k] :: (sb s).drop (k + 1) := by
  have h' : k < (sb s).length := by rw [sb_length]; exact h
  exact List.drop_eq_getElem_cons h'

theorem qless_any (s t : ByteArray) (w : World) (hs : s.size ≤ 140737488355328) (ht : t.size ≤ 140737488355328) :
    Calls Tryd.prog 31 #[.string s, .string t] w fun e w' => e = .returned (.bool (lessD (sb s) (sb t))) ∧ ∃ m, w' = w.drewN m := by
  go_enter Tryd.func31, Tryd.ntmps31
  go_wp2_with fail
  go_loopw [5] (fun i wr => ∃ k : Nat, k ≤ s.size ∧ k ≤ t.size ∧ i = .int .i64 k ∧ (sb s).take k = (sb t).take k ∧ ∃ m, wr = w.drewN m) (fun i _ => s.size - (intOf i).toNat)
  case atStart => exact ⟨0, by omega, by omega, rfl, by simp, 0, rfl⟩
  case round =>
    obtain ⟨k, hk, hk2, rfl, hsame, m, rfl⟩ := hrel
    have hD := lessD_same k (sb s) (sb t) hsame (by rw [sb_length]; exact hk) (by rw [sb_length]; exact hk2)
    by_cases h1 : k < s.size
    · by_cases h2 : k < t.size
      · have b1 : (k : Int) < (s.size : Int) := by omega
        have b2 : (k : Int) < (t.size : Int) := by omega
        rw [sb_drop s k h1, sb_drop t k h2, lessD] at hD
        by_cases he : s[k] = t[k]
        · have HST := Lib.hid (show (sb s).take (k + 1) = (sb t).take (k + 1) by
            rw [List.take_succ_eq_append_getElem (by rw [sb_length]; exact h1), List.take_succ_eq_append_getElem (by rw [sb_length]; exact h2), hsame]
            exact congrArg (fun x => List.take k (sb t) ++ [x]) he)
          have ht : ((s[k].toNat : Int) != (t[k].toNat : Int)) = false := by simp [he]
          clear hsame hD he
          go_wp2_with fail
          go_quiet (fail)
          go_wp2_with fail
          go_roundw
          case rel => exact ⟨k + 1, by omega, by omega, by go_num, HST.out, _, rfl⟩
          case measure => simp [intOf]; omega
        · have hne : s[k].toNat ≠ t[k].toNat := fun e => he (UInt8.toNat_inj.1 e)
          have ht : ((s[k].toNat : Int) != (t[k].toNat : Int)) = true := by simp; omega
          rw [if_pos he] at hD
          have HD := Lib.hid hD
          clear hsame hD he
          go_wp2_with fail
          go_quiet (fail)
          go_wp2_with fail
          go_quiet (fail)
          go_wp2_with fail
          go_ret
          exact ⟨by rw [HD.out]; simp, _, by rw [World.drewN_drewN, World.drewN_drewN]⟩
      · have hD2 : lessD (sb s) (sb t) = false := by
          rw [hD, sb_drop s k h1, List.drop_of_length_le (by rw [sb_length]; omega : (sb t).length ≤ k)]
          rfl
        have HD := Lib.hid hD2
        have b1 : (k : Int) < (s.size : Int) := by omega
        have b2 : decide ((k : Int) < (t.size : Int)) = false := by simp; omega
        have b3 : decide ((s.size : Int) < (t.size : Int)) = false := by simp; omega
        clear hsame hD hD2
        go_wp2_with fail
        go_ret
        exact ⟨by rw [HD.out]; first | rfl | simp_all, _, rfl⟩
    · obtain rfl : k = s.size := by omega
      have hD2 : lessD (sb s) (sb t) = decide (s.size < t.size) := by
        rw [hD, List.drop_of_length_le (by rw [sb_length]; omega : (sb s).length ≤ s.size)]
        by_cases h2 : s.size < t.size
        · rw [sb_drop t _ h2]; simp [lessD, h2]
        · rw [List.drop_of_length_le (by rw [sb_length]; omega : (sb t).length ≤ s.size)]; simp [lessD, h2]
      have HD := Lib.hid hD2
      have b1 : decide ((s.size : Int) < (s.size : Int)) = false := by simp
      clear hsame hD hD2
      go_wp2_with fail
      go_ret
      exact ⟨by rw [HD.out]; simp, _, rfl⟩

/-- What Compare of two names answers, as the document orders them. -/
def aheadD (f1 f2 : Nat) (g1 h1 g2 h2 : ByteArray) : Bool :=
  if f1 ≠ f2 then decide (f1 < f2) else if g1 ≠ g2 then lessD (sb g1) (sb g2) else lessD (sb h1) (sb h2)
def compareD (f1 f2 : Nat) (g1 h1 g2 h2 : ByteArray) : Int :=
  if f1 = f2 ∧ g1 = g2 ∧ h1 = h2 then 0 else if aheadD f1 f2 g1 h1 g2 h2 then -1 else 1

theorem below_box2 (w : World) (o p : Obj) : Below w.heap.size w ((w.alloc o).alloc p) := (below_box w o).alloc (below_box w o).size _
theorem toList_ne {a b : ByteArray} (h : a ≠ b) : ¬ a.toList = b.toList := fun e => h (by rw [← str8_sb a, ← str8_sb b, ← sb_toList, ← sb_toList, e])

theorem qcompare_any (f1 f2 : Nat) (g1 h1 g2 h2 : ByteArray) (w : World) (b1 : g1.size ≤ 140737488355328) (b2 : h1.size ≤ 140737488355328) (b3 : g2.size ≤ 140737488355328) (b4 : h2.size ≤ 140737488355328) :
    Calls Tryd.prog 14 #[xidV f1 g1 h1, xidV f2 g2 h2] w fun e w' => e = .returned (.int .i64 (compareD f1 f2 g1 h1 g2 h2)) ∧ Below w.heap.size w w' := by
  have hl1 := Lib.hid (fun w => qless_any h1 h2 w b2 b4)
  have hl2 := Lib.hid (fun w => qless_any g1 g2 w b1 b3)
  unfold xidV
  clear b1 b2 b3 b4
  by_cases ef : f1 = f2
  · subst ef
    by_cases eg : g1 = g2
    · subst eg
      by_cases eh : h1 = h2
      · subst eh
        have HD := Lib.hid (show compareD f1 f1 g1 h1 g1 h1 = 0 by simp [compareD])
        go_enter Tryd.func14, Tryd.ntmps14
        go_wp2_with fail
        go_ret
        exact ⟨by rw [HD.out]; rfl, below_box2 _ _ _⟩
      · have hD : compareD f1 f1 g1 h1 g1 h2 = if lessD (sb h1) (sb h2) then -1 else 1 := by simp [compareD, aheadD, eh]
        have HD := Lib.hid hD
        have e1 := toList_ne eh
        clear hD eh
        generalize lessD (sb h1) (sb h2) = x at *
        cases x
        all_goals
          go_enter Tryd.func14, Tryd.ntmps14
          go_wp2_with fail
          refine (hl1.out _).mono ?_
          rintro e w1 ⟨rfl, m, rfl⟩
          go_wp2_with fail
          go_ret
          exact ⟨by rw [HD.out]; rfl, below_drewN (below_box2 _ _ _) _⟩
    · have hD : compareD f1 f1 g1 h1 g2 h2 = if lessD (sb g1) (sb g2) then -1 else 1 := by simp [compareD, aheadD, eg]
      have HD := Lib.hid hD
      have e1 := toList_ne eg
      have e2 : (!g1.toList == g2.toList) = true := by simpa using e1
      clear hD eg
      generalize lessD (sb g1) (sb g2) = x at *
      cases x
      all_goals
        go_enter Tryd.func14, Tryd.ntmps14
        go_wp2_with fail
        refine (hl1.out _).mono ?_
        rintro e w1 ⟨rfl, m, rfl⟩
        go_wp2_with fail
        refine (hl2.out _).mono ?_
        rintro e w2 ⟨rfl, m2, rfl⟩
        go_wp2_with fail
        go_ret
        exact ⟨by rw [HD.out]; rfl, by first | exact below_drewN (below_box2 _ _ _) _ | exact below_drewN (below_drewN (below_box2 _ _ _) _) _⟩
  · have hD : compareD f1 f2 g1 h1 g2 h2 = if f1 < f2 then -1 else 1 := by simp [compareD, aheadD, ef]
    have HD := Lib.hid hD
    have e0 : ¬ (f1 : Int) = (f2 : Int) := by omega
    have e00 : ((f1 : Int) != (f2 : Int)) = true := by simp; omega
    clear hD ef
    by_cases hlt : f1 < f2
    case' pos =>
      rw [if_pos hlt] at HD
      have e01 : decide (f1 < f2) = true := by simp; omega
    case' neg =>
      rw [if_neg hlt] at HD
      have e01 : decide (f1 < f2) = false := by simp; omega
    all_goals
      by_cases eg : g1 = g2
      · subst eg
        go_enter Tryd.func14, Tryd.ntmps14
        go_wp2_with fail
        refine (hl1.out _).mono ?_
        rintro e w1 ⟨rfl, m, rfl⟩
        go_wp2_with fail
        go_ret
        exact ⟨by rw [HD.out]; rfl, below_drewN (below_box2 _ _ _) _⟩
      · have e1 := toList_ne eg
        have e2 : (!g1.toList == g2.toList) = true := by simpa using e1
        clear eg
        go_enter Tryd.func14, Tryd.ntmps14
        go_wp2_with fail
        refine (hl1.out _).mono ?_
        rintro e w1 ⟨rfl, m, rfl⟩
        go_wp2_with fail
        refine (hl2.out _).mono ?_
        rintro e w2 ⟨rfl, m2, rfl⟩
        go_wp2_with fail
        go_ret
        exact ⟨by rw [HD.out]; rfl, by first | exact below_drewN (below_box2 _ _ _) _ | exact below_drewN (below_drewN (below_box2 _ _ _) _) _⟩

end Go.Proofs.YtalcfglcbpkebaaDoor
