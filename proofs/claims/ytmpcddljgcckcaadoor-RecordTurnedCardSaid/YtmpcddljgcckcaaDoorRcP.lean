/-
  Without the program: records as bytes, the first record of a text, a text that is scanned; cut off, turned, put again.
  Conditions: none.
-/
import Derived.Test.YtmpcddljgcckcaaDoorOctS
import Derived.Test.YtmpcddljgcckcaaDoorCrcE
import Derived.Test.YtmpcddljgcckcaaDoorGen
namespace Go.Proofs.YtmpcddljgcckcaaDoor
open Go.RowKit
open Crc (sealD okSeal sealD_length sealD_ok okSeal_iff openD)
set_option linter.unusedVariables false
set_option linter.unusedSimpArgs false

/-- A record. -/
structure Rc where
  k : UInt8
  p : ByteArray
def Rc.zero : Rc := ⟨0, ⟨#[]⟩⟩
/-- How a record lies: two cells. -/
def rcC : Code Rc := { enc := fun s => [u8c s.k, .string s.p], sz := 2, len := fun _ => rfl, one := fun x u hu => by simp at hu; rcases hu with rfl | rfl <;> rfl, pos := by omega }

/-! ### numbers as bytes -/
theorem rc_numOf_be : ∀ (k n : Nat), numOf (be k n) = n % 256 ^ k
  | 0, n => by simp [be, numOf, Nat.mod_one]
  | k + 1, n => by
    rw [be, numOf_snoc, rc_numOf_be k, Nat.pow_succ, Nat.mul_comm (256 ^ k) 256, Nat.mod_mul]
    simp
    omega
theorem rc_be_numOf : ∀ (k : Nat) (l : List UInt8), l.length = k → be k (numOf l) = l
  | 0, l, h => by rw [List.eq_nil_of_length_eq_zero h]; rfl
  | k + 1, l, h => by
    have hne : l ≠ [] := by intro e; rw [e] at h; cases h
    have e := List.dropLast_concat_getLast hne
    rw [← e, numOf_snoc, be]
    have hb := (l.getLast hne).toNat_lt
    rw [show (numOf l.dropLast * 256 + (l.getLast hne).toNat) / 256 = numOf l.dropLast by omega, rc_be_numOf k l.dropLast (by simp [h])]
    congr 1
    simp

/-! ### a record's bytes -/
def headP (r : Rc) : List UInt8 := be 1 r.k.toNat ++ be 4 r.p.size
theorem headP_length (r : Rc) : (headP r).length = 5 := by simp [headP, be_length]
def recB (r : Rc) : List UInt8 := sealD (headP r) ++ sealD (sb r.p)
theorem recB_length (r : Rc) : (recB r).length = r.p.size + 13 := by simp [recB, sealD_length, headP_length, sb_length]; omega
def recsB (l : List Rc) : List UInt8 := l.flatMap recB
theorem recsB_nil : recsB [] = [] := rfl
theorem recsB_cons (r : Rc) (l : List Rc) : recsB (r :: l) = recB r ++ recsB l := by simp [recsB]
theorem recsB_append (a b : List Rc) : recsB (a ++ b) = recsB a ++ recsB b := by simp [recsB]
theorem recsB_take (l : List Rc) (k : Nat) (h : k < l.length) : recsB (l.take (k + 1)) = recsB (l.take k) ++ recB l[k] := by
  rw [List.take_succ_eq_append_getElem h, recsB_append, recsB_cons, recsB_nil, List.append_nil]

/-! ### the first record of a text -/
def nAt (s : List UInt8) : Nat := numOf ((s.drop 1).take 4)
theorem nAt_lt (s : List UInt8) : nAt s < 4294967296 := by
  have h := numOf_lt ((s.drop 1).take 4)
  have hl : ((s.drop 1).take 4).length ≤ 4 := by simp; omega
  exact Nat.lt_of_lt_of_le h (Nat.le_trans (Nat.pow_le_pow_right (by omega) hl) (by decide))
def stR (s : List UInt8) : Nat :=
  if s.length < 9 then 1 else if okSeal (s.take 9) then (if 65536 < nAt s then 2 else if s.length < nAt s + 13 then 1 else if okSeal ((s.drop 9).take (nAt s + 4)) then 0 else 2) else 2
theorem stR_lt (s : List UInt8) : stR s < 3 := by
  unfold stR
  repeat' split
  all_goals omega
def rcAt (s : List UInt8) : Rc := ⟨UInt8.ofNat (numOf (s.take 1)), str8 ((s.drop 9).take (nAt s))⟩
def rcR (s : List UInt8) : Rc := if stR s = 0 then rcAt s else Rc.zero

theorem stR_zero {s : List UInt8} (h : stR s = 0) : 9 ≤ s.length ∧ okSeal (s.take 9) ∧ nAt s ≤ 65536 ∧ nAt s + 13 ≤ s.length ∧ okSeal ((s.drop 9).take (nAt s + 4)) := by
  unfold stR at h
  split at h
  · cases h
  · split at h
    · split at h
      · cases h
      · split at h
        · cases h
        · split at h
          · exact ⟨by omega, by assumption, by omega, by omega, by assumption⟩
          · cases h
    · cases h

/-- Sealed bytes in front of others: what is read of them. -/
theorem head_front (r : Rc) (t : List UInt8) (hp : r.p.size ≤ 65536) : (sealD (headP r) ++ t).take 9 = sealD (headP r) ∧ nAt (sealD (headP r) ++ t) = r.p.size ∧ UInt8.ofNat (numOf ((sealD (headP r) ++ t).take 1)) = r.k ∧ (sealD (headP r) ++ t).drop 9 = t := by
  have h9 : (sealD (headP r)).length = 9 := by rw [sealD_length, headP_length]
  refine ⟨by rw [← h9, List.take_left], ?_, ?_, by rw [← h9, List.drop_left]⟩
  · unfold nAt
    have e : ((sealD (headP r) ++ t).drop 1).take 4 = be 4 r.p.size := by
      simp [sealD, headP, be]
    rw [e, rc_numOf_be, Nat.mod_eq_of_lt (by omega)]
  · have e : (sealD (headP r) ++ t).take 1 = be 1 r.k.toNat := by
      simp [sealD, headP, be]
    rw [e, rc_numOf_be]
    simp

theorem first_put (r : Rc) (t : List UInt8) (hp : r.p.size ≤ 65536) : stR (recB r ++ t) = 0 ∧ nAt (recB r ++ t) = r.p.size ∧ rcR (recB r ++ t) = r := by
  obtain ⟨h1, h2, h3, h4⟩ := head_front r (sealD (sb r.p) ++ t) hp
  have hl := recB_length r
  have e : recB r ++ t = sealD (headP r) ++ (sealD (sb r.p) ++ t) := by rw [recB, List.append_assoc]
  have hb : (sealD (sb r.p)).length = r.p.size + 4 := by rw [sealD_length, sb_length]
  have hs : stR (recB r ++ t) = 0 := by
    unfold stR
    rw [if_neg (by rw [List.length_append]; omega), e, h1, if_pos (sealD_ok _), h2, if_neg (by omega), if_neg (by rw [← e, List.length_append]; omega), h4, ← hb, List.take_left, if_pos (sealD_ok _)]
  refine ⟨hs, by rw [e, h2], ?_⟩
  unfold rcR rcAt
  rw [if_pos hs, e, h2, h3, h4]
  have : (sealD (sb r.p) ++ t).take r.p.size = sb r.p := by
    rw [sealD, List.append_assoc, ← sb_length, List.take_left]
  rw [this, str8_sb]

theorem first_sound {s : List UInt8} (h : stR s = 0) : recB (rcR s) = s.take (nAt s + 13) ∧ (rcR s).p.size = nAt s ∧ nAt s ≤ 65536 ∧ nAt s + 13 ≤ s.length := by
  obtain ⟨h1, h2, h3, h4, h5⟩ := stR_zero h
  have hd : ((s.drop 9).take (nAt s)).length = nAt s := by simp; omega
  have hsz : (rcR s).p.size = nAt s := by
    unfold rcR rcAt
    rw [if_pos h, str8_size, hd]
  refine ⟨?_, hsz, h3, h4⟩
  have e1 : sealD (headP (rcR s)) = s.take 9 := by
    have h6 := ((okSeal_iff _).1 h2).2
    have hl9 : (s.take 9).length = 9 := by simp; omega
    rw [hl9, List.take_take] at h6
    have e5 : headP (rcR s) = s.take (min (9 - 4) 9) := by
      unfold headP
      rw [hsz]
      have ek : (rcR s).k.toNat = numOf (s.take 1) := by
        unfold rcR rcAt
        rw [if_pos h]
        have := numOf_lt (s.take 1)
        have hl1 : (s.take 1).length = 1 := by simp; omega
        rw [hl1] at this
        simp
        omega
      have h14 : s.take 5 = s.take 1 ++ (s.drop 1).take 4 := by rw [show (5 : Nat) = 1 + 4 from rfl, List.take_add]
      rw [ek, rc_be_numOf 1 _ (by simp; omega), nAt, rc_be_numOf 4 _ (by simp; omega), show min (9 - 4) 9 = 5 from rfl, h14]
    rw [e5]
    exact h6
  have e2 : sealD (sb (rcR s).p) = (s.drop 9).take (nAt s + 4) := by
    have h6 := ((okSeal_iff _).1 h5).2
    have hl9 : ((s.drop 9).take (nAt s + 4)).length = nAt s + 4 := by simp; omega
    rw [hl9, List.take_take, show min (nAt s + 4 - 4) (nAt s + 4) = nAt s by omega] at h6
    have : sb (rcR s).p = (s.drop 9).take (nAt s) := by
      unfold rcR rcAt
      rw [if_pos h]
      exact sb_str8 _
    rw [this]
    exact h6
  rw [recB, e1, e2, show nAt s + 13 = 9 + (nAt s + 4) by omega, List.take_add (i := 9)]

/-! ### a text that is scanned -/
def scanR (s : List UInt8) : List Rc × Nat × Nat :=
  if s = [] then ([], 0, 0)
  else if h : stR s = 0 then
    (rcR s :: (scanR (s.drop (nAt s + 13))).1, nAt s + 13 + (scanR (s.drop (nAt s + 13))).2.1, (scanR (s.drop (nAt s + 13))).2.2)
  else ([], 0, stR s)
termination_by s.length
decreasing_by all_goals (have := (stR_zero h).2.2.2.1; simp; omega)

theorem scanR_nil : scanR [] = ([], 0, 0) := by rw [scanR]; simp
theorem stR_ne {s : List UInt8} (h : stR s = 0) : s ≠ [] := by
  intro e
  have := (stR_zero h).1
  rw [e] at this
  simp at this
theorem scanR_step {s : List UInt8} (h : stR s = 0) : scanR s = (rcR s :: (scanR (s.drop (nAt s + 13))).1, nAt s + 13 + (scanR (s.drop (nAt s + 13))).2.1, (scanR (s.drop (nAt s + 13))).2.2) := by
  rw [scanR, if_neg (stR_ne h), dif_pos h]
theorem scanR_stop {s : List UInt8} (hs : s ≠ []) (h : stR s ≠ 0) : scanR s = ([], 0, stR s) := by
  rw [scanR, if_neg hs, dif_neg h]

theorem scan_put : ∀ (l : List Rc) (t : List UInt8), (∀ r ∈ l, r.p.size ≤ 65536) → scanR (recsB l ++ t) = (l ++ (scanR t).1, (recsB l).length + (scanR t).2.1, (scanR t).2.2)
  | [], t, _ => by simp [recsB_nil]
  | r :: l, t, h => by
    obtain ⟨h1, h2, h3⟩ := first_put r (recsB l ++ t) (h r (by simp))
    rw [recsB_cons, List.append_assoc, scanR_step h1, h2, h3]
    have hd : (recB r ++ (recsB l ++ t)).drop (r.p.size + 13) = recsB l ++ t := by rw [← recB_length, List.drop_left]
    rw [hd, scan_put l t fun x hx => h x (by simp [hx])]
    simp only [List.cons_append, List.length_append, recB_length, Prod.mk.injEq, true_and, and_true]
    omega

theorem scan_sound : ∀ (n : Nat) (s : List UInt8), s.length = n → recsB (scanR s).1 = s.take (scanR s).2.1 ∧ (scanR s).2.1 ≤ s.length ∧ (∀ r ∈ (scanR s).1, r.p.size ≤ 65536) ∧ ((scanR s).2.2 = 0 → (scanR s).2.1 = s.length) ∧ (scanR s).2.2 < 3 ∧ 13 * (scanR s).1.length ≤ (scanR s).2.1 := by
  intro n
  induction n using Nat.strongRecOn with
  | _ n ih =>
    intro s hs
    by_cases he : s = []
    · subst he
      rw [scanR_nil]
      simp [recsB_nil]
    · by_cases h : stR s = 0
      · obtain ⟨f1, f2, f3, f4⟩ := first_sound h
        have hne := stR_ne h
        obtain ⟨i1, i2, i3, i4, i5, i6⟩ := ih (s.drop (nAt s + 13)).length (by rw [List.length_drop]; omega) _ rfl
        rw [scanR_step h]
        simp only [List.length_drop] at i2 i4
        refine ⟨?_, by show nAt s + 13 + _ ≤ _; omega, ?_, fun h0 => by have := i4 h0; show nAt s + 13 + _ = _; omega, i5, by show 13 * (_ + 1) ≤ nAt s + 13 + _; omega⟩
        · show _ = s.take (nAt s + 13 + _)
          rw [recsB_cons, f1, i1, List.take_add (i := nAt s + 13)]
        · intro r hr
          rcases List.mem_cons.1 hr with rfl | hr
          · omega
          · exact i3 r hr
      · rw [scanR_stop he h]
        exact ⟨rfl, Nat.zero_le _, fun r hr => absurd hr (by simp), fun h0 => absurd h0 h, stR_lt s, Nat.le_refl 0⟩

/-- What is scanned, from a place between two records on. -/
def ScanMid (s : List UInt8) (fs : List Rc) (k : Nat) : Prop := scanR s = (fs ++ (scanR (s.drop k)).1, k + (scanR (s.drop k)).2.1, (scanR (s.drop k)).2.2)
theorem ScanMid.start (s : List UInt8) : ScanMid s [] 0 := by simp [ScanMid]
theorem ScanMid.step {s : List UInt8} {fs : List Rc} {k : Nat} (h : ScanMid s fs k) (h0 : stR (s.drop k) = 0) : ScanMid s (fs ++ [rcR (s.drop k)]) (k + (nAt (s.drop k) + 13)) := by
  unfold ScanMid at *
  rw [h, scanR_step h0, List.drop_drop]
  simp only [List.append_assoc, List.singleton_append, Prod.mk.injEq, true_and, and_true]
  omega
theorem ScanMid.done {s : List UInt8} {fs : List Rc} {k : Nat} (h : ScanMid s fs k) (h0 : s.length ≤ k) : scanR s = (fs, k, 0) := by
  rw [h, List.drop_of_length_le h0, scanR_nil]
  simp
theorem ScanMid.stop {s : List UInt8} {fs : List Rc} {k : Nat} (h : ScanMid s fs k) (hk : k < s.length) (h0 : stR (s.drop k) ≠ 0) : scanR s = (fs, k, stR (s.drop k)) := by
  rw [h, scanR_stop (by intro e; have := congrArg List.length e; rw [List.length_drop] at this; simp at this; omega) h0]
  simp

/-! ### cut off -/
theorem torn (r : Rc) (j : Nat) (hp : r.p.size ≤ 65536) (hj : j < r.p.size + 13) : stR ((recB r).take j) = 1 := by
  have hl := recB_length r
  unfold stR
  by_cases h9 : j < 9
  · rw [if_pos (by simp; omega)]
  · obtain ⟨h1, h2, h3, h4⟩ := head_front r ((sealD (sb r.p)).take (j - 9)) hp
    have e9 : (sealD (headP r)).length = 9 := by rw [sealD_length, headP_length]
    have e : (recB r).take j = sealD (headP r) ++ (sealD (sb r.p)).take (j - 9) := by
      rw [recB, List.take_append, e9, List.take_of_length_le (by omega)]
    have hlen : ((recB r).take j).length = j := by rw [List.length_take]; omega
    rw [if_neg (by omega), e, h1, if_pos (sealD_ok _), h2, if_neg (by omega), if_pos (by rw [← e, hlen]; exact hj)]

theorem scan_cut (a b : List Rc) (j : Nat) (hp : ∀ r ∈ a ++ b, r.p.size ≤ 65536) (h1 : (recsB a).length ≤ j) (h2 : j ≤ (recsB (a ++ b)).length) (h3 : ∀ r b', b = r :: b' → j < (recsB a).length + r.p.size + 13) :
    scanR ((recsB (a ++ b)).take j) = (a, (recsB a).length, if j = (recsB a).length then 0 else 1) := by
  have e : (recsB (a ++ b)).take j = recsB a ++ (recsB b).take (j - (recsB a).length) := by
    rw [recsB_append, List.take_append, List.take_of_length_le h1]
  rw [e, scan_put a _ fun r hr => hp r (by simp [hr])]
  cases b with
  | nil =>
    rw [List.append_nil] at h2
    rw [recsB_nil, List.take_nil, scanR_nil, if_pos (by omega)]
    simp
  | cons r b' =>
    have h4 := h3 r b' rfl
    have hl := recB_length r
    rw [recsB_cons, List.take_append, show j - (recsB a).length - (recB r).length = 0 by omega, List.take_zero, List.append_nil]
    by_cases hj : j = (recsB a).length
    · rw [if_pos hj, hj, Nat.sub_self, List.take_zero, scanR_nil]
      simp
    · have ht := torn r (j - (recsB a).length) (hp r (by simp)) (by omega)
      rw [if_neg hj, scanR_stop (by intro e0; have := congrArg List.length e0; rw [List.length_take, recB_length] at this; simp at this; omega) (by rw [ht]; decide), ht]
      simp

/-! ### turned -/
theorem le_append : ∀ (a b : List UInt8), Crc.le (a ++ b) = Crc.le a + 2 ^ (8 * a.length) * Crc.le b
  | [], b => by simp [Crc.le]
  | x :: a, b => by
    simp only [List.cons_append, Crc.le, List.length_cons]
    rw [le_append a b, show 8 * (a.length + 1) = 8 + 8 * a.length by omega, Nat.pow_add, Nat.mul_add, Nat.mul_assoc]
    omega
theorem le_inj : ∀ (a b : List UInt8), a.length = b.length → Crc.le a = Crc.le b → a = b
  | [], [], _, _ => rfl
  | x :: a, y :: b, h, e => by
    simp only [Crc.le] at e
    have hx := x.toNat_lt
    have hy := y.toNat_lt
    have h1 : x.toNat = y.toNat := by omega
    have h2 : Crc.le a = Crc.le b := by omega
    rw [UInt8.toNat_inj.1 h1, le_inj a b (by simpa using h) h2]

theorem ebits_low (v f N : Nat) (hN : 72 ≤ N) : Crc.ebits v f N 32 % 2 ^ 72 = Crc.ebits v f 72 32 := by
  apply Nat.eq_of_testBit_eq
  intro p
  rw [Nat.testBit_mod_two_pow, Crc.ebits_bit, Crc.ebits_bit]
  by_cases h : p < 72
  · simp [h, show p < N by omega]
  · simp [h]
theorem ebits_high (v f N : Nat) (hN : 72 ≤ N) (hf : f ≤ N) : ∃ v' f', f' ≤ N - 72 ∧ Crc.ebits v f N 32 / 2 ^ 72 = Crc.ebits v' f' (N - 72) 32 := by
  by_cases h : 72 ≤ f
  · refine ⟨v, f - 72, by omega, ?_⟩
    apply Nat.eq_of_testBit_eq
    intro p
    rw [Nat.testBit_div_two_pow, Crc.ebits_bit, Crc.ebits_bit, show decide (p + 72 < N) = decide (p < N - 72) by simp; omega, show decide (f ≤ p + 72) = decide (f - 72 ≤ p) by simp]
    by_cases hq : f - 72 ≤ p
    · rw [show p + 72 - f = p - (f - 72) by omega]
    · simp [hq]
  · refine ⟨v % 2 ^ 32 / 2 ^ (72 - f), 0, by omega, ?_⟩
    apply Nat.eq_of_testBit_eq
    intro p
    rw [Nat.testBit_div_two_pow, Crc.ebits_bit, Crc.ebits_bit, Nat.testBit_div_two_pow, Nat.testBit_mod_two_pow, show decide (p + 72 < N) = decide (p < N - 72) by simp; omega, show decide (f ≤ p + 72) = true by simp; omega, show p - 0 + (72 - f) = p + 72 - f by omega, show decide (0 ≤ p) = true by simp]
    by_cases hq : p + 72 - f < 32
    · simp [hq, show p < 32 by omega]
    · simp [hq]

theorem turned (r : Rc) (m t : List UInt8) (v f : Nat) (hp : r.p.size ≤ 65536) (hlen : m.length = r.p.size + 13) (hf : f ≤ 8 * (r.p.size + 13)) (hm : Crc.le m = Crc.le (recB r) ^^^ Crc.ebits v f (8 * (r.p.size + 13)) 32) (hne : Crc.ebits v f (8 * (r.p.size + 13)) 32 ≠ 0) :
    stR (m ++ t) = 2 := by
  obtain ⟨N, hN⟩ : ∃ N, N = 8 * (r.p.size + 13) := ⟨_, rfl⟩
  rw [← hN] at hf hm hne
  have h9 : (m.take 9).length = 9 := by simp; omega
  have hh9 : (sealD (headP r)).length = 9 := by rw [sealD_length, headP_length]
  have hb4 : (sealD (sb r.p)).length = r.p.size + 4 := by rw [sealD_length, sb_length]
  have em : Crc.le m = Crc.le (m.take 9) + 2 ^ 72 * Crc.le (m.drop 9) := by
    have := le_append (m.take 9) (m.drop 9)
    rw [List.take_append_drop, h9] at this
    exact this
  have er : Crc.le (recB r) = Crc.le (sealD (headP r)) + 2 ^ 72 * Crc.le (sealD (sb r.p)) := by
    have := le_append (sealD (headP r)) (sealD (sb r.p))
    rw [hh9] at this
    exact this
  have l1 : Crc.le (m.take 9) < 2 ^ 72 := by have := Crc.le_lt (m.take 9); rwa [h9] at this
  have l2 : Crc.le (sealD (headP r)) < 2 ^ 72 := by have := Crc.le_lt (sealD (headP r)); rwa [hh9] at this
  have m1 : Crc.le (m.take 9) = Crc.le (sealD (headP r)) ^^^ Crc.ebits v f 72 32 := by
    have e1 : Crc.le m % 2 ^ 72 = Crc.le (m.take 9) := by rw [em, Nat.add_mul_mod_self_left, Nat.mod_eq_of_lt l1]
    have e2 : Crc.le (recB r) % 2 ^ 72 = Crc.le (sealD (headP r)) := by rw [er, Nat.add_mul_mod_self_left, Nat.mod_eq_of_lt l2]
    rw [← e1, hm, Nat.xor_mod_two_pow, e2, ebits_low v f N (by omega)]
  have m2 : Crc.le (m.drop 9) = Crc.le (sealD (sb r.p)) ^^^ (Crc.ebits v f N 32 / 2 ^ 72) := by
    have e1 : Crc.le m / 2 ^ 72 = Crc.le (m.drop 9) := by rw [em, Nat.add_mul_div_left _ _ (by decide), Nat.div_eq_of_lt l1, Nat.zero_add]
    have e2 : Crc.le (recB r) / 2 ^ 72 = Crc.le (sealD (sb r.p)) := by rw [er, Nat.add_mul_div_left _ _ (by decide), Nat.div_eq_of_lt l2, Nat.zero_add]
    rw [← e1, hm, Nat.xor_div_two_pow, e2]
  have et : (m ++ t).take 9 = m.take 9 := by rw [List.take_append, show 9 - m.length = 0 by omega, List.take_zero, List.append_nil]
  have hlt : ¬ (m ++ t).length < 9 := by rw [List.length_append]; omega
  unfold stR
  rw [if_neg hlt, et]
  by_cases h0 : Crc.ebits v f 72 32 = 0
  · rw [h0, Nat.xor_zero] at m1
    have e1 : m.take 9 = sealD (headP r) := le_inj _ _ (by rw [h9, hh9]) m1
    have e0 : m ++ t = sealD (headP r) ++ (m.drop 9 ++ t) := by rw [← e1, ← List.append_assoc, List.take_append_drop]
    obtain ⟨f1, f2, f3, f4⟩ := head_front r (m.drop 9 ++ t) hp
    have hn : nAt (m ++ t) = r.p.size := by rw [e0]; exact f2
    have hd : (m ++ t).drop 9 = m.drop 9 ++ t := by rw [e0]; exact f4
    have hdl : (m.drop 9).length = r.p.size + 4 := by rw [List.length_drop]; omega
    rw [e1, if_pos (sealD_ok _), hn, if_neg (by omega), if_neg (by rw [List.length_append]; omega), hd, List.take_append, show r.p.size + 4 - (m.drop 9).length = 0 by omega, List.take_zero, List.append_nil, List.take_of_length_le (by omega)]
    obtain ⟨v', f', hf', he⟩ := ebits_high v f N (by omega) hf
    rw [he] at m2
    have e8 : N - 72 = 8 * (sealD (sb r.p)).length := by rw [hb4]; omega
    rw [e8] at m2 hf' he
    have hbu := Crc.burst (sealD (sb r.p)) (m.drop 9) v' f' (sealD_ok _) (by rw [hdl, hb4]) hf' m2
    rw [if_neg]
    intro hk
    have hz := hbu.1 hk
    rw [← he] at hz
    have hlow := ebits_low v f N (by omega)
    rw [h0] at hlow
    exact hne (by have := Nat.div_add_mod (Crc.ebits v f N 32) (2 ^ 72); rw [hz, hlow] at this; omega)
  · have hf72 : f ≤ 8 * (sealD (headP r)).length := by
      rw [hh9]
      rcases Nat.lt_or_ge 72 f with hf7 | hf7
      · exfalso
        apply h0
        apply Nat.eq_of_testBit_eq
        intro p
        rw [Crc.ebits_bit, Nat.zero_testBit]
        by_cases h1 : p < 72
        · simp [show ¬ f ≤ p by omega]
        · simp [h1]
      · omega
    have hbu := Crc.burst (sealD (headP r)) (m.take 9) v f (sealD_ok _) (by rw [h9, hh9]) hf72 (by rw [hh9]; exact m1)
    rw [hh9] at hbu
    rw [if_neg fun hk => h0 (hbu.1 hk)]

theorem scan_turned (a b : List Rc) (r : Rc) (m : List UInt8) (v f : Nat) (hp : ∀ x ∈ a ++ r :: b, x.p.size ≤ 65536) (hlen : m.length = r.p.size + 13) (hf : f ≤ 8 * (r.p.size + 13)) (hm : Crc.le m = Crc.le (recB r) ^^^ Crc.ebits v f (8 * (r.p.size + 13)) 32) (hne : Crc.ebits v f (8 * (r.p.size + 13)) 32 ≠ 0) :
    scanR (recsB a ++ (m ++ recsB b)) = (a, (recsB a).length, 2) := by
  have ht := turned r m (recsB b) v f (hp r (by simp)) hlen hf hm hne
  rw [scan_put a _ fun x hx => hp x (by simp [hx]), scanR_stop (by intro e; have := congrArg List.length e; rw [List.length_append, hlen] at this; simp at this) (by rw [ht]; decide), ht]
  simp

end Go.Proofs.YtmpcddljgcckcaaDoor
