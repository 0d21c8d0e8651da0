/-
  Spans and their bytes, of no program: what was put is read as it was, what was read is put as its bytes; members and numbers of members of unions, cuts, intersections.
  Conditions: none.
-/
import Derived.Test.YtpbdnfonflmncaaGreatRef03AZ
namespace Go.Proofs.YtpbdnfonflmncaaGreat
set_option linter.unusedVariables false
set_option linter.unusedSimpArgs false
def readS : Nat → List UInt8 → List Sp
  | 0, _ => []
  | k + 1, b => (numOf (b.take 4), numOf ((b.drop 4).take 4)) :: readS k (b.drop 8)
theorem readS_snoc : ∀ (k : Nat) (b : List UInt8), readS (k + 1) b = readS k b ++ [(numOf ((b.drop (8 * k)).take 4), numOf ((b.drop (8 * k + 4)).take 4))]
 | 0, b => by simp [readS]
 | k + 1, b => by
  rw [readS, readS_snoc k (b.drop 8), readS]
  simp only [List.drop_drop, List.cons_append]
  rw [show 8 + 8 * k = 8 * (k + 1) by omega, show 8 + (8 * k + 4) = 8 * (k + 1) + 4 by omega]
theorem readS_length : ∀ (k : Nat) (b : List UInt8), (readS k b).length = k
 | 0, _ => rfl
 | k + 1, b => by simp [readS, readS_length k]
theorem numOf4_lt (l : List UInt8) : numOf (l.take 4) < 4294967296 := by
 have h1 := numOf_lt (l.take 4)
 have h2 : (l.take 4).length ≤ 4 := by simp; omega
 have h3 : 256 ^ (l.take 4).length ≤ 256 ^ 4 := Nat.pow_le_pow_right (by omega) h2
 exact Nat.lt_of_lt_of_le h1 (Nat.le_trans h3 (by decide))
theorem numOf2_lt (l : List UInt8) : numOf (l.take 2) < 65536 := by
 have h1 := numOf_lt (l.take 2)
 have h2 : (l.take 2).length ≤ 2 := by simp; omega
 have h3 : 256 ^ (l.take 2).length ≤ 256 ^ 2 := Nat.pow_le_pow_right (by omega) h2
 exact Nat.lt_of_lt_of_le h1 (Nat.le_trans h3 (by decide))
theorem readS_u32 : ∀ (k : Nat) (b : List UInt8), u32s (readS k b)
 | 0, _ => fun s hs => absurd hs (by simp [readS])
 | k + 1, b => fun s hs => by
  rcases List.mem_cons.1 hs with rfl | hs
  ·exact ⟨numOf4_lt _, numOf4_lt _⟩
  ·exact readS_u32 k _ s hs
def getD_ (b : List UInt8) : List Sp × Nat × Nat :=
  if b.length < 2 then ([], 0, 4)
  else if numOf (b.take 2) % 8 ≠ 0 ∨ 8000 < numOf (b.take 2) then ([], 0, 5)
  else if b.length < numOf (b.take 2) + 2 then ([], 0, 4)
  else if canon (readS (numOf (b.take 2) / 8) (b.drop 2)) then (readS (numOf (b.take 2) / 8) (b.drop 2), numOf (b.take 2) + 2, 0)
  else ([], 0, 5)
theorem numOf_be4 (n : Nat) (h : n < 4294967296) : numOf (be 4 n) = n := by
 have aux : ∀ (k n : Nat), numOf (be k n) = n % 256 ^ k := by
  intro k
  induction k with
  | zero => intro n; simp [be, numOf, Nat.mod_one]
  | succ k ih =>
   intro n
   rw [be, numOf_snoc, ih, Nat.pow_succ, Nat.mul_comm (256 ^ k) 256, Nat.mod_mul]
   simp
   omega
 rw [aux]
 exact Nat.mod_eq_of_lt (by simpa using h)
theorem numOf_be2 (n : Nat) (h : n < 65536) : numOf (be 2 n) = n := by
 have aux : ∀ (k n : Nat), numOf (be k n) = n % 256 ^ k := by
  intro k
  induction k with
  | zero => intro n; simp [be, numOf, Nat.mod_one]
  | succ k ih =>
   intro n
   rw [be, numOf_snoc, ih, Nat.pow_succ, Nat.mul_comm (256 ^ k) 256, Nat.mod_mul]
   simp
   omega
 rw [aux]
 exact Nat.mod_eq_of_lt (by simpa using h)
theorem s_be_numOf : ∀ (k : Nat) (l : List UInt8), l.length = k → be k (numOf l) = l
 | 0, l, h => by
  obtain rfl := List.length_eq_zero_iff.1 h
  rfl
 | k + 1, l, h => by
  have hne : l ≠ [] := by intro e; simp [e] at h
  rw [← List.dropLast_concat_getLast hne, numOf_snoc, be]
  have hb := (l.getLast hne).toNat_lt
  rw [show (numOf l.dropLast * 256 + (l.getLast hne).toNat) / 256 = numOf l.dropLast by omega, s_be_numOf k l.dropLast (by simp [h])]
  congr 2
  rw [show UInt8.ofNat (numOf l.dropLast * 256 + (l.getLast hne).toNat) = UInt8.ofNat (l.getLast hne).toNat by
   apply UInt8.toNat_inj.1
   simp
   ]
  simp
def bodyS (l : List Sp) : List UInt8 := l.flatMap fun s => be 4 s.1 ++ be 4 s.2
theorem encS_eq (l : List Sp) : encS l = be 2 (8 * l.length) ++ bodyS l := rfl
theorem bodyS_length (l : List Sp) : (bodyS l).length = 8 * l.length := encS_length_le l
theorem readS_bodyS : ∀ (l : List Sp) (b : List UInt8), u32s l → readS l.length (bodyS l ++ b) = l
 | [], _, _ => rfl
 | s :: l, b, h => by
  have h0 := h s (List.mem_cons_self ..)
  have e : bodyS (s :: l) ++ b = be 4 s.1 ++ (be 4 s.2 ++ (bodyS l ++ b)) := by simp [bodyS]
  have t1 : ∀ (r : List UInt8), (be 4 s.1 ++ r).take 4 = be 4 s.1 := fun r => by
   rw [List.take_append_of_le_length (by rw [be_length]; exact Nat.le_refl _), List.take_of_length_le (by rw [be_length]; exact Nat.le_refl _)]
  have t2 : ∀ (r : List UInt8), (be 4 s.2 ++ r).take 4 = be 4 s.2 := fun r => by
   rw [List.take_append_of_le_length (by rw [be_length]; exact Nat.le_refl _), List.take_of_length_le (by rw [be_length]; exact Nat.le_refl _)]
  have d1 : ∀ (r : List UInt8), (be 4 s.1 ++ r).drop 4 = r := fun r => by
   rw [List.drop_append_of_le_length (by rw [be_length]; exact Nat.le_refl _), List.drop_of_length_le (by rw [be_length]; exact Nat.le_refl _)]
   rfl
  have d2 : ∀ (r : List UInt8), (be 4 s.1 ++ (be 4 s.2 ++ r)).drop 8 = r := fun r => by
   rw [show 8 = 4 + 4 from rfl, ← List.drop_drop, d1, List.drop_append_of_le_length (by rw [be_length]; exact Nat.le_refl _), List.drop_of_length_le (by rw [be_length]; exact Nat.le_refl _)]
   rfl
  rw [e, List.length_cons, readS, t1, d1, t2, d2, numOf_be4 _ h0.1, numOf_be4 _ h0.2, readS_bodyS l b fun t ht => h t (List.mem_cons_of_mem _ ht)]
theorem bodyS_readS : ∀ (k : Nat) (b : List UInt8), 8 * k ≤ b.length → bodyS (readS k b) = b.take (8 * k)
 | 0, _, _ => by simp [readS, bodyS]
 | k + 1, b, h => by
  have e : bodyS (readS (k + 1) b) = be 4 (numOf (b.take 4)) ++ (be 4 (numOf ((b.drop 4).take 4)) ++ bodyS (readS k (b.drop 8))) := by simp [bodyS, readS]
  rw [e, s_be_numOf 4 _ (by simp; omega), s_be_numOf 4 _ (by simp; omega), bodyS_readS k _ (by simp; omega), show 8 * (k + 1) = 4 + (4 + 8 * k) by omega, List.take_add, List.take_add, List.drop_drop]
theorem getD_encS (l : List Sp) (b : List UInt8) (hu : u32s l) (hc : canon l) (hn : l.length ≤ 1000) : getD_ (encS l ++ b) = (l, (encS l).length, 0) := by
 have hlen : (encS l).length = 2 + 8 * l.length := by rw [encS_eq, List.length_append, be_length, bodyS_length]
 have ht : (encS l ++ b).take 2 = be 2 (8 * l.length) := by
  rw [encS_eq, List.append_assoc, List.take_append_of_le_length (by rw [be_length]; exact Nat.le_refl _), List.take_of_length_le (by rw [be_length]; exact Nat.le_refl _)]
 have hd : (encS l ++ b).drop 2 = bodyS l ++ b := by
  rw [encS_eq, List.append_assoc, List.drop_append_of_le_length (by rw [be_length]; exact Nat.le_refl _), List.drop_of_length_le (by rw [be_length]; exact Nat.le_refl _)]
  rfl
 unfold getD_
 rw [ht, hd, numOf_be2 _ (by omega), if_neg (by rw [List.length_append, hlen]; omega), if_neg (by omega), if_neg (by rw [List.length_append, hlen]; omega), show 8 * l.length / 8 = l.length by omega, readS_bodyS l b hu, if_pos hc, hlen, Nat.add_comm]
theorem getD_ok (b : List UInt8) (h : (getD_ b).2.2 = 0) : canon (getD_ b).1 ∧ u32s (getD_ b).1 ∧ (getD_ b).1.length ≤ 1000 ∧ (getD_ b).2.1 ≤ b.length ∧ encS (getD_ b).1 = b.take (getD_ b).2.1 := by
 unfold getD_ at h ⊢
 split at h
 ·simp at h
 ·rename_i h1
  split at h
  ·simp at h
  ·rename_i h2
   split at h
   ·simp at h
   ·rename_i h3
    split at h
    ·rename_i h4
     rw [if_neg h1, if_neg h2, if_neg h3, if_pos h4]
     refine ⟨h4, readS_u32 _ _, by rw [readS_length]; omega, by simp only; omega, ?_⟩
     obtain ⟨K, hK⟩ : ∃ K, numOf (b.take 2) = 8 * K := ⟨numOf (b.take 2) / 8, by omega⟩
     show encS (readS _ _) = b.take (_ + 2)
     rw [encS_eq, readS_length, hK, show 8 * K / 8 = K by omega, bodyS_readS K _ (by simp; omega), Nat.add_comm (8 * K) 2, List.take_add, ← hK, s_be_numOf 2 _ (by simp; omega)]
    ·simp at h
theorem getD_bad (b : List UInt8) (h : (getD_ b).2.2 ≠ 0) : (getD_ b).1 = [] ∧ (getD_ b).2.1 = 0 := by
 unfold getD_ at h ⊢
 split
 ·exact ⟨rfl, rfl⟩
 ·rename_i h1
  split
  ·exact ⟨rfl, rfl⟩
  ·rename_i h2
   split
   ·exact ⟨rfl, rfl⟩
   ·rename_i h3
    split
    ·rename_i h4
     rw [if_neg h1, if_neg h2, if_neg h3, if_pos h4] at h
     exact absurd rfl h
    ·exact ⟨rfl, rfl⟩
end Go.Proofs.YtpbdnfonflmncaaGreat
