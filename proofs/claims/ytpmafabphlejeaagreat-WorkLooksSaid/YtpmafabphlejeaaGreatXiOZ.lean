/-
  Texts, together: XiP, XiV8, XiQ, XiO.
  Conditions: none but sizes.
-/
import Derived.Test.YtpmafabphlejeaaGreatRef04AZ
import Derived.Test.YtpmafabphlejeaaGreatOctAZ
import Derived.Test.YtpmafabphlejeaaGreatXiAZ
/-
  Plain facts: what reading a name's bytes tells.
  Conditions: none. Nothing here speaks of the program's runs.
-/
namespace Go.Proofs.YtpmafabphlejeaaGreat
open Go.RowKit
set_option linter.unusedVariables false
set_option linter.unusedSimpArgs false

/-- The three fields at the head of bytes, and how many bytes they take. -/
def getD (l : List UInt8) : Option (Nat × List UInt8 × List UInt8 × Nat) :=
  if l.length < 5 then none
  else if l.length < 6 + (l.getD 4 0).toNat then none
  else if l.length < 6 + (l.getD 4 0).toNat + (l.getD (5 + (l.getD 4 0).toNat) 0).toNat then none
  else some (numOf (l.take 4), (l.drop 5).take (l.getD 4 0).toNat, (l.drop (6 + (l.getD 4 0).toNat)).take (l.getD (5 + (l.getD 4 0).toNat) 0).toNat, 6 + (l.getD 4 0).toNat + (l.getD (5 + (l.getD 4 0).toNat) 0).toNat)

theorem textS_nil : textS 1 255 (some []) = ([], none) := by
  have hn : numS 1 (some ([] : List UInt8)) = (0, none) := by unfold numS; rw [if_pos (by decide)]; rfl
  unfold textS
  rw [if_pos (show txt 1 = true by decide), hn]
  rfl
theorem textS_none : textS 1 255 none = ([], none) := by
  have hn : numS 1 (none : Option (List UInt8)) = (0, none) := by unfold numS; rw [if_pos (by decide)]; rfl
  unfold textS
  rw [if_pos (show txt 1 = true by decide), hn]
  rfl
theorem textS_cons (c : UInt8) (l : List UInt8) : textS 1 255 (some (c :: l)) = if c.toNat ≤ l.length then (l.take c.toNat, some (l.drop c.toNat)) else ([], none) := by
  have hc := c.toNat_lt
  have hn : numS 1 (some (c :: l)) = (c.toNat, some l) := by
    unfold numS
    rw [if_pos (by decide), show takeS 1 (some (c :: l)) = ([c], some l) from (takeS_ok 1 (c :: l) (by simp)).trans (by simp)]
    simp [numOf]
  unfold textS
  rw [if_pos (show txt 1 = true by decide), hn]
  unfold textT
  simp only
  rw [if_neg (by omega)]
  by_cases h : c.toNat ≤ l.length
  · rw [if_pos h, takeS_ok _ _ h]
  · rw [if_neg h, takeS_far _ _ (by omega)]

theorem drop_cons_getD (l : List UInt8) (k : Nat) (h : k < l.length) : l.drop k = l.getD k 0 :: l.drop (k + 1) := by
  rw [List.drop_eq_getElem_cons h]
  simp [List.getD, h]

theorem numS4 (l : List UInt8) : numS 4 (some l) = if 4 ≤ l.length then (numOf (l.take 4), some (l.drop 4)) else (0, none) := by
  unfold numS
  rw [if_pos (by decide)]
  by_cases h : 4 ≤ l.length
  · rw [if_pos h, show takeS 4 (some l) = (l.take 4, some (l.drop 4)) from takeS_ok 4 l h]
  · rw [if_neg h, show takeS 4 (some l) = ([], none) from takeS_far 4 l (by omega)]
    rfl

theorem gx_short (l : List UInt8) (h : getD l = none) : (gx3 l).2 = none := by
  unfold gx3 gx2 gx1
  rw [numS4]
  by_cases h4 : 4 ≤ l.length
  · rw [if_pos h4]
    simp only
    by_cases h5 : l.length < 5
    · rw [List.drop_of_length_le (by omega), textS_nil]
      simp only [textS_none]
    · rw [drop_cons_getD l 4 (by omega), textS_cons]
      unfold getD at h
      rw [if_neg h5] at h
      by_cases h6 : l.length < 6 + (l.getD 4 0).toNat
      · by_cases h7 : (l.getD 4 0).toNat ≤ (l.drop (4 + 1)).length
        · rw [if_pos h7]
          simp only [List.length_drop] at h7
          simp only [List.drop_drop]
          rw [List.drop_of_length_le (by omega), textS_nil]
        · rw [if_neg h7]
          simp only [textS_none]
      · rw [if_neg h6] at h
        rw [if_pos (by rw [List.length_drop]; omega)]
        simp only [List.drop_drop]
        rw [drop_cons_getD l _ (by omega), textS_cons]
        by_cases h8 : l.length < 6 + (l.getD 4 0).toNat + (l.getD (5 + (l.getD 4 0).toNat) 0).toNat
        · rw [if_neg]
          rw [show 4 + 1 + (l.getD 4 0).toNat = 5 + (l.getD 4 0).toNat by omega]
          simp only [List.length_drop]
          omega
        · rw [if_neg h8] at h
          cases h
  · rw [if_neg h4]
    simp only [textS_none]

theorem gx_some (l : List UInt8) (f : Nat) (g h : List UInt8) (c : Nat) (hg : getD l = some (f, g, h, c)) : (gx1 l).1 = f ∧ (gx2 l).1 = g ∧ (gx3 l).1 = h ∧ (gx3 l).2 = some (l.drop c) ∧ c ≤ l.length := by
  unfold getD at hg
  split at hg
  · cases hg
  · rename_i h5
    split at hg
    · cases hg
    · rename_i h6
      split at hg
      · cases hg
      · rename_i h8
        simp only [Option.some.injEq, Prod.mk.injEq] at hg
        obtain ⟨e1, e2, e3, e4⟩ := hg
        have hgx1 : gx1 l = (numOf (l.take 4), some (l.drop 4)) := by unfold gx1; rw [numS4, if_pos (by omega)]
        have hgx2 : gx2 l = ((l.drop 5).take (l.getD 4 0).toNat, some (l.drop (5 + (l.getD 4 0).toNat))) := by
          unfold gx2
          rw [hgx1]
          simp only
          rw [drop_cons_getD l 4 (by omega), textS_cons, if_pos (by rw [List.length_drop]; omega)]
          simp only [List.drop_drop]
        have hgx3 : gx3 l = ((l.drop (6 + (l.getD 4 0).toNat)).take (l.getD (5 + (l.getD 4 0).toNat) 0).toNat, some (l.drop (6 + (l.getD 4 0).toNat + (l.getD (5 + (l.getD 4 0).toNat) 0).toNat))) := by
          unfold gx3
          rw [hgx2]
          simp only
          rw [drop_cons_getD l _ (by omega), textS_cons, if_pos (by rw [List.length_drop]; omega)]
          simp only [List.drop_drop]
          rw [show 5 + (l.getD 4 0).toNat + 1 = 6 + (l.getD 4 0).toNat by omega]
        rw [hgx1, hgx2, hgx3]
        exact ⟨e1, e2, e3, by rw [← e4], by omega⟩

/-- A front of 516 bytes tells all. -/
theorem getD_take (l : List UInt8) : getD (l.take 516) = getD l := by
  by_cases h : l.length ≤ 516
  · rw [List.take_of_length_le h]
  · have hl : (l.take 516).length = 516 := by simp; omega
    have hg : ∀ k, k < 516 → (l.take 516).getD k 0 = l.getD k 0 := fun k hk => by simp [List.getD, List.getElem?_take, hk]
    have ha := (l.getD 4 0).toNat_lt
    have hb := (l.getD (5 + (l.getD 4 0).toNat) 0).toNat_lt
    unfold getD
    rw [hl, hg 4 (by omega), hg (5 + (l.getD 4 0).toNat) (by omega)]
    rw [if_neg (by omega), if_neg (by omega), if_neg (by omega), if_neg (by omega), if_neg (by omega), if_neg (by omega)]
    have t1 : (l.take 516).take 4 = l.take 4 := by rw [List.take_take]; congr 1
    have t2 : ∀ a k, a + k ≤ 516 → ((l.take 516).drop a).take k = (l.drop a).take k := fun a k hk => by
      rw [List.drop_take, List.take_take]
      congr 1
      omega
    rw [t1, t2 _ _ (by omega), t2 _ _ (by omega)]

end Go.Proofs.YtpmafabphlejeaaGreat
/-
  Plain facts: what the bytes of a name tell when they are read; they tell names apart; bytes that are read as a name are that name's.
  Conditions: none. Nothing here speaks of the program's runs.
-/
namespace Go.Proofs.YtpmafabphlejeaaGreat
open Go.RowKit
set_option linter.unusedVariables false
set_option linter.unusedSimpArgs false

theorem xnumOf_be : ∀ (k n : Nat), numOf (be k n) = n % 256 ^ k
  | 0, n => by simp [be, numOf, Nat.mod_one]
  | k + 1, n => by
    rw [be, numOf_snoc, xnumOf_be k]
    have h1 : (UInt8.ofNat n).toNat = n % 256 := by simp
    rw [h1, Nat.pow_succ, Nat.mul_comm (256 ^ k) 256, Nat.mod_mul]
    omega
theorem xsb_inj {a b : ByteArray} : sb a = sb b ↔ a = b := by
  constructor
  · intro h
    rw [← str8_sb a, h, str8_sb]
  · rintro rfl; rfl
theorem encX_length (f : Nat) (g h : ByteArray) : (encX f g h).length = 6 + g.size + h.size := by
  unfold encX
  simp [be_length, sb_length]
  omega

theorem getD_parts (B G H r : List UInt8) (hB : B.length = 4) (hG : G.length < 256) (hH : H.length < 256) :
    getD (B ++ [UInt8.ofNat G.length] ++ G ++ [UInt8.ofNat H.length] ++ H ++ r) = some (numOf B, G, H, 6 + G.length + H.length) := by
  have e : B ++ [UInt8.ofNat G.length] ++ G ++ [UInt8.ofNat H.length] ++ H ++ r = B ++ (UInt8.ofNat G.length :: (G ++ (UInt8.ofNat H.length :: (H ++ r)))) := by simp
  rw [e]
  have cG : (UInt8.ofNat G.length).toNat = G.length := by simp; omega
  have cH : (UInt8.ofNat H.length).toNat = H.length := by simp; omega
  generalize UInt8.ofNat G.length = x at *
  generalize UInt8.ofNat H.length = y at *
  have l4 : (B ++ (x :: (G ++ (y :: (H ++ r))))).getD 4 0 = x := by
    rw [List.getD_eq_getElem?_getD, List.getElem?_append_right (by omega), hB]; rfl
  have d5 : (B ++ (x :: (G ++ (y :: (H ++ r))))).drop 5 = G ++ (y :: (H ++ r)) := by
    rw [show (5 : Nat) = B.length + 1 by omega, ← List.drop_drop, List.drop_left]; rfl
  have l5 : (B ++ (x :: (G ++ (y :: (H ++ r))))).getD (5 + G.length) 0 = y := by
    rw [List.getD_eq_getElem?_getD, ← List.getElem?_drop, d5, List.getElem?_append_right (Nat.le_refl _), Nat.sub_self]; rfl
  have d6 : (B ++ (x :: (G ++ (y :: (H ++ r))))).drop (6 + G.length) = H ++ r := by
    rw [show 6 + G.length = 5 + (G.length + 1) by omega, ← List.drop_drop, d5, ← List.drop_drop, List.drop_left]; rfl
  have ll : (B ++ (x :: (G ++ (y :: (H ++ r))))).length = 6 + G.length + H.length + r.length := by simp; omega
  unfold getD
  rw [l4, cG, l5, cH, d5, d6, ll, if_neg (by omega), if_neg (by omega), if_neg (by omega)]
  rw [← hB, List.take_left, List.take_left, List.take_left]

theorem getD_enc (f : Nat) (g h : ByteArray) (r : List UInt8) (hm : mayX g h) (hf : f < 4294967296) : getD (encX f g h ++ r) = some (f, sb g, sb h, (encX f g h).length) := by
  obtain ⟨m1, m2, m3⟩ := hm
  have := getD_parts (be 4 f) (sb g) (sb h) r (be_length _ _) (by rw [sb_length]; omega) (by rw [sb_length]; omega)
  rw [encX_length]
  rw [sb_length, sb_length, xnumOf_be, Nat.mod_eq_of_lt (by omega)] at this
  exact this

theorem encX_inj {f1 f2 : Nat} {g1 h1 g2 h2 : ByteArray} (hm1 : mayX g1 h1) (hm2 : mayX g2 h2) (hf1 : f1 < 4294967296) (hf2 : f2 < 4294967296) (h : encX f1 g1 h1 = encX f2 g2 h2) : f1 = f2 ∧ g1 = g2 ∧ h1 = h2 := by
  have e1 := getD_enc f1 g1 h1 [] hm1 hf1
  rw [h, getD_enc f2 g2 h2 [] hm2 hf2] at e1
  simp only [Option.some.injEq, Prod.mk.injEq] at e1
  exact ⟨e1.1.symm, (xsb_inj.1 e1.2.1).symm, (xsb_inj.1 e1.2.2.1).symm⟩

theorem xbe_numOf : ∀ (k : Nat) (l : List UInt8), l.length = k → be k (numOf l) = l
  | 0, l, h => by
    obtain rfl := List.length_eq_zero_iff.1 h
    rfl
  | k + 1, l, h => by
    have hne : l ≠ [] := by intro e; simp [e] at h
    rw [← List.dropLast_concat_getLast hne, numOf_snoc, be]
    have hb := (l.getLast hne).toNat_lt
    rw [show (numOf l.dropLast * 256 + (l.getLast hne).toNat) / 256 = numOf l.dropLast by omega, xbe_numOf k l.dropLast (by simp [h])]
    congr 2
    rw [show UInt8.ofNat (numOf l.dropLast * 256 + (l.getLast hne).toNat) = UInt8.ofNat (l.getLast hne).toNat by
      apply UInt8.toNat_inj.1
      simp
      ]
    simp
theorem getD_sound {l : List UInt8} {f n : Nat} {g h : List UInt8} (hg : getD l = some (f, g, h, n)) (hm : mayX (str8 g) (str8 h)) : f < 4294967296 ∧ encX f (str8 g) (str8 h) = l.take n ∧ n ≤ l.length := by
  unfold getD at hg
  split at hg
  · cases hg
  split at hg
  · cases hg
  split at hg
  · cases hg
  rename_i h1 h2 h3
  simp only [Option.some.injEq, Prod.mk.injEq] at hg
  obtain ⟨rfl, eg, eh, rfl⟩ := hg
  have hf : numOf (l.take 4) < 4294967296 := by
    have := numOf_lt (l.take 4)
    rw [List.length_take, Nat.min_eq_left (by omega)] at this
    exact this
  have lg : g.length = (l.getD 4 0).toNat := by rw [← eg, List.length_take, List.length_drop]; omega
  have d4 : l.drop 4 = l.getD 4 0 :: l.drop 5 := drop_cons_getD l 4 (by omega)
  have d5 : l.drop (5 + (l.getD 4 0).toNat) = l.getD (5 + (l.getD 4 0).toNat) 0 :: l.drop (6 + (l.getD 4 0).toNat) := by
    rw [show 6 + (l.getD 4 0).toNat = 5 + (l.getD 4 0).toNat + 1 by omega]
    exact drop_cons_getD l _ (by omega)
  have lh : h.length = (l.getD (5 + (l.getD 4 0).toNat) 0).toNat := by rw [← eh, List.length_take, List.length_drop]; omega
  refine ⟨hf, ?_, by omega⟩
  unfold encX
  rw [str8_size, str8_size, sb_str8, sb_str8, xbe_numOf 4 _ (by simp; omega), lg, lh]
  generalize hx : l.getD 4 0 = x at *
  generalize hy : l.getD (5 + x.toNat) 0 = y at *
  have e1 : UInt8.ofNat x.toNat = x := by simp
  have e2 : UInt8.ofNat y.toNat = y := by simp
  rw [e1, e2, ← eg, ← eh]
  have t1 : l = l.take 4 ++ (x :: ((l.drop 5).take x.toNat ++ (y :: ((l.drop (6 + x.toNat)).take y.toNat ++ l.drop (6 + x.toNat + y.toNat))))) := by
    conv => lhs; rw [← List.take_append_drop 4 l, d4, ← List.take_append_drop x.toNat (l.drop 5), List.drop_drop, d5, ← List.take_append_drop y.toNat (l.drop (6 + x.toNat)), List.drop_drop]
  have t2 : (6 + x.toNat + y.toNat) = (l.take 4 ++ [x] ++ (l.drop 5).take x.toNat ++ [y] ++ (l.drop (6 + x.toNat)).take y.toNat).length := by simp; omega
  conv => rhs; rw [t1]
  rw [show l.take 4 ++ (x :: ((l.drop 5).take x.toNat ++ (y :: ((l.drop (6 + x.toNat)).take y.toNat ++ l.drop (6 + x.toNat + y.toNat))))) = (l.take 4 ++ [x] ++ (l.drop 5).take x.toNat ++ [y] ++ (l.drop (6 + x.toNat)).take y.toNat) ++ l.drop (6 + x.toNat + y.toNat) by simp]
  rw [t2, List.take_left]

end Go.Proofs.YtpmafabphlejeaaGreat
/-
  The contract of xid's Get.
  Conditions: at most 2^47 bytes.
-/
namespace Go.Proofs.YtpmafabphlejeaaGreat
open Go.RowKit
set_option linter.unusedVariables false
set_option linter.unusedSimpArgs false

theorem Shows.head_ {w : World} {d c k : Nat} {A : Option Addr} {l : List UInt8} (h : Shows w d (.slice A l.length c) l) (hk : k ≤ l.length) : Shows w d (.slice A (l.take k).length c) (l.take k) := by
  obtain ⟨h1, h2, h3⟩ := h.lens
  refine ⟨A, c, rfl, by simp; omega, h3, fun hp => ?_⟩
  simp at hp
  obtain ⟨o, h5, h6, h7⟩ := h.at_ (by omega)
  exact ⟨o, h5, h6, fun j hj => by rw [h7 j (by simp at hj; omega)]; simp⟩

end Go.Proofs.YtpmafabphlejeaaGreat
/-
  The contract of xid's Put.
  Conditions: none but sizes.
-/
namespace Go.Proofs.YtpmafabphlejeaaGreat
open Go.RowKit
set_option linter.unusedVariables false
set_option linter.unusedSimpArgs false

theorem be1 (n : Nat) : be 1 n = [UInt8.ofNat n] := by simp [be]

end Go.Proofs.YtpmafabphlejeaaGreat
